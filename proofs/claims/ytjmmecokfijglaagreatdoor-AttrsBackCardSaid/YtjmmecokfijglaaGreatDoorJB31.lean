/-
  Texts of this seat's proof, joined: their order is that of the build.
-/
import Derived.Test.YtjmmecokfijglaaGreatDoorJB26
import Derived.Test.YtjmmecokfijglaaGreatDoorJB30
import Derived.Laws.StructEq
namespace Go.Proofs.YtjmmecokfijglaaGreatDoor
open Go.ChangeShapes Go.WideShapes Go.ChangeAt Go.RowKit

/-- The block of a head that fits. -/
def hdBuild (h : Hd) : List UInt8 := match txtPart h.name with
  | some (p, b) => sealOf (hdRaw h p b)
  | none => []
theorem hdBuild_of (h : Hd) (p b : List UInt8) (hp : txtPart h.name = some (p, b)) : hdBuild h = sealOf (hdRaw h p b) := by unfold hdBuild; rw [hp]

theorem build_fits (h : Hd) (w : World) (hk : 0 ≤ h.kind ∧ h.kind < 256) (hok : h.okN) (hl : h.name.length ≤ 9223372036854775807) (hf : hdFits h = 0) :
    Calls Tryz.prog 19 #[h.val] w fun e w' => Below w.heap.size w w' ∧ e = .returned (.tuple #[.string ⟨(hdBuild h).toArray⟩, .int .i64 0]) := by
  obtain ⟨p, b, hp, hpl, hbl⟩ := fits_part h hf
  rw [hdBuild_of h p b hp]
  exact build_yes h w hk hok hl hf p b hp hpl hbl

theorem hdBuild_facts (h : Hd) (hk : 0 ≤ h.kind ∧ h.kind < 256) (hf : hdFits h = 0) : (hdBuild h).length = 512 ∧ hdParse (hdBuild h) = (h.posix, 0) := by
  obtain ⟨p, b, hp, hpl, hbl⟩ := fits_part h hf
  rw [hdBuild_of h p b hp]
  refine ⟨?_, parse_built h hk hf p b hp hpl hbl⟩
  have hw := fits_words h hf
  rw [hdRaw_cat h p b hpl hbl (hw 0 (by decide)) (hw 1 (by decide)) (hw 2 (by decide))]
  exact sealOf_length _ (cat512 _ (hdS_wide h p b hpl hbl (hw 0 (by decide)) (hw 1 (by decide)) (hw 2 (by decide))))

theorem refBuild_any (h : Hd) (w : World) (hk : 0 ≤ h.kind ∧ h.kind < 256) (hl : h.name.length ≤ 9223372036854775807) (hf : hdFits h = 0) :
    Calls Tryz.prog 52 #[h.val] w fun e w' => Below w.heap.size w w' ∧ e = .returned (.string ⟨(hdBuild h).toArray⟩) := by
  obtain ⟨p, b, hp, hpl, hbl⟩ := fits_part h hf
  have hw := fits_words h hf
  have hn := fits_nums h hf
  obtain ⟨z1, z2, z3, z4⟩ := fits_nul h hf
  obtain ⟨-, zp, zb⟩ := name_parts h p b hp z4
  have w0 : h.link.length ≤ 100 := hw 0 (by decide)
  have w1 : h.uname.length ≤ 32 := hw 1 (by decide)
  have w2 : h.gname.length ≤ 32 := hw 2 (by decide)
  rw [hdBuild_of h p b hp, ← seal_same h p b hpl hbl w0 w1 w2]
  have o : ∀ v : Int, (octStr v 8).length = 8 := fun v => octStr_length v 8 (by decide)
  have o' : ∀ v : Int, (octStr v 12).length = 12 := fun v => octStr_length v 12 (by decide)
  refine refBuild_walk w h.cells h.name h.link h.uname h.gname p b (padF b 100) (padF h.link 100) (padF h.uname 32) (padF h.gname 32) (padF p 155) (padF [] 12) (octStr h.mode 8) (octStr h.uid 8) (octStr h.gid 8) (octStr h.size 12) (octStr h.time 12) (octStr h.major 8) (octStr h.minor 8) _ h.kind h.mode h.uid h.gid h.size h.time h.major h.minor
    (Lib.hid hk) (Lib.hid ⟨rfl, rfl, rfl, rfl, rfl, rfl, rfl, rfl, rfl, rfl, rfl, rfl⟩) ?_ ?_ ?_ ?_ ?_ ?_ ?_ ?_ ?_ ?_ ?_ ?_ ?_ ?_ (padF_length _ _ hbl) (o _) (o _) (o _) (o' _) (o' _) (padF_length _ _ w0) (padF_length _ _ w1) (padF_length _ _ w2) (o _) (o _) (padF_length _ _ hpl) rfl ?_
  · refine Lib.hid fun w => ?_
    have := refTPart_any h.name w hl
    rw [hp] at this
    exact this
  · exact Lib.hid fun w => refField_any b 100 w (by decide) hbl zb
  · exact Lib.hid fun w => refField_any h.link 100 w (by decide) w0 z1
  · exact Lib.hid fun w => refField_any h.uname 32 w (by decide) w1 z2
  · exact Lib.hid fun w => refField_any h.gname 32 w (by decide) w2 z3
  · exact Lib.hid fun w => refField_any p 155 w (by decide) hpl zp
  · exact Lib.hid fun w => refField_any [] 12 w (by decide) (by decide) (by simp)
  · exact Lib.hid fun w => refOctF_any h.mode 8 w (.inl rfl) (hn 0 (by decide))
  · exact Lib.hid fun w => refOctF_any h.uid 8 w (.inl rfl) (hn 1 (by decide))
  · exact Lib.hid fun w => refOctF_any h.gid 8 w (.inl rfl) (hn 2 (by decide))
  · exact Lib.hid fun w => refOctF_any h.size 12 w (.inr rfl) (hn 3 (by decide))
  · exact Lib.hid fun w => refOctF_any h.time 12 w (.inr rfl) (hn 4 (by decide))
  · exact Lib.hid fun w => refOctF_any h.major 8 w (.inl rfl) (hn 5 (by decide))
  · exact Lib.hid fun w => refOctF_any h.minor 8 w (.inl rfl) (hn 6 (by decide))
  · refine Lib.hid fun w => ?_
    have hlen : (refRaw h p b).length = 512 := by
      rw [refRaw_cat]
      exact cat512 _ (wide_upd _ (hdS_wide h p b hpl hbl w0 w1 w2) 6 _ rfl)
    exact refSeal_any (refRaw h p b) w hlen

/-- The example's head. -/
def hdEx : Hd := { Hd.zero with name := [97], kind := 48, mode := 420 }
theorem ex_fits : hdFits hdEx = 0 := by decide
theorem ex_okN : hdEx.okN := by
  intro k hk
  rcases lt7 hk with rfl | rfl | rfl | rfl | rfl | rfl | rfl <;> decide
theorem ex_mode : ((hdBuild hdEx).drop 100).take 8 = [48, 48, 48, 48, 54, 52, 52, 0] := by
  have hp : txtPart hdEx.name = some ([], [97]) := by decide
  rw [hdBuild_of hdEx [] [97] hp, hdRaw_cat hdEx [] [97] (by decide) (by decide) (by decide) (by decide) (by decide)]
  have h := fld_seal (hdS hdEx [] [97]) (hdS_wide hdEx [] [97] (by decide) (by decide) (by decide) (by decide) (by decide)) 1 (by decide) (by decide)
  have h2 : hdS hdEx [] [97] 1 = [48, 48, 48, 48, 54, 52, 52, 0] := by decide
  rw [h2] at h
  exact h

end Go.Proofs.YtjmmecokfijglaaGreatDoor
