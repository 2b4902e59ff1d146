/-
  A block of the form Old. No row of the program is read here.
-/
import Derived.Test.YtlloaalaldomkaaDoorHdY
namespace Go.Proofs.YtlloaalaldomkaaDoor
open Go.ChangeShapes Go.WideShapes Go.ChangeAt Go.RowKit

def nul8 : List UInt8 := [0, 0, 0, 0, 0, 0, 0, 0]
def Hd.old (h : Hd) : Hd := { h.posix with form := 1, uname := [], gname := [], major := 0, minor := 0 }
/-- The statement's block: a built one, its mark, the name's first part and its devices laid over. -/
def oldBlock (B junk : List UInt8) : List UInt8 := over (over (over B 257 nul8) 345 junk) 329 (junk.take 8)
theorem old_cat (S : Nat → List UInt8) (hS : Wide S) (junk : List UInt8) (hj : junk.length ≤ 155) :
    ∃ S', Wide S' ∧ oldBlock (catN S 16) junk = catN S' 16 ∧ S' 9 = nul8 ∧ ∀ j, j ≠ 9 → j ≠ 12 → j ≠ 14 → S' j = S j := by
  have a1 := over_cat S hS 9 nul8 (by decide) 16 (Nat.le_refl _) (by decide)
  have w1 : Wide (upd S 9 (nul8 ++ (S 9).drop nul8.length)) := wide_upd S hS 9 _ (by rw [List.length_append, List.length_drop, hS 9 (by decide)]; rfl)
  have a2 := over_cat _ w1 14 junk hj 16 (Nat.le_refl _) (by decide)
  have l14 : ((upd S 9 (nul8 ++ (S 9).drop nul8.length)) 14).length = 155 := w1 14 (by decide)
  have w2 := wide_upd _ w1 14 (junk ++ ((upd S 9 (nul8 ++ (S 9).drop nul8.length)) 14).drop junk.length) (by rw [List.length_append, List.length_drop, l14]; show _ = 155; omega)
  have ht : (junk.take 8).length ≤ 8 := by rw [List.length_take]; exact Nat.min_le_left _ _
  have a3 := over_cat _ w2 12 (junk.take 8) ht 16 (Nat.le_refl _) (by decide)
  have l12 := w2 12 (by decide)
  have w3 := wide_upd _ w2 12 (junk.take 8 ++ (upd (upd S 9 (nul8 ++ (S 9).drop nul8.length)) 14 (junk ++ ((upd S 9 (nul8 ++ (S 9).drop nul8.length)) 14).drop junk.length) 12).drop (junk.take 8).length) (by rw [List.length_append, List.length_drop, l12]; have : lnN 12 = 8 := rfl; omega)
  refine ⟨_, w3, ?_, ?_, ?_⟩
  · unfold oldBlock
    rw [show (257 : Nat) = offs 9 from rfl, a1, show (345 : Nat) = offs 14 from rfl, a2, show (329 : Nat) = offs 12 from rfl, a3]
  · show nul8 ++ (S 9).drop nul8.length = nul8
    rw [List.drop_of_length_le (by rw [hS 9 (by decide)]; decide), List.append_nil]
  · intro j h9 h12 h14
    unfold upd
    rw [if_neg h12, if_neg h14, if_neg h9]

theorem parse_old (h : Hd) (hk : 0 ≤ h.kind ∧ h.kind < 256) (hf : hdFits h = 0) (hn : h.name.length ≤ 100) (junk : List UInt8) (hj : junk.length ≤ 155) :
    (oldBlock (hdBuild h) junk).length = 512 ∧ hdParse (sealOf (oldBlock (hdBuild h) junk)) = (h.old, 0) := by
  have hp : txtPart h.name = some ([], h.name) := by unfold txtPart; rw [if_pos hn]
  have hw := fits_words h hf
  have hnm := fits_nums h hf
  obtain ⟨z1, z2, z3, z4⟩ := fits_nul h hf
  have hS := hdS_wide h [] h.name (by decide) hn (hw 0 (by decide)) (hw 1 (by decide)) (hw 2 (by decide))
  rw [hdBuild_of h [] h.name hp, hdRaw_cat h [] h.name (by decide) hn (hw 0 (by decide)) (hw 1 (by decide)) (hw 2 (by decide)), seal_cat _ hS]
  obtain ⟨S, hW, he, h9, hr⟩ := old_cat _ (wide_upd _ hS 6 (sealField (bSum false (catN (hdS h [] h.name) 16))) (by rw [sealField_length]; decide)) junk hj
  rw [he]
  refine ⟨cat512 S hW, ?_⟩
  have hs : ∀ j, j ≠ 6 → j ≠ 9 → j ≠ 12 → j ≠ 14 → S j = hdS h [] h.name j := fun j a b c d => by
    rw [hr j b c d]; unfold upd; rw [if_neg a]
  have hlen : (sealOf (catN S 16)).length = 512 := sealOf_length _ (cat512 _ hW)
  have hrt : sRight (sealOf (catN S 16)) = true := seal_right _ (cat512 _ hW)
  have f : ∀ j, j < 15 → j ≠ 6 → fld (sealOf (catN S 16)) j = S j := fun j hj h6 => fld_seal _ hW j hj h6
  have r : ∀ k, k < 5 → rv (sealOf (catN S 16)) k = (nv h k, 0) := fun k hk => by
    have h5 : k = 0 ∨ k = 1 ∨ k = 2 ∨ k = 3 ∨ k = 4 := by omega
    exact rv_num S hW k (by omega) (nv h k) (hnm k (by omega)) (by rcases h5 with rfl | rfl | rfl | rfl | rfl <;> exact hs _ (by decide) (by decide) (by decide) (by decide))
  generalize sealOf (catN S 16) = l at *
  have hform : hdForm (fld l 9) = 1 := by rw [f 9 (by decide) (by decide), h9]; rfl
  have hE : firstE (rE l 1) 7 0 = 0 := by
    rw [first_old l, r 0 (by decide), r 1 (by decide), r 2 (by decide), r 3 (by decide), r 4 (by decide)]
    rfl
  have hkd := getD_kind l hlen _ ((f 7 (by decide) (by decide)).trans (hs 7 (by decide) (by decide) (by decide) (by decide)))
  unfold hdParse
  rw [if_pos hlen, if_pos hrt, hform, if_neg (by decide), if_pos hE, head1, hkd, kind_byte h.kind hk, hdKind_twice, r 0 (by decide), r 1 (by decide), r 2 (by decide), r 3 (by decide), r 4 (by decide)]
  rw [f 8 (by decide) (by decide), f 0 (by decide) (by decide), hs 8 (by decide) (by decide) (by decide) (by decide), hs 0 (by decide) (by decide) (by decide) (by decide)]
  show (Hd.mk (txtRead (padF h.name 100)) (txtRead (padF h.link 100)) (hdKind h.kind) h.mode h.uid h.gid h.size h.time [] [] 0 0 1, (0 : Int)) = _
  rw [read_pad _ _ z1, read_pad _ _ z4]
  rfl
end Go.Proofs.YtlloaalaldomkaaDoor
