/-
  Contracts of package text and of the document's own answer for it, but for Blank.
-/
import Derived.Test.YtamenhkbmbaopaaGreatDoorRows
import Derived.Test.YtamenhkbmbaopaaGreatDoorShelfP
import Derived.Test.YtamenhkbmbaopaaGreatDoorTxtP
import Derived.Test.YtamenhkbmbaopaaGreatDoorDrew
import Derived.Deep.QuietTactic
import Derived.BigQuiet
import Derived.Deep.CutBlock
import Derived.Deep.DeepCutAuto
namespace Go.Proofs.YtamenhkbmbaopaaGreatDoor
open Go.ChangeShapes Go.WideShapes Go.ChangeAt Go.RowKit


/-- The library's variable holds some number. -/
def MaxSet (w : World) : Prop := ∃ m : Int, w.cell? ⟨0, 0, none⟩ = some (.int .i64 m)
theorem MaxSet.lt {w : World} (h : MaxSet w) : 0 < w.heap.size := by
  obtain ⟨m, hm⟩ := h
  rcases Nat.lt_or_ge 0 w.heap.size with hl | hl
  · exact hl
  · exfalso
    unfold World.cell? at hm
    rw [Array.getElem?_eq_none hl] at hm
    cases hm
theorem MaxSet.below {w w' : World} (h : MaxSet w) (hb : Below w.heap.size w w') : MaxSet w' := by
  obtain ⟨m, hm⟩ := h
  exact ⟨m, by rw [hb.cell (p := ⟨0, 0, none⟩) (MaxSet.lt ⟨m, hm⟩)]; exact hm⟩

theorem MaxSet.of_shaped {w : World} (h : w.ShapedOpen Tryz.prog) : MaxSet w := Tryz.laysM144.s1_3 w h

theorem tRead_any (l : List UInt8) (w : World) (hl : l.length < 4294967281) (hm : MaxSet w) :
    Calls Tryz.prog 73 #[.string ⟨l.toArray⟩] w fun e w' => Below w.heap.size w w' ∧ e = .returned (.string ⟨(txtRead l).toArray⟩) := by
  obtain ⟨m, hm⟩ := hm
  have Hc := Lib.hid (Tryz.strings_Cut ⟨l.toArray⟩ ⟨[0].toArray⟩ m w hl hm)
  have Hq := Lib.hid (cut_nul l)
  clear hm
  go_enter Tryz.func73, Tryz.ntmps73
  go_wp2_with fail
  refine Hc.out.mono ?_
  rintro e w1 ⟨rfl, n, rfl⟩
  go_wp2
  go_ret
  rw [← Hq.out]
  exact ⟨⟨rfl, rfl, rfl, Nat.le_refl _, fun _ _ => rfl⟩, rfl⟩

theorem tJoin_any (p b : List UInt8) (w : World) (hl : p.length + b.length ≤ 4294967281) :
    Calls Tryz.prog 74 #[.string ⟨p.toArray⟩, .string ⟨b.toArray⟩] w fun e w' => w = w' ∧ e = .returned (.string ⟨(if p = [] then b else p ++ 47 :: b).toArray⟩) := by
  rcases p with _ | ⟨c, p⟩
  · go_enter Tryz.func74, Tryz.ntmps74
    go_wp2
    go_ret
    exact ⟨rfl, rfl⟩
  · have hl2 : p.length + b.length ≤ 4294967280 := by simp at hl; omega
    clear hl
    rw [if_neg (by simp)]
    go_enter Tryz.func74, Tryz.ntmps74
    go_wp2
    go_ret
    exact ⟨rfl, by simp⟩

end Go.Proofs.YtamenhkbmbaopaaGreatDoor
