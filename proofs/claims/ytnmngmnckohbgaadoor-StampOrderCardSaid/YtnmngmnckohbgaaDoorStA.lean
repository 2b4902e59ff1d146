/-
  The examples that each statement of layer 4 asks besides.
-/
import Derived.Test.YtnmngmnckohbgaaDoorStT
namespace Go.Proofs.YtnmngmnckohbgaaDoor
open Go.ChangeShapes Go.WideShapes Go.ChangeAt Go.RowKit

theorem text_15 : stText 1 500000000 = [49, 46, 53] := by
  show Lib.decDigits 1 ++ 46 :: trimN (digN 9 500000000) = _
  rw [Lib.decDigits_one (by decide)]
  decide

theorem awake4_any (w : World) (ht : TabOk w) :
    Calls Tryd.prog 8 #[] w fun e w' => Below w.heap.size w w' ∧ e = .returned (.bool true) := by
  have P1 := Lib.hid (stParse_any [49, 46, 53, 48] w (by decide))
  have P2 := Lib.hid (fun w1 => stParse_any [45, 48, 46, 50, 53] w1 (by decide))
  have T1 := Lib.hid (fun w1 => stText_ok 1 500000000 w1 (by decide))
  rw [show stParse [49, 46, 53, 48] = ((1, 500000000), 0) by decide] at P1
  rw [show stParse [45, 48, 46, 50, 53] = ((-1, 750000000), 0) by decide] at P2
  rw [text_15] at T1
  have Ht := Lib.hid ht
  clear ht
  go_enter Tryd.func8, Tryd.ntmps8
  go_wp2_with fail
  refine P1.out.mono ?_
  rintro e w1 ⟨hb1, rfl⟩
  have Hb1 := Lib.hid hb1
  have Ht1 := Lib.hid ((Ht.out.below hb1 (Nat.le_refl _)).below ((Below.refl _ _).alloc (Nat.le_refl _) (.cells #[.int .i64 1, .int .i64 500000000] 23)) (Nat.le_refl _))
  clear hb1
  go_wp2_with fail
  refine (T1.out _ Ht1.out).mono ?_
  rintro e w2 ⟨hb2, rfl⟩
  obtain ⟨H0, hb, hz⟩ := box1 hb2
  have Hb2 := Lib.hid (Hb1.out.trans (hb.mono Hb1.out.size))
  have H0' := Lib.hid H0
  clear hb2 H0 hb
  go_wp2_with fail
  refine (P2.out _).mono ?_
  rintro e w3 ⟨hb3, rfl⟩
  have H3 := H0'.out.under hb3 hz
  have hz3 : w1.heap.size < w3.heap.size := Nat.lt_of_lt_of_le hz hb3.size
  have Hb3 := Lib.hid (Hb2.out.trans (hb3.mono Hb2.out.size))
  obtain ⟨c0, c1, f0, f1⟩ := two_cells H3
  clear hb3 H3
  go_wp2
  go_ret
  exact ⟨Hb3.out.alloc Hb3.out.size _, rfl⟩
end Go.Proofs.YtnmngmnckohbgaaDoor
