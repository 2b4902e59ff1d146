/- The walk of the law SumsSeal. -/
import Derived.Test.YtnlldpcgmbilaaaDoorSumB
namespace Go.Proofs.YtnlldpcgmbilaaaDoor.sumsSeal
open Go.ChangeShapes Go.WideShapes Go.ChangeAt Go.RowKit

set_option maxRecDepth 100000 in
theorem walk (s f : List UInt8) (w : World) (hs : s.length ≤ maxLen) :
    Calls Tryd.prog 4 #[.string ⟨s.toArray⟩, .string ⟨f.toArray⟩] w fun e w' => Below w.heap.size w w' ∧ e = .returned (.bool true) := by
  have Hblk := Lib.hid (block_any s f w hs)
  clear hs
  go_enter Tryd.func4, Tryd.ntmps4
  go_wp2_with fail
  refine Hblk.out.mono ?_
  rintro e w1 ⟨hb1, b, hbl, rfl⟩
  have Hb1 := Lib.hid hb1
  have Hbl := Lib.hid hbl
  clear hb1 hbl
  have Hl2 := Lib.hid (sealOf_length b Hbl.out)
  have hz1 : sealOf (sealOf b) = sealOf b := seal_seal b Hbl.out
  have hz2 : sRight (sealOf b) = true := seal_right b Hbl.out
  have hz3 : sBlank (sealOf b) = false := seal_blank b Hbl.out
  have G1 := Lib.hid (sSeal_any b w1 Hbl.out)
  have G2 := Lib.hid (fun w => sSeal_any (sealOf b) w Hl2.out)
  have G3 := Lib.hid (fun w => refSeal_any b w Hbl.out)
  have G4 := Lib.hid (sRight_any (sealOf b))
  have G5 := Lib.hid (sBlank_any (sealOf b))
  rw [hz1] at G2
  rw [hz2] at G4
  rw [hz3] at G5
  clear hz1 hz2 hz3
  generalize sealOf b = c at *
  go_wp2_with fail
  refine G1.out.mono ?_
  rintro e w2 ⟨hb2, rfl⟩
  have Hb2 := Lib.hid (Hb1.out.trans (hb2.mono Hb1.out.size))
  clear hb2
  go_wp2_with fail
  refine (G2.out w2).mono ?_
  rintro e w3 ⟨hb3, rfl⟩
  have Hb3 := Lib.hid (Hb2.out.trans (hb3.mono Hb2.out.size))
  clear hb3
  go_wp2_with fail
  refine (G3.out w3).mono ?_
  rintro e w4 ⟨hb4, rfl⟩
  have Hb4 := Lib.hid (Hb3.out.trans (hb4.mono Hb3.out.size))
  clear hb4
  go_wp2_with fail
  refine (G4.out w4).mono ?_
  rintro e w5 ⟨hb5, rfl⟩
  have Hb5 := Lib.hid (Hb4.out.trans (hb5.mono Hb4.out.size))
  clear hb5
  go_wp2_with fail
  refine (G5.out w5).mono ?_
  rintro e w6 ⟨hb6, rfl⟩
  have Hb6 := Lib.hid (Hb5.out.trans (hb6.mono Hb5.out.size))
  clear hb6
  go_wp2_with fail
  refine (awake3_any w6).mono ?_
  rintro e w7 ⟨hb7, rfl⟩
  have Hb7 := Lib.hid (Hb6.out.trans (hb7.mono Hb6.out.size))
  clear hb7
  go_wp2
  go_ret
  exact ⟨Hb7.out, rfl⟩
end Go.Proofs.YtnlldpcgmbilaaaDoor.sumsSeal
