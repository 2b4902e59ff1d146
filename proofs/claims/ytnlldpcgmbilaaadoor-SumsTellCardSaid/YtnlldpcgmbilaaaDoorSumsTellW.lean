/- The walk of the law SumsTell. -/
import Derived.Test.YtnlldpcgmbilaaaDoorSumB
namespace Go.Proofs.YtnlldpcgmbilaaaDoor.sumsTell
open Go.ChangeShapes Go.WideShapes Go.ChangeAt Go.RowKit

set_option maxRecDepth 100000 in
theorem walk (s f : List UInt8) (w : World) (hs : s.length ≤ maxLen) :
    Calls Tryd.prog 3 #[.string ⟨s.toArray⟩, .string ⟨f.toArray⟩] w fun e w' => Below w.heap.size w w' ∧ e = .returned (.bool true) := by
  have Hblk := Lib.hid (block_any s f w hs)
  have Hsum := Lib.hid (sSum_any s)
  have Hsig := Lib.hid (sSigned_any s)
  have Hsea := Lib.hid (sSeal_no s)
  have Hrig := Lib.hid (sRight_any s)
  have Hbla := Lib.hid (sBlank_any s)
  unfold maxLen at hs
  by_cases hbig : 600 < s.length ∨ s.length = 512
  · have hbig2 : 600 < s.length ∨ ((s.length : Int) == 512) = true := by rcases hbig with h | h; exact .inl h; exact .inr (by simp [h])
    clear hbig
    rcases hbig2 with e0 | e0
    · clear Hsum Hsig Hsea Hrig Hbla
      go_enter Tryd.func3, Tryd.ntmps3
      go_wp2_with fail
      refine Hblk.out.mono ?_
      rintro e w1 ⟨hb1, b, hbl, rfl⟩
      have Hb1 := Lib.hid hb1
      have Hbl := Lib.hid hbl
      clear hb1 hbl
      have hz1 : sSum false b = (bSum false b, 0) := if_pos Hbl.out
      have hz2 : sSum true b = (bSum true b, 0) := if_pos Hbl.out
      have G1 := Lib.hid (sSum_any b w1)
      have G2 := Lib.hid (fun w => sSigned_any b w)
      rw [hz1] at G1
      rw [hz2] at G2
      clear hz1 hz2
      go_wp2_with fail
      refine G1.out.mono ?_
      rintro e w2 ⟨hb2, rfl⟩
      have Hb2 := Lib.hid (Hb1.out.trans (hb2.mono Hb1.out.size))
      clear hb2
      go_wp2_with fail
      refine (G2.out w2).mono ?_
      rintro e w3 ⟨hb3, rfl⟩
      have Hb3 := Lib.hid (Hb2.out.trans (hb3.mono Hb2.out.size))
      clear hb3
      go_wp2_with fail
      refine (refSum_any b false w3 Hbl.out).mono ?_
      rintro e w' ⟨rfl, rfl⟩
      go_wp2_with fail
      refine (refSum_any b true w3 Hbl.out).mono ?_
      rintro e w' ⟨rfl, rfl⟩
      go_wp2_with fail
      refine (sRight_any b w3).mono ?_
      rintro e w4 ⟨hb4, rfl⟩
      have Hb4 := Lib.hid (Hb3.out.trans (hb4.mono Hb3.out.size))
      clear hb4
      go_wp2_with fail
      refine (refRight_any b w4 Hbl.out).mono ?_
      rintro e w' ⟨rfl, rfl⟩
      go_wp2_with fail
      refine (awake3_any w4).mono ?_
      rintro e w5 ⟨hb5, rfl⟩
      have Hb5 := Lib.hid (Hb4.out.trans (hb5.mono Hb4.out.size))
      clear hb5
      go_wp2
      go_ret
      exact ⟨Hb5.out, rfl⟩
    · have e9 : s.length ≤ 600 := by have e8 := e0; simp at e8; omega
      clear Hsum Hsig Hsea Hrig Hbla
      go_enter Tryd.func3, Tryd.ntmps3
      go_wp2_with fail
      refine Hblk.out.mono ?_
      rintro e w1 ⟨hb1, b, hbl, rfl⟩
      have Hb1 := Lib.hid hb1
      have Hbl := Lib.hid hbl
      clear hb1 hbl
      have hz1 : sSum false b = (bSum false b, 0) := if_pos Hbl.out
      have hz2 : sSum true b = (bSum true b, 0) := if_pos Hbl.out
      have G1 := Lib.hid (sSum_any b w1)
      have G2 := Lib.hid (fun w => sSigned_any b w)
      rw [hz1] at G1
      rw [hz2] at G2
      clear hz1 hz2
      go_wp2_with fail
      refine G1.out.mono ?_
      rintro e w2 ⟨hb2, rfl⟩
      have Hb2 := Lib.hid (Hb1.out.trans (hb2.mono Hb1.out.size))
      clear hb2
      go_wp2_with fail
      refine (G2.out w2).mono ?_
      rintro e w3 ⟨hb3, rfl⟩
      have Hb3 := Lib.hid (Hb2.out.trans (hb3.mono Hb2.out.size))
      clear hb3
      go_wp2_with fail
      refine (refSum_any b false w3 Hbl.out).mono ?_
      rintro e w' ⟨rfl, rfl⟩
      go_wp2_with fail
      refine (refSum_any b true w3 Hbl.out).mono ?_
      rintro e w' ⟨rfl, rfl⟩
      go_wp2_with fail
      refine (sRight_any b w3).mono ?_
      rintro e w4 ⟨hb4, rfl⟩
      have Hb4 := Lib.hid (Hb3.out.trans (hb4.mono Hb3.out.size))
      clear hb4
      go_wp2_with fail
      refine (refRight_any b w4 Hbl.out).mono ?_
      rintro e w' ⟨rfl, rfl⟩
      go_wp2_with fail
      refine (awake3_any w4).mono ?_
      rintro e w5 ⟨hb5, rfl⟩
      have Hb5 := Lib.hid (Hb4.out.trans (hb5.mono Hb4.out.size))
      clear hb5
      go_wp2
      go_ret
      exact ⟨Hb5.out, rfl⟩
  · have h1 : s.length ≤ 600 := by omega
    have h2 : s.length ≠ 512 := fun e => hbig (.inr e)
    have hq1 : sSum false s = (0, 1) := if_neg h2
    have hq2 : sSum true s = (0, 1) := if_neg h2
    have hq3 : sRight s = false := by unfold sRight; rw [decide_eq_false h2]; rfl
    have hq4 : sBlank s = false := by unfold sBlank; rw [decide_eq_false h2]; rfl
    rw [hq1] at Hsum
    rw [hq2] at Hsig
    rw [hq3] at Hrig
    rw [hq4] at Hbla
    have Hsea2 := Lib.hid (fun w => sSeal_no s w h2)
    have e1 : ((s.length : Int) == 512) = false := by rw [beq_eq_false_iff_ne]; omega
    clear hbig hq1 hq2 hq3 hq4 h2
    go_enter Tryd.func3, Tryd.ntmps3
    go_wp2_with fail
    refine Hblk.out.mono ?_
    rintro e w1 ⟨hb1, b, hbl, rfl⟩
    have Hb1 := Lib.hid hb1
    have Hbl := Lib.hid hbl
    clear hb1 hbl
    have hz1 : sSum false b = (bSum false b, 0) := if_pos Hbl.out
    have hz2 : sSum true b = (bSum true b, 0) := if_pos Hbl.out
    have G1 := Lib.hid (sSum_any b w1)
    have G2 := Lib.hid (fun w => sSigned_any b w)
    rw [hz1] at G1
    rw [hz2] at G2
    clear hz1 hz2
    go_wp2_with fail
    refine G1.out.mono ?_
    rintro e w2 ⟨hb2, rfl⟩
    have Hb2 := Lib.hid (Hb1.out.trans (hb2.mono Hb1.out.size))
    clear hb2
    go_wp2_with fail
    refine (G2.out w2).mono ?_
    rintro e w3 ⟨hb3, rfl⟩
    have Hb3 := Lib.hid (Hb2.out.trans (hb3.mono Hb2.out.size))
    clear hb3
    go_wp2_with fail
    refine (refSum_any b false w3 Hbl.out).mono ?_
    rintro e w' ⟨rfl, rfl⟩
    go_wp2_with fail
    refine (refSum_any b true w3 Hbl.out).mono ?_
    rintro e w' ⟨rfl, rfl⟩
    go_wp2_with fail
    refine (sRight_any b w3).mono ?_
    rintro e w4 ⟨hb4, rfl⟩
    have Hb4 := Lib.hid (Hb3.out.trans (hb4.mono Hb3.out.size))
    clear hb4
    go_wp2_with fail
    refine (refRight_any b w4 Hbl.out).mono ?_
    rintro e w' ⟨rfl, rfl⟩
    go_wp2_with fail
    refine (Hsum.out w4).mono ?_
    rintro e w5 ⟨hb5, rfl⟩
    have Hb5 := Lib.hid (Hb4.out.trans (hb5.mono Hb4.out.size))
    clear hb5
    go_wp2_with fail
    refine (Hsig.out w5).mono ?_
    rintro e w6 ⟨hb6, rfl⟩
    have Hb6 := Lib.hid (Hb5.out.trans (hb6.mono Hb5.out.size))
    clear hb6
    go_wp2_with fail
    refine (Hsea2.out w6).mono ?_
    rintro e w7 ⟨hb7, rfl⟩
    have Hb7 := Lib.hid (Hb6.out.trans (hb7.mono Hb6.out.size))
    clear hb7
    go_wp2_with fail
    refine (Hrig.out w7).mono ?_
    rintro e w8 ⟨hb8, rfl⟩
    have Hb8 := Lib.hid (Hb7.out.trans (hb8.mono Hb7.out.size))
    clear hb8
    go_wp2_with fail
    refine (Hbla.out w8).mono ?_
    rintro e w9 ⟨hb9, rfl⟩
    have Hb9 := Lib.hid (Hb8.out.trans (hb9.mono Hb8.out.size))
    clear hb9
    go_wp2_with fail
    refine (awake3_any w9).mono ?_
    rintro e w10 ⟨hb10, rfl⟩
    have Hb10 := Lib.hid (Hb9.out.trans (hb10.mono Hb9.out.size))
    clear hb10
    go_wp2
    go_ret
    exact ⟨Hb10.out, rfl⟩
end Go.Proofs.YtnlldpcgmbilaaaDoor.sumsTell
