/- The walk of the law TextFields. -/
import Derived.Test.YtoicdanepdjmdaaDoorTxtF
namespace Go.Proofs.YtoicdanepdjmdaaDoor.textFields
open Go.ChangeShapes Go.WideShapes Go.ChangeAt Go.RowKit

theorem walk (l s : List UInt8) (n : Int) (w : World) (hm : MaxSet w) :
    Calls Tryd.prog 3 #[.string ⟨l.toArray⟩, .string ⟨s.toArray⟩, .int .i64 n] w fun e w' => Below w.heap.size w w' ∧ e = .returned (.bool true) := by
  by_cases hbig : l.length ≤ 600 ∧ s.length ≤ 600
  · obtain ⟨g1, g2⟩ := hbig
    have Hw := Lib.hid (tWrite_any s n w)
    have Hf := Lib.hid (fun w => refTWrite_any s n w (by omega))
    have Hm := Lib.hid hm
    clear hm
    rcases ho : txtWrite s n with _ | t
    · rw [ho] at Hw Hf
      clear ho
      go_enter Tryd.func3, Tryd.ntmps3
      go_wp2_with fail
      refine Hw.out.mono ?_
      rintro e w1 ⟨hb1, rfl⟩
      have Hb1 := Lib.hid hb1
      clear hb1
      go_wp2_with fail
      refine (Hf.out w1).mono ?_
      rintro e w' ⟨rfl, rfl⟩
      go_wp2_with fail
      refine (tRead_any l w1 (by omega) (Hm.out.below Hb1.out)).mono ?_
      rintro e w2 ⟨hb2, rfl⟩
      have Hb2 := Lib.hid (Hb1.out.trans (hb2.mono Hb1.out.size))
      clear hb2
      go_wp2_with fail
      refine (refTRead_any l w2 (by omega)).mono ?_
      rintro e w' ⟨rfl, rfl⟩
      go_wp2_with fail
      refine (tBlank_any l w2).mono ?_
      rintro e w' ⟨rfl, rfl⟩
      go_wp2_with fail
      refine (refTBlank_any l w2 (by omega)).mono ?_
      rintro e w' ⟨rfl, rfl⟩
      go_wp2_with fail
      refine (awake2_any w2 (Hm.out.below Hb2.out)).mono ?_
      rintro e w3 ⟨hb3, rfl⟩
      have Hb3 := Lib.hid (Hb2.out.trans (hb3.mono Hb2.out.size))
      clear hb3
      go_wp2
      go_ret
      exact ⟨Hb3.out, rfl⟩
    · have hback : txtRead t = s ∧ (t.length : Int) = n := by
        unfold txtWrite at ho
        by_cases h : 0 ≤ n ∧ n ≤ 512 ∧ (s.length : Int) ≤ n ∧ 0 ∉ s
        · rw [if_pos h] at ho
          cases ho
          exact ⟨txtRead_write s _ h.2.2.2, by simp; omega⟩
        · rw [if_neg h] at ho; cases ho
      have htl : t.length ≤ 600 := by
        unfold txtWrite at ho
        by_cases h : 0 ≤ n ∧ n ≤ 512 ∧ (s.length : Int) ≤ n ∧ 0 ∉ s
        · omega
        · rw [if_neg h] at ho; cases ho
      have Hback := Lib.hid hback.1
      have en : ((t.length : Int) == n) = true := by rw [beq_iff_eq]; exact hback.2
      clear hback
      rw [ho] at Hw Hf
      clear ho
      go_enter Tryd.func3, Tryd.ntmps3
      go_wp2_with fail
      refine Hw.out.mono ?_
      rintro e w1 ⟨hb1, rfl⟩
      have Hb1 := Lib.hid hb1
      clear hb1
      go_wp2_with fail
      refine (Hf.out w1).mono ?_
      rintro e w' ⟨rfl, rfl⟩
      go_wp2_with fail
      refine (tRead_any l w1 (by omega) (Hm.out.below Hb1.out)).mono ?_
      rintro e w2 ⟨hb2, rfl⟩
      have Hb2 := Lib.hid (Hb1.out.trans (hb2.mono Hb1.out.size))
      clear hb2
      go_wp2_with fail
      refine (refTRead_any l w2 (by omega)).mono ?_
      rintro e w' ⟨rfl, rfl⟩
      go_wp2_with fail
      refine (tBlank_any l w2).mono ?_
      rintro e w' ⟨rfl, rfl⟩
      go_wp2_with fail
      refine (refTBlank_any l w2 (by omega)).mono ?_
      rintro e w' ⟨rfl, rfl⟩
      go_wp2_with fail
      refine (tRead_any t w2 (by omega) (Hm.out.below Hb2.out)).mono ?_
      rw [Hback.out]
      rintro e w3 ⟨hb3, rfl⟩
      have Hb3 := Lib.hid (Hb2.out.trans (hb3.mono Hb2.out.size))
      clear hb3
      go_wp2_with fail
      refine (awake2_any w3 (Hm.out.below Hb3.out)).mono ?_
      rintro e w4 ⟨hb4, rfl⟩
      have Hb4 := Lib.hid (Hb3.out.trans (hb4.mono Hb3.out.size))
      clear hb4
      go_wp2
      go_ret
      exact ⟨Hb4.out, rfl⟩
  · have Ha := Lib.hid (awake2_any w hm)
    clear hm
    by_cases g1 : l.length ≤ 600
    · have g2 : 600 < s.length := by omega
      clear hbig
      go_enter Tryd.func3, Tryd.ntmps3
      go_wp2_with fail
      refine Ha.out.mono ?_
      rintro e w1 ⟨hb, rfl⟩
      have Hb := Lib.hid hb
      clear hb
      go_wp2
      go_ret
      exact ⟨Hb.out, rfl⟩
    · have g2 : 600 < l.length := by omega
      clear hbig g1
      go_enter Tryd.func3, Tryd.ntmps3
      go_wp2_with fail
      refine Ha.out.mono ?_
      rintro e w1 ⟨hb, rfl⟩
      have Hb := Lib.hid hb
      clear hb
      go_wp2
      go_ret
      exact ⟨Hb.out, rfl⟩
end Go.Proofs.YtoicdanepdjmdaaDoor.textFields
