/- The walk of the law TextNames. -/
import Derived.Test.YtoicdanepdjmdaaTxtN
namespace Go.Proofs.Ytoicdanepdjmdaa.textNames
open Go.ChangeShapes Go.WideShapes Go.ChangeAt Go.RowKit

theorem walk (l : List UInt8) (hl : l.length ≤ maxLen) (w : World) (hm : MaxSet w) :
    Calls Try.prog 3 #[.string ⟨l.toArray⟩] w fun e w' => Below w.heap.size w w' ∧ e = .returned (.bool true) := by
  unfold maxLen at hl
  by_cases hbig : 600 < l.length
  · have Ha := Lib.hid (awake2_any w hm)
    clear hm
    go_enter Try.func3, Try.ntmps3
    go_wp2_with fail
    refine Ha.out.mono ?_
    rintro e w1 ⟨hb, rfl⟩
    have Hb := Lib.hid hb
    clear hb
    go_wp2
    go_ret
    exact ⟨Hb.out, rfl⟩
  · have h600 : l.length ≤ 600 := by omega
    have Hp := Lib.hid (tPart_any l w (by omega))
    have Hf := Lib.hid (fun w => refTPart_any l w (by omega))
    have Hm := Lib.hid hm
    clear hm hbig
    rcases ho : txtPart l with _ | ⟨p, b⟩
    · rw [ho] at Hp Hf
      clear ho
      simp only [part3] at Hp Hf
      go_enter Try.func3, Try.ntmps3
      go_wp2_with fail
      refine Hp.out.mono ?_
      rintro e w1 ⟨hb1, rfl⟩
      have Hb1 := Lib.hid hb1
      clear hb1
      go_wp2_with fail
      refine (Hf.out w1).mono ?_
      rintro e w2 ⟨hb2, rfl⟩
      have Hb2 := Lib.hid (Hb1.out.trans (hb2.mono Hb1.out.size))
      clear hb2
      go_wp2_with fail
      refine (awake2_any w2 (Hm.out.below Hb2.out)).mono ?_
      rintro e w3 ⟨hb3, rfl⟩
      have Hb3 := Lib.hid (Hb2.out.trans (hb3.mono Hb2.out.size))
      clear hb3
      go_wp2
      go_ret
      exact ⟨Hb3.out, rfl⟩
    · obtain ⟨j1, j2, j3⟩ := part_join l p b ho
      have J1 := Lib.hid j1
      clear j1
      rw [ho] at Hp Hf
      clear ho
      simp only [part3] at Hp Hf
      go_enter Try.func3, Try.ntmps3
      go_wp2_with fail
      refine Hp.out.mono ?_
      rintro e w1 ⟨hb1, rfl⟩
      have Hb1 := Lib.hid hb1
      clear hb1
      go_wp2_with fail
      refine (Hf.out w1).mono ?_
      rintro e w2 ⟨hb2, rfl⟩
      have Hb2 := Lib.hid (Hb1.out.trans (hb2.mono Hb1.out.size))
      clear hb2
      go_wp2_with fail
      refine (tJoin_any p b w2 (by omega)).mono ?_
      rw [J1.out]
      rintro e w' ⟨rfl, rfl⟩
      go_wp2_with fail
      refine (awake2_any w2 (Hm.out.below Hb2.out)).mono ?_
      rintro e w3 ⟨hb3, rfl⟩
      have Hb3 := Lib.hid (Hb2.out.trans (hb3.mono Hb2.out.size))
      clear hb3
      go_wp2
      go_ret
      exact ⟨Hb3.out, rfl⟩
end Go.Proofs.Ytoicdanepdjmdaa.textNames
