/- The walk of the law TextParts. -/
import Derived.Test.YtoicdanepdjmdaaTxtN
namespace Go.Proofs.Ytoicdanepdjmdaa.textParts
open Go.ChangeShapes Go.WideShapes Go.ChangeAt Go.RowKit

/-- Two fields that fit are a name that has two fields, too. -/
theorem joined (p b : List UInt8) (hp : p.length ≤ 155) (hb : b.length ≤ 100) (hb1 : 1 ≤ b.length) :
    ∃ x y, txtPart (if p = [] then b else p ++ 47 :: b) = some (x, y) := by
  by_cases h0 : p = []
  · rw [if_pos h0]
    exact ⟨[], b, by unfold txtPart; rw [if_pos hb]⟩
  · rw [if_neg h0]
    have hp1 : 1 ≤ p.length := by cases p with | nil => exact absurd rfl h0 | cons c p => simp
    have hlen : (p ++ 47 :: b).length = p.length + 1 + b.length := by simp; omega
    unfold txtPart
    by_cases h1 : (p ++ 47 :: b).length ≤ 100
    · rw [if_pos h1]; exact ⟨_, _, rfl⟩
    · rw [if_neg h1]
      have hparts : parts (p ++ 47 :: b) p.length := ⟨by rw [List.getElem?_append_right (Nat.le_refl _)]; simp, hp1, hp, by rw [hlen]; omega, by rw [hlen]; omega, by rw [hlen]; omega⟩
      rcases lastPart_spec (p ++ 47 :: b) (p ++ 47 :: b).length with ⟨_, h2⟩ | ⟨i, h1, h2, _, _⟩
      · exact absurd hparts (h2 p.length (by rw [hlen]; omega))
      · rw [h2, if_neg (by omega)]; exact ⟨_, _, rfl⟩

theorem walk (p b : List UInt8) (hl : p.length ≤ maxLen) (hl2 : b.length ≤ maxLen) (w : World) (hm : MaxSet w) :
    Calls Try.prog 4 #[.string ⟨p.toArray⟩, .string ⟨b.toArray⟩] w fun e w' => Below w.heap.size w w' ∧ e = .returned (.bool true) := by
  unfold maxLen at hl hl2
  by_cases hfit : p.length ≤ 155 ∧ b.length ≤ 100 ∧ 1 ≤ b.length
  · obtain ⟨f1, f2, f3⟩ := hfit
    have e0 : ((b.length : Int) == 0) = false := by rw [beq_eq_false_iff_ne]; omega
    obtain ⟨x, y, ho⟩ := joined p b f1 f2 f3
    have hjl : (if p = [] then b else p ++ 47 :: b).length ≤ 300 := by
      split
      · omega
      · simp; omega
    have Hj := Lib.hid (tJoin_any p b w (by omega))
    have Hm := Lib.hid hm
    clear hm
    generalize (if p = [] then b else p ++ 47 :: b) = nm at *
    have Hp := Lib.hid (tPart_any nm w (by omega))
    obtain ⟨j1, j2, j3⟩ := part_join nm x y ho
    have J1 := Lib.hid j1
    clear j1
    rw [ho] at Hp
    clear ho
    simp only [part3] at Hp
    go_enter Try.func4, Try.ntmps4
    go_wp2_with fail
    refine Hj.out.mono ?_
    rintro e w' ⟨rfl, rfl⟩
    go_wp2_with fail
    refine Hp.out.mono ?_
    rintro e w1 ⟨hb1, rfl⟩
    have Hb1 := Lib.hid hb1
    clear hb1
    go_wp2_with fail
    refine (tJoin_any x y w1 (by omega)).mono ?_
    rw [J1.out]
    rintro e w' ⟨rfl, rfl⟩
    go_wp2_with fail
    refine (awake2_any w1 (Hm.out.below Hb1.out)).mono ?_
    rintro e w3 ⟨hb3, rfl⟩
    have Hb3 := Lib.hid (Hb1.out.trans (hb3.mono Hb1.out.size))
    clear hb3
    go_wp2
    go_ret
    exact ⟨Hb3.out, rfl⟩
  · have Ha := Lib.hid (awake2_any w hm)
    clear hm
    by_cases f1 : p.length ≤ 155
    · by_cases f2 : b.length ≤ 100
      · have f3 : b.length = 0 := by omega
        have e0 : ((b.length : Int) == 0) = true := by rw [beq_iff_eq]; omega
        clear f3 hfit
        go_enter Try.func4, Try.ntmps4
        go_wp2_with fail
        refine Ha.out.mono ?_
        rintro e w1 ⟨hb, rfl⟩
        have Hb := Lib.hid hb
        clear hb
        go_wp2
        go_ret
        exact ⟨Hb.out, rfl⟩
      · have f2' : 100 < b.length := by omega
        clear f2 hfit
        go_enter Try.func4, Try.ntmps4
        go_wp2_with fail
        refine Ha.out.mono ?_
        rintro e w1 ⟨hb, rfl⟩
        have Hb := Lib.hid hb
        clear hb
        go_wp2
        go_ret
        exact ⟨Hb.out, rfl⟩
    · have f1' : 155 < p.length := by omega
      clear f1 hfit
      go_enter Try.func4, Try.ntmps4
      go_wp2_with fail
      refine Ha.out.mono ?_
      rintro e w1 ⟨hb, rfl⟩
      have Hb := Lib.hid hb
      clear hb
      go_wp2
      go_ret
      exact ⟨Hb.out, rfl⟩
end Go.Proofs.Ytoicdanepdjmdaa.textParts
