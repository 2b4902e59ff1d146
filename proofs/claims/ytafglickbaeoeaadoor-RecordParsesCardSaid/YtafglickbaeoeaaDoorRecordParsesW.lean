/- The walk of the law RecordParses. -/
import Derived.Test.YtafglickbaeoeaaDoorRecA
namespace Go.Proofs.YtafglickbaeoeaaDoor.recordParses
open Go.ChangeShapes Go.WideShapes Go.ChangeAt Go.RowKit

set_option maxRecDepth 100000 in
set_option maxHeartbeats 1000000 in
theorem walk (s : List UInt8) (w : World) (ht : TabOk w) :
    Calls Tryd.prog 4 #[.string ⟨s.toArray⟩] w fun e w' => Below w.heap.size w w' ∧ e = .returned (.bool true) := by
  have Ht := Lib.hid ht
  clear ht
  by_cases hbig : (400 : Int) < s.length
  · go_enter Tryd.func4, Tryd.ntmps4
    go_wp2_with fail
    refine (awake6_any w Ht.out).mono ?_
    rintro e w1 ⟨hb, rfl⟩
    have Hb := Lib.hid hb
    clear hb
    go_wp2
    go_ret
    exact ⟨Hb.out, rfl⟩
  · have P1 := Lib.hid (fun w1 => parse_any s w1 (by omega))
    have P2 := Lib.hid (fun w1 => refRecParse_any s w1 (by omega))
    have Hpp := Lib.hid (fun l h => print_parse (s := s) (l := l) h)
    rcases hr : rParse s with ⟨L, E⟩
    rw [hr] at P1 P2 Hpp
    have Herr := Lib.hid (fun he => rParse_err hr he)
    clear hr
    simp only at P1 P2
    by_cases hE : E = 0
    · subst hE
      obtain ⟨q1, q2, q3, q4⟩ := Hpp.out L rfl
      have R1 := Lib.hid (fun v w1 hv ht => printIn_any L v w1 hv (fun p hp => by have := q3 p hp; omega) ht (by omega))
      have Hq := parse_print q1 (fun p hp => by have := q3 p hp; omega)
      have P3 := Lib.hid (fun w1 => parse_any (prTexts L) w1 (by omega))
      rw [Hq] at P3
      unfold print2 at R1
      rw [q1] at R1
      simp only at P3 R1
      have q5 : ((prTexts L).length : Int) ≤ s.length := by omega
      have S1 := Lib.hid (fun v u w1 h1 h2 => sameIn_any L L v u w1 h1 h2 (by omega) (by omega))
      rw [decide_eq_true rfl] at S1
      generalize prTexts L = t at *
      clear q1 q2 q3 Hq Hpp
      go_enter Tryd.func4, Tryd.ntmps4
      go_wp2_with fail
      refine (P1.out _).mono ?_
      rintro e w1 ⟨hb, v1, rfl, hv1⟩
      have Hb1 := Lib.hid hb
      have Hv1 := Lib.hid hv1
      obtain ⟨ad1, cap1, rfl, -⟩ := hv1
      clear hb
      go_wp2_with fail
      refine (P2.out _).mono ?_
      rintro e w2 ⟨hb, v2, rfl, hv2⟩
      have Hb2 := Lib.hid (Hb1.out.trans (hb.mono Hb1.out.size))
      have Hv12 := Lib.hid (Hv1.out.under hb)
      have Hv2 := Lib.hid hv2
      obtain ⟨ad2, cap2, rfl, -⟩ := hv2
      clear hb
      go_wp2_with fail
      refine (S1.out _ _ _ Hv12.out Hv2.out).mono ?_
      rintro e w3 ⟨rfl, m, rfl⟩
      have Hb3 := Lib.hid (below_drewN Hb2.out m)
      have Hv13 := Lib.hid (Hv12.out.under (below_drewN (Below.refl _ w2) m))
      generalize w2.drewN m = w3 at *
      go_wp2_with fail
      refine (R1.out _ _ Hv13.out (Ht.out.below Hb3.out (Nat.le_refl _))).mono ?_
      rintro e w4 ⟨hb, rfl⟩
      have Hb4 := Lib.hid (Hb3.out.trans (hb.mono Hb3.out.size))
      have Hv14 := Lib.hid (Hv13.out.under hb)
      clear hb
      go_wp2_with fail
      refine (P3.out _).mono ?_
      rintro e w5 ⟨hb, v5, rfl, hv5⟩
      have Hb5 := Lib.hid (Hb4.out.trans (hb.mono Hb4.out.size))
      have Hv15 := Lib.hid (Hv14.out.under hb)
      have Hv5 := Lib.hid hv5
      obtain ⟨ad5, cap5, rfl, -⟩ := hv5
      clear hb
      go_wp2_with fail
      refine (S1.out _ _ _ Hv5.out Hv15.out).mono ?_
      rintro e w6 ⟨rfl, m2, rfl⟩
      have Hb6 := Lib.hid (below_drewN Hb5.out m2)
      generalize w5.drewN m2 = w6 at *
      go_wp2_with fail
      refine (awake6_any _ (Ht.out.below Hb6.out (Nat.le_refl _))).mono ?_
      rintro e w7 ⟨hb, rfl⟩
      have Hb7 := Lib.hid (Hb6.out.trans (hb.mono Hb6.out.size))
      clear hb
      go_wp2
      go_ret
      exact ⟨Hb7.out, rfl⟩
    · have hE2 : (E == 0) = false := by simpa using hE
      obtain rfl := Herr.out hE
      have S1 := Lib.hid (fun v u w1 h1 h2 => sameIn_any [] [] v u w1 h1 h2 (by decide) (by decide))
      rw [decide_eq_true rfl] at S1
      clear hE Hpp Herr
      go_enter Tryd.func4, Tryd.ntmps4
      go_wp2_with fail
      refine (P1.out _).mono ?_
      rintro e w1 ⟨hb, v1, rfl, hv1⟩
      have Hb1 := Lib.hid hb
      have Hv1 := Lib.hid hv1
      obtain ⟨ad1, cap1, rfl, -⟩ := hv1
      clear hb
      go_wp2_with fail
      refine (P2.out _).mono ?_
      rintro e w2 ⟨hb, v2, rfl, hv2⟩
      have Hb2 := Lib.hid (Hb1.out.trans (hb.mono Hb1.out.size))
      have Hv12 := Lib.hid (Hv1.out.under hb)
      have Hv2 := Lib.hid hv2
      obtain ⟨ad2, cap2, rfl, -⟩ := hv2
      clear hb
      go_wp2_with fail
      refine (S1.out _ _ _ Hv12.out Hv2.out).mono ?_
      rintro e w3 ⟨rfl, m, rfl⟩
      have Hb3 := Lib.hid (below_drewN Hb2.out m)
      generalize w2.drewN m = w3 at *
      go_wp2_with fail
      refine (awake6_any _ (Ht.out.below Hb3.out (Nat.le_refl _))).mono ?_
      rintro e w7 ⟨hb, rfl⟩
      have Hb7 := Lib.hid (Hb3.out.trans (hb.mono Hb3.out.size))
      clear hb
      go_wp2
      go_ret
      exact ⟨Hb7.out, rfl⟩
end Go.Proofs.YtafglickbaeoeaaDoor.recordParses
