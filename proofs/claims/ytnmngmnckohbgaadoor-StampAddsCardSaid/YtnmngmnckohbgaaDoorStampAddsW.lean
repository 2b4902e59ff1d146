/- The walk of the law StampAdds. -/
import Derived.Test.YtnmngmnckohbgaaDoorStA
namespace Go.Proofs.YtnmngmnckohbgaaDoor.stampAdds
open Go.ChangeShapes Go.WideShapes Go.ChangeAt Go.RowKit

set_option maxRecDepth 100000 in
set_option maxHeartbeats 1600000 in
theorem walk (s n d : Int) (w : World) (hd : -9223372036854775808 ≤ d ∧ d ≤ 9223372036854775807) (ht : TabOk w) :
    Calls Tryd.prog 6 #[.agg #[.int .i64 s, .int .i64 n], .int .i64 d] w fun e w' => Below w.heap.size w w' ∧ e = .returned (.bool true) := by
  have Ht := Lib.hid ht
  clear ht
  by_cases hok : stRight s n = true ∧ -1152921504606846976 ≤ d ∧ d ≤ 1152921504606846976
  · obtain ⟨hr, h1, h2⟩ := hok
    obtain ⟨b1, b2, b3, b4⟩ := stRight_true hr
    have R1 := Lib.hid (fun w1 => refStRight_any s n w1)
    rw [hr] at R1
    have hback := later_back (s := s) (d := d) b3 b4
    have hcmp := cmp_later (s := s) (d := d) b3 b4
    have hlater : stLater s n d = (s + (n + d) / 1000000000, (n + d) % 1000000000) := rfl
    obtain ⟨q, r, hq, hrr, hqr, hr0, hr1⟩ := tparts d
    have hq01 : -1152921505 ≤ q ∧ q ≤ 1152921505 := by omega
    obtain ⟨hq0, hq1⟩ := hq01
    have e2 : ¬ d < -1152921504606846976 := by omega
    have e3 : ¬ 1152921504606846976 < d := by omega
    by_cases y0 : n + r < 0
    · have hl : stLater s n d = (s + q - 1, n + r + 1000000000) := by rw [hlater]; refine Prod.ext ?_ ?_ <;> simp only <;> omega
      rw [hl] at hback hcmp
      simp only at hback hcmp
      have e1 : IntKind.i64.wrap (n + r) = n + r := IntWalk.i64_in _ (by omega)
      clear hlater
      by_cases hR : stRight (s + q - 1) (n + r + 1000000000) = true
      · have ha1 : stAdd s n d = ((s + q - 1, n + r + 1000000000), 0) := by unfold stAdd; rw [hl]; exact if_pos hR
        have hb2 : stAdd (s + q - 1) (n + r + 1000000000) (-d) = ((s, n), 0) := by unfold stAdd; rw [hback]; exact if_pos hr
        have A1 : ∀ w1, _ := fun w1 => stAdd_any s n d w1 hr h1 h2
        rw [ha1] at A1
        clear ha1 hl hback hqr
        have A2 : ∀ w1, _ := fun w1 => stAdd_any (s + q - 1) (n + r + 1000000000) (-d) w1 hR (by omega) (by omega)
        rw [hb2] at A2
        have A2 := Lib.hid A2
        have A1 := Lib.hid A1
        have R2 := Lib.hid (fun w1 => refStRight_any (s + q - 1) (n + r + 1000000000) w1)
        have C2 := Lib.hid (fun w1 => stCmp_any (s + q - 1) (n + r + 1000000000) s n w1)
        rw [hR] at R2
        generalize stCmp (s + q - 1) (n + r + 1000000000) s n = X at *
        clear hR
        go_enter Tryd.func6, Tryd.ntmps6
        go_wp2_with fail
        refine (A1.out _).mono ?_
        rintro e w1 ⟨hb1, rfl⟩
        obtain ⟨H0, hb, hz⟩ := box1 hb1
        have H0' := Lib.hid H0
        have Hb1 := Lib.hid hb
        obtain ⟨c0, c1, f0, f1⟩ := two_cells H0
        clear hb1 H0 hb
        go_wp2_with fail
        refine (R1.out _).mono ?_
        rintro e w' ⟨rfl, rfl⟩
        go_wp2_with fail
        go_quiet (fail)
        obtain ⟨w2, hw2⟩ : ∃ w2, w2 = (w1.alloc (.cells #[.int .i64 (s + q - 1), .int .i64 (n + r + 1000000000)] 23)).drewN nq := ⟨_, rfl⟩
        have K0 := Lib.hid (show Holds w2 w.heap.size 23 [.int .i64 s, .int .i64 n] by rw [hw2]; exact H0'.out.behind _)
        have K1 := Lib.hid (show Holds w2 w1.heap.size 23 [.int .i64 (s + q - 1), .int .i64 (n + r + 1000000000)] by rw [hw2]; exact Holds.new w1 _ _)
        have Kb := Lib.hid (show Below w.heap.size w w2 by rw [hw2]; exact below_drewN (Hb1.out.alloc Hb1.out.size _) _)
        have hz2 : w1.heap.size < w2.heap.size := by rw [hw2]; show w1.heap.size < (w1.alloc _).heap.size; simp
        have Ht2 := Lib.hid (Ht.out.below Kb.out (Nat.le_refl _))
        rw [← hw2]
        clear hw2 c0 c1 f0 f1
        obtain ⟨c0, c1, f0, f1⟩ := two_cells K0.out
        obtain ⟨d0, d1, g0, g1⟩ := two_cells K1.out
        go_wp2_with fail
        refine (R2.out _).mono ?_
        rintro e w' ⟨rfl, rfl⟩
        go_wp2_with fail
        refine (A2.out _).mono ?_
        rintro e w3 ⟨hb3, rfl⟩
        have J0 := Lib.hid (K0.out.under hb3 (by omega))
        have J1 := Lib.hid (K1.out.under hb3 (by omega))
        have Jb := Lib.hid (Kb.out.trans (hb3.mono Kb.out.size))
        have hz3 : w1.heap.size < w3.heap.size := Nat.lt_of_lt_of_le hz2 hb3.size
        have hz03 : w.heap.size < w3.heap.size := by omega
        clear hb3 c0 c1 f0 f1 d0 d1 g0 g1
        obtain ⟨c0, c1, f0, f1⟩ := two_cells J0.out
        obtain ⟨d0, d1, g0, g1⟩ := two_cells J1.out
        go_wp2_with fail
        refine (C2.out _).mono ?_
        rintro e w4 ⟨hb4, rfl⟩
        obtain ⟨-, hb, hz4⟩ := box1 hb4
        have Jb4 := Lib.hid (Jb.out.trans (hb.mono Jb.out.size))
        have Ht4 := Lib.hid (Ht.out.below Jb4.out (Nat.le_refl _))
        clear hb4 hb
        by_cases hdp : 0 < d
        · have hX : 0 < X := by simpa [hdp] using hcmp
          clear hcmp
          go_wp2_with fail
          refine (awake4_any _ Ht4.out).mono ?_
          rintro e w5 ⟨hb5, rfl⟩
          have Hb5 := Lib.hid (Jb4.out.trans (hb5.mono Jb4.out.size))
          clear hb5
          go_wp2
          go_ret
          exact ⟨Hb5.out, rfl⟩
        · have hX : ¬ 0 < X := by simpa [hdp] using hcmp
          clear hcmp
          go_wp2_with fail
          refine (awake4_any _ Ht4.out).mono ?_
          rintro e w5 ⟨hb5, rfl⟩
          have Hb5 := Lib.hid (Jb4.out.trans (hb5.mono Jb4.out.size))
          clear hb5
          go_wp2
          go_ret
          exact ⟨Hb5.out, rfl⟩
      · have ha1 : stAdd s n d = ((0, 0), 6) := by unfold stAdd; rw [hl]; exact if_neg hR
        have A1 : ∀ w1, _ := fun w1 => stAdd_any s n d w1 hr h1 h2
        rw [ha1] at A1
        clear ha1 hl hback hqr hcmp
        have A1 := Lib.hid A1
        have R2 := Lib.hid (fun w1 => refStRight_any (s + q - 1) (n + r + 1000000000) w1)
        have hR' : stRight (s + q - 1) (n + r + 1000000000) = false := by simpa using hR
        rw [hR'] at R2
        clear hR hR'
        go_enter Tryd.func6, Tryd.ntmps6
        go_wp2_with fail
        refine (A1.out _).mono ?_
        rintro e w1 ⟨hb1, rfl⟩
        obtain ⟨H0, hb, hz⟩ := box1 hb1
        have H0' := Lib.hid H0
        have Hb1 := Lib.hid hb
        obtain ⟨c0, c1, f0, f1⟩ := two_cells H0
        clear hb1 H0 hb
        go_wp2_with fail
        refine (R1.out _).mono ?_
        rintro e w' ⟨rfl, rfl⟩
        go_wp2_with fail
        go_quiet (fail)
        obtain ⟨w2, hw2⟩ : ∃ w2, w2 = (w1.alloc (.cells #[.int .i64 (0), .int .i64 (0)] 23)).drewN nq := ⟨_, rfl⟩
        have K0 := Lib.hid (show Holds w2 w.heap.size 23 [.int .i64 s, .int .i64 n] by rw [hw2]; exact H0'.out.behind _)
        have K1 := Lib.hid (show Holds w2 w1.heap.size 23 [.int .i64 (0), .int .i64 (0)] by rw [hw2]; exact Holds.new w1 _ _)
        have Kb := Lib.hid (show Below w.heap.size w w2 by rw [hw2]; exact below_drewN (Hb1.out.alloc Hb1.out.size _) _)
        have hz2 : w1.heap.size < w2.heap.size := by rw [hw2]; show w1.heap.size < (w1.alloc _).heap.size; simp
        have Ht2 := Lib.hid (Ht.out.below Kb.out (Nat.le_refl _))
        rw [← hw2]
        clear hw2 c0 c1 f0 f1
        obtain ⟨c0, c1, f0, f1⟩ := two_cells K0.out
        obtain ⟨d0, d1, g0, g1⟩ := two_cells K1.out
        go_wp2_with fail
        refine (R2.out _).mono ?_
        rintro e w' ⟨rfl, rfl⟩
        go_wp2_with fail
        refine (awake4_any _ Ht2.out).mono ?_
        rintro e w3 ⟨hb3, rfl⟩
        have Hb3 := Lib.hid (Kb.out.trans (hb3.mono Kb.out.size))
        clear hb3
        go_wp2
        go_ret
        exact ⟨Hb3.out, rfl⟩
    · by_cases y1 : 1000000000 ≤ n + r
      · have hl : stLater s n d = (s + q + 1, n + r - 1000000000) := by rw [hlater]; refine Prod.ext ?_ ?_ <;> simp only <;> omega
        rw [hl] at hback hcmp
        simp only at hback hcmp
        have e1 : IntKind.i64.wrap (n + r) = n + r := IntWalk.i64_in _ (by omega)
        clear hlater
        by_cases hR : stRight (s + q + 1) (n + r - 1000000000) = true
        · have ha1 : stAdd s n d = ((s + q + 1, n + r - 1000000000), 0) := by unfold stAdd; rw [hl]; exact if_pos hR
          have hb2 : stAdd (s + q + 1) (n + r - 1000000000) (-d) = ((s, n), 0) := by unfold stAdd; rw [hback]; exact if_pos hr
          have A1 : ∀ w1, _ := fun w1 => stAdd_any s n d w1 hr h1 h2
          rw [ha1] at A1
          clear ha1 hl hback hqr
          have A2 : ∀ w1, _ := fun w1 => stAdd_any (s + q + 1) (n + r - 1000000000) (-d) w1 hR (by omega) (by omega)
          rw [hb2] at A2
          have A2 := Lib.hid A2
          have A1 := Lib.hid A1
          have R2 := Lib.hid (fun w1 => refStRight_any (s + q + 1) (n + r - 1000000000) w1)
          have C2 := Lib.hid (fun w1 => stCmp_any (s + q + 1) (n + r - 1000000000) s n w1)
          rw [hR] at R2
          generalize stCmp (s + q + 1) (n + r - 1000000000) s n = X at *
          clear hR
          go_enter Tryd.func6, Tryd.ntmps6
          go_wp2_with fail
          refine (A1.out _).mono ?_
          rintro e w1 ⟨hb1, rfl⟩
          obtain ⟨H0, hb, hz⟩ := box1 hb1
          have H0' := Lib.hid H0
          have Hb1 := Lib.hid hb
          obtain ⟨c0, c1, f0, f1⟩ := two_cells H0
          clear hb1 H0 hb
          go_wp2_with fail
          refine (R1.out _).mono ?_
          rintro e w' ⟨rfl, rfl⟩
          go_wp2_with fail
          go_quiet (fail)
          obtain ⟨w2, hw2⟩ : ∃ w2, w2 = (w1.alloc (.cells #[.int .i64 (s + q + 1), .int .i64 (n + r - 1000000000)] 23)).drewN nq := ⟨_, rfl⟩
          have K0 := Lib.hid (show Holds w2 w.heap.size 23 [.int .i64 s, .int .i64 n] by rw [hw2]; exact H0'.out.behind _)
          have K1 := Lib.hid (show Holds w2 w1.heap.size 23 [.int .i64 (s + q + 1), .int .i64 (n + r - 1000000000)] by rw [hw2]; exact Holds.new w1 _ _)
          have Kb := Lib.hid (show Below w.heap.size w w2 by rw [hw2]; exact below_drewN (Hb1.out.alloc Hb1.out.size _) _)
          have hz2 : w1.heap.size < w2.heap.size := by rw [hw2]; show w1.heap.size < (w1.alloc _).heap.size; simp
          have Ht2 := Lib.hid (Ht.out.below Kb.out (Nat.le_refl _))
          rw [← hw2]
          clear hw2 c0 c1 f0 f1
          obtain ⟨c0, c1, f0, f1⟩ := two_cells K0.out
          obtain ⟨d0, d1, g0, g1⟩ := two_cells K1.out
          go_wp2_with fail
          refine (R2.out _).mono ?_
          rintro e w' ⟨rfl, rfl⟩
          go_wp2_with fail
          refine (A2.out _).mono ?_
          rintro e w3 ⟨hb3, rfl⟩
          have J0 := Lib.hid (K0.out.under hb3 (by omega))
          have J1 := Lib.hid (K1.out.under hb3 (by omega))
          have Jb := Lib.hid (Kb.out.trans (hb3.mono Kb.out.size))
          have hz3 : w1.heap.size < w3.heap.size := Nat.lt_of_lt_of_le hz2 hb3.size
          have hz03 : w.heap.size < w3.heap.size := by omega
          clear hb3 c0 c1 f0 f1 d0 d1 g0 g1
          obtain ⟨c0, c1, f0, f1⟩ := two_cells J0.out
          obtain ⟨d0, d1, g0, g1⟩ := two_cells J1.out
          go_wp2_with fail
          refine (C2.out _).mono ?_
          rintro e w4 ⟨hb4, rfl⟩
          obtain ⟨-, hb, hz4⟩ := box1 hb4
          have Jb4 := Lib.hid (Jb.out.trans (hb.mono Jb.out.size))
          have Ht4 := Lib.hid (Ht.out.below Jb4.out (Nat.le_refl _))
          clear hb4 hb
          by_cases hdp : 0 < d
          · have hX : 0 < X := by simpa [hdp] using hcmp
            clear hcmp
            go_wp2_with fail
            refine (awake4_any _ Ht4.out).mono ?_
            rintro e w5 ⟨hb5, rfl⟩
            have Hb5 := Lib.hid (Jb4.out.trans (hb5.mono Jb4.out.size))
            clear hb5
            go_wp2
            go_ret
            exact ⟨Hb5.out, rfl⟩
          · have hX : ¬ 0 < X := by simpa [hdp] using hcmp
            clear hcmp
            go_wp2_with fail
            refine (awake4_any _ Ht4.out).mono ?_
            rintro e w5 ⟨hb5, rfl⟩
            have Hb5 := Lib.hid (Jb4.out.trans (hb5.mono Jb4.out.size))
            clear hb5
            go_wp2
            go_ret
            exact ⟨Hb5.out, rfl⟩
        · have ha1 : stAdd s n d = ((0, 0), 6) := by unfold stAdd; rw [hl]; exact if_neg hR
          have A1 : ∀ w1, _ := fun w1 => stAdd_any s n d w1 hr h1 h2
          rw [ha1] at A1
          clear ha1 hl hback hqr hcmp
          have A1 := Lib.hid A1
          have R2 := Lib.hid (fun w1 => refStRight_any (s + q + 1) (n + r - 1000000000) w1)
          have hR' : stRight (s + q + 1) (n + r - 1000000000) = false := by simpa using hR
          rw [hR'] at R2
          clear hR hR'
          go_enter Tryd.func6, Tryd.ntmps6
          go_wp2_with fail
          refine (A1.out _).mono ?_
          rintro e w1 ⟨hb1, rfl⟩
          obtain ⟨H0, hb, hz⟩ := box1 hb1
          have H0' := Lib.hid H0
          have Hb1 := Lib.hid hb
          obtain ⟨c0, c1, f0, f1⟩ := two_cells H0
          clear hb1 H0 hb
          go_wp2_with fail
          refine (R1.out _).mono ?_
          rintro e w' ⟨rfl, rfl⟩
          go_wp2_with fail
          go_quiet (fail)
          obtain ⟨w2, hw2⟩ : ∃ w2, w2 = (w1.alloc (.cells #[.int .i64 (0), .int .i64 (0)] 23)).drewN nq := ⟨_, rfl⟩
          have K0 := Lib.hid (show Holds w2 w.heap.size 23 [.int .i64 s, .int .i64 n] by rw [hw2]; exact H0'.out.behind _)
          have K1 := Lib.hid (show Holds w2 w1.heap.size 23 [.int .i64 (0), .int .i64 (0)] by rw [hw2]; exact Holds.new w1 _ _)
          have Kb := Lib.hid (show Below w.heap.size w w2 by rw [hw2]; exact below_drewN (Hb1.out.alloc Hb1.out.size _) _)
          have hz2 : w1.heap.size < w2.heap.size := by rw [hw2]; show w1.heap.size < (w1.alloc _).heap.size; simp
          have Ht2 := Lib.hid (Ht.out.below Kb.out (Nat.le_refl _))
          rw [← hw2]
          clear hw2 c0 c1 f0 f1
          obtain ⟨c0, c1, f0, f1⟩ := two_cells K0.out
          obtain ⟨d0, d1, g0, g1⟩ := two_cells K1.out
          go_wp2_with fail
          refine (R2.out _).mono ?_
          rintro e w' ⟨rfl, rfl⟩
          go_wp2_with fail
          refine (awake4_any _ Ht2.out).mono ?_
          rintro e w3 ⟨hb3, rfl⟩
          have Hb3 := Lib.hid (Kb.out.trans (hb3.mono Kb.out.size))
          clear hb3
          go_wp2
          go_ret
          exact ⟨Hb3.out, rfl⟩
      · have hl : stLater s n d = (s + q, n + r) := by rw [hlater]; refine Prod.ext ?_ ?_ <;> simp only <;> omega
        rw [hl] at hback hcmp
        simp only at hback hcmp
        have e1 : IntKind.i64.wrap (n + r) = n + r := IntWalk.i64_in _ (by omega)
        clear hlater
        by_cases hR : stRight (s + q) (n + r) = true
        · have ha1 : stAdd s n d = ((s + q, n + r), 0) := by unfold stAdd; rw [hl]; exact if_pos hR
          have hb2 : stAdd (s + q) (n + r) (-d) = ((s, n), 0) := by unfold stAdd; rw [hback]; exact if_pos hr
          have A1 : ∀ w1, _ := fun w1 => stAdd_any s n d w1 hr h1 h2
          rw [ha1] at A1
          clear ha1 hl hback hqr
          have A2 : ∀ w1, _ := fun w1 => stAdd_any (s + q) (n + r) (-d) w1 hR (by omega) (by omega)
          rw [hb2] at A2
          have A2 := Lib.hid A2
          have A1 := Lib.hid A1
          have R2 := Lib.hid (fun w1 => refStRight_any (s + q) (n + r) w1)
          have C2 := Lib.hid (fun w1 => stCmp_any (s + q) (n + r) s n w1)
          rw [hR] at R2
          generalize stCmp (s + q) (n + r) s n = X at *
          clear hR
          go_enter Tryd.func6, Tryd.ntmps6
          go_wp2_with fail
          refine (A1.out _).mono ?_
          rintro e w1 ⟨hb1, rfl⟩
          obtain ⟨H0, hb, hz⟩ := box1 hb1
          have H0' := Lib.hid H0
          have Hb1 := Lib.hid hb
          obtain ⟨c0, c1, f0, f1⟩ := two_cells H0
          clear hb1 H0 hb
          go_wp2_with fail
          refine (R1.out _).mono ?_
          rintro e w' ⟨rfl, rfl⟩
          go_wp2_with fail
          go_quiet (fail)
          obtain ⟨w2, hw2⟩ : ∃ w2, w2 = (w1.alloc (.cells #[.int .i64 (s + q), .int .i64 (n + r)] 23)).drewN nq := ⟨_, rfl⟩
          have K0 := Lib.hid (show Holds w2 w.heap.size 23 [.int .i64 s, .int .i64 n] by rw [hw2]; exact H0'.out.behind _)
          have K1 := Lib.hid (show Holds w2 w1.heap.size 23 [.int .i64 (s + q), .int .i64 (n + r)] by rw [hw2]; exact Holds.new w1 _ _)
          have Kb := Lib.hid (show Below w.heap.size w w2 by rw [hw2]; exact below_drewN (Hb1.out.alloc Hb1.out.size _) _)
          have hz2 : w1.heap.size < w2.heap.size := by rw [hw2]; show w1.heap.size < (w1.alloc _).heap.size; simp
          have Ht2 := Lib.hid (Ht.out.below Kb.out (Nat.le_refl _))
          rw [← hw2]
          clear hw2 c0 c1 f0 f1
          obtain ⟨c0, c1, f0, f1⟩ := two_cells K0.out
          obtain ⟨d0, d1, g0, g1⟩ := two_cells K1.out
          go_wp2_with fail
          refine (R2.out _).mono ?_
          rintro e w' ⟨rfl, rfl⟩
          go_wp2_with fail
          refine (A2.out _).mono ?_
          rintro e w3 ⟨hb3, rfl⟩
          have J0 := Lib.hid (K0.out.under hb3 (by omega))
          have J1 := Lib.hid (K1.out.under hb3 (by omega))
          have Jb := Lib.hid (Kb.out.trans (hb3.mono Kb.out.size))
          have hz3 : w1.heap.size < w3.heap.size := Nat.lt_of_lt_of_le hz2 hb3.size
          have hz03 : w.heap.size < w3.heap.size := by omega
          clear hb3 c0 c1 f0 f1 d0 d1 g0 g1
          obtain ⟨c0, c1, f0, f1⟩ := two_cells J0.out
          obtain ⟨d0, d1, g0, g1⟩ := two_cells J1.out
          go_wp2_with fail
          refine (C2.out _).mono ?_
          rintro e w4 ⟨hb4, rfl⟩
          obtain ⟨-, hb, hz4⟩ := box1 hb4
          have Jb4 := Lib.hid (Jb.out.trans (hb.mono Jb.out.size))
          have Ht4 := Lib.hid (Ht.out.below Jb4.out (Nat.le_refl _))
          clear hb4 hb
          by_cases hdp : 0 < d
          · have hX : 0 < X := by simpa [hdp] using hcmp
            clear hcmp
            go_wp2_with fail
            refine (awake4_any _ Ht4.out).mono ?_
            rintro e w5 ⟨hb5, rfl⟩
            have Hb5 := Lib.hid (Jb4.out.trans (hb5.mono Jb4.out.size))
            clear hb5
            go_wp2
            go_ret
            exact ⟨Hb5.out, rfl⟩
          · have hX : ¬ 0 < X := by simpa [hdp] using hcmp
            clear hcmp
            go_wp2_with fail
            refine (awake4_any _ Ht4.out).mono ?_
            rintro e w5 ⟨hb5, rfl⟩
            have Hb5 := Lib.hid (Jb4.out.trans (hb5.mono Jb4.out.size))
            clear hb5
            go_wp2
            go_ret
            exact ⟨Hb5.out, rfl⟩
        · have ha1 : stAdd s n d = ((0, 0), 6) := by unfold stAdd; rw [hl]; exact if_neg hR
          have A1 : ∀ w1, _ := fun w1 => stAdd_any s n d w1 hr h1 h2
          rw [ha1] at A1
          clear ha1 hl hback hqr hcmp
          have A1 := Lib.hid A1
          have R2 := Lib.hid (fun w1 => refStRight_any (s + q) (n + r) w1)
          have hR' : stRight (s + q) (n + r) = false := by simpa using hR
          rw [hR'] at R2
          clear hR hR'
          go_enter Tryd.func6, Tryd.ntmps6
          go_wp2_with fail
          refine (A1.out _).mono ?_
          rintro e w1 ⟨hb1, rfl⟩
          obtain ⟨H0, hb, hz⟩ := box1 hb1
          have H0' := Lib.hid H0
          have Hb1 := Lib.hid hb
          obtain ⟨c0, c1, f0, f1⟩ := two_cells H0
          clear hb1 H0 hb
          go_wp2_with fail
          refine (R1.out _).mono ?_
          rintro e w' ⟨rfl, rfl⟩
          go_wp2_with fail
          go_quiet (fail)
          obtain ⟨w2, hw2⟩ : ∃ w2, w2 = (w1.alloc (.cells #[.int .i64 (0), .int .i64 (0)] 23)).drewN nq := ⟨_, rfl⟩
          have K0 := Lib.hid (show Holds w2 w.heap.size 23 [.int .i64 s, .int .i64 n] by rw [hw2]; exact H0'.out.behind _)
          have K1 := Lib.hid (show Holds w2 w1.heap.size 23 [.int .i64 (0), .int .i64 (0)] by rw [hw2]; exact Holds.new w1 _ _)
          have Kb := Lib.hid (show Below w.heap.size w w2 by rw [hw2]; exact below_drewN (Hb1.out.alloc Hb1.out.size _) _)
          have hz2 : w1.heap.size < w2.heap.size := by rw [hw2]; show w1.heap.size < (w1.alloc _).heap.size; simp
          have Ht2 := Lib.hid (Ht.out.below Kb.out (Nat.le_refl _))
          rw [← hw2]
          clear hw2 c0 c1 f0 f1
          obtain ⟨c0, c1, f0, f1⟩ := two_cells K0.out
          obtain ⟨d0, d1, g0, g1⟩ := two_cells K1.out
          go_wp2_with fail
          refine (R2.out _).mono ?_
          rintro e w' ⟨rfl, rfl⟩
          go_wp2_with fail
          refine (awake4_any _ Ht2.out).mono ?_
          rintro e w3 ⟨hb3, rfl⟩
          have Hb3 := Lib.hid (Kb.out.trans (hb3.mono Kb.out.size))
          clear hb3
          go_wp2
          go_ret
          exact ⟨Hb3.out, rfl⟩
  · have hc : stRight s n = false ∨ stRight s n = true ∧ 1152921504606846976 < d ∨ stRight s n = true ∧ ¬ 1152921504606846976 < d ∧ d < -1152921504606846976 := by
      by_cases hr : stRight s n = true
      · by_cases h1 : 1152921504606846976 < d
        · exact .inr (.inl ⟨hr, h1⟩)
        · exact .inr (.inr ⟨hr, h1, by
            rcases Int.lt_or_le d (-1152921504606846976) with h | h
            · exact h
            · exact absurd ⟨hr, h, by omega⟩ hok⟩)
      · exact .inl (by simpa using hr)
    have A1 := Lib.hid (fun w1 => stAdd_no s n d w1 (by rcases hc with h | h | h; exact .inl h; exact .inr (.inr h.2); exact .inr (.inl h.2.2)))
    have R1 := Lib.hid (fun w1 => refStRight_any s n w1)
    clear hok
    rcases hc with h | ⟨h, h1⟩ | ⟨h, h1, h2⟩
    all_goals
      rw [h] at R1
      clear h
      go_enter Tryd.func6, Tryd.ntmps6
      go_wp2_with fail
      refine (A1.out _).mono ?_
      rintro e w1 ⟨hb1, rfl⟩
      obtain ⟨H0, hb, hz⟩ := box1 hb1
      have Ht1 := Lib.hid ((Ht.out.below hb (Nat.le_refl _)).below ((Below.refl _ _).alloc (Nat.le_refl _) (.cells #[.int .i64 0, .int .i64 0] 23)) (Nat.le_refl _))
      have Hb1 := Lib.hid hb
      obtain ⟨c0, c1, f0, f1⟩ := two_cells H0
      clear hb1 H0 hb
      go_wp2_with fail
      refine (R1.out _).mono ?_
      rintro e w' ⟨rfl, rfl⟩
      go_wp2_with fail
      refine (awake4_any _ Ht1.out).mono ?_
      rintro e w2 ⟨hb2, rfl⟩
      obtain ⟨H0, hb, hz⟩ := box1 hb2
      have Hb2 := Lib.hid (Hb1.out.trans (hb.mono Hb1.out.size))
      clear hb2 H0 hb
      go_wp2
      go_ret
      exact ⟨Hb2.out, rfl⟩
end Go.Proofs.YtnmngmnckohbgaaDoor.stampAdds
