/-
  Contracts of package stamp, but for texts, and of the document's own.
-/
import Derived.Test.YtnmngmnckohbgaaDoorRows
import Derived.Test.YtnmngmnckohbgaaDoorStP
import Derived.Test.YtnmngmnckohbgaaDoorMem
import Derived.Laws.StructEq
import Derived.Deep.QuietTactic
import Derived.BigQuiet
namespace Go.Proofs.YtnmngmnckohbgaaDoor
open Go.ChangeShapes Go.WideShapes Go.ChangeAt Go.RowKit

theorem below_drewN {B : Nat} {a w : World} (h : Below B a w) (n : Nat) : Below B a (w.drewN n) := h.trans ⟨rfl, rfl, rfl, Nat.le_refl _, fun _ _ => rfl⟩

/-- A block of two cells, as the walk asks for it. -/
theorem two_cells {w : World} {g : Nat} {t : TypeId} {a b : Value} (h : Holds w g t [a, b]) :
    w.cell? ⟨g, 0, none⟩ = some a ∧ w.cell? ⟨g, 1, none⟩ = some b ∧ w.frozen? ⟨g, 0, none⟩ = false ∧ w.frozen? ⟨g, 1, none⟩ = false :=
  ⟨h.cell (i := 0) (by simp), h.cell (i := 1) (by simp), h.frozen 0, h.frozen 1⟩
/-- Behind a call: one box, two boxes. -/
theorem box1 {w w1 : World} {a b : Value} {t : TypeId} (hb : Below (w.alloc (.cells #[a, b] t)).heap.size (w.alloc (.cells #[a, b] t)) w1) :
    Holds w1 w.heap.size t [a, b] ∧ Below w.heap.size w w1 ∧ w.heap.size < w1.heap.size :=
  ⟨(Holds.new w t [a, b]).under hb (by simp), ((Below.refl w.heap.size w).alloc (Nat.le_refl _) _).trans (hb.mono (by simp)), by have := hb.size; simp at this; omega⟩
theorem box2 {w w1 : World} {a b c d : Value} {t : TypeId}
    (hb : Below ((w.alloc (.cells #[a, b] t)).alloc (.cells #[c, d] t)).heap.size ((w.alloc (.cells #[a, b] t)).alloc (.cells #[c, d] t)) w1) :
    Holds w1 w.heap.size t [a, b] ∧ Holds w1 (w.heap.size + 1) t [c, d] ∧ Below w.heap.size w w1 ∧ w.heap.size + 1 < w1.heap.size := by
  have h2 := Holds.new (w.alloc (.cells #[a, b] t)) t [c, d]
  rw [World.size_alloc] at h2
  exact ⟨((Holds.new w t [a, b]).behind _).under hb (by simp; omega), h2.under hb (by simp), (((Below.refl w.heap.size w).alloc (Nat.le_refl _) _).alloc (by simp) _).trans (hb.mono (by simp; omega)), by have := hb.size; simp at this; omega⟩

theorem stRight_any (s n : Int) (w : World) :
    Calls Tryd.prog 11 #[.agg #[.int .i64 s, .int .i64 n]] w fun e w' => Below w.heap.size w w' ∧ e = .returned (.bool (stRight s n)) := by
  unfold stRight
  by_cases h1 : -9007199254740991 ≤ s
  · have d1 : decide (-9007199254740991 ≤ s) = true := decide_eq_true h1
    by_cases h2 : s ≤ 9007199254740991
    · have d2 : decide (s ≤ 9007199254740991) = true := decide_eq_true h2
      by_cases h3 : 0 ≤ n
      · have d3 : decide (0 ≤ n) = true := decide_eq_true h3
        have Hq := Lib.hid (show decide (n < 1000000000) = decide (-9007199254740991 ≤ s ∧ s ≤ 9007199254740991 ∧ 0 ≤ n ∧ n ≤ 999999999) by rw [decide_eq_decide]; omega)
        clear h1 h2 h3
        go_enter Tryd.func11, Tryd.ntmps11
        go_wp2
        go_ret
        rw [← Hq.out]
        exact ⟨(Below.refl _ _).alloc (Nat.le_refl _) _, rfl⟩
      · have d3 : decide (0 ≤ n) = false := decide_eq_false h3
        have Hq := Lib.hid (show decide (-9007199254740991 ≤ s ∧ s ≤ 9007199254740991 ∧ 0 ≤ n ∧ n ≤ 999999999) = false from decide_eq_false (by omega))
        clear h1 h2 h3
        go_enter Tryd.func11, Tryd.ntmps11
        go_wp2
        go_ret
        rw [Hq.out]
        exact ⟨(Below.refl _ _).alloc (Nat.le_refl _) _, rfl⟩
    · have d2 : decide (s ≤ 9007199254740991) = false := decide_eq_false h2
      have Hq := Lib.hid (show decide (-9007199254740991 ≤ s ∧ s ≤ 9007199254740991 ∧ 0 ≤ n ∧ n ≤ 999999999) = false from decide_eq_false (by omega))
      clear h1 h2
      go_enter Tryd.func11, Tryd.ntmps11
      go_wp2
      go_ret
      rw [Hq.out]
      exact ⟨(Below.refl _ _).alloc (Nat.le_refl _) _, rfl⟩
  · have d1 : decide (-9007199254740991 ≤ s) = false := decide_eq_false h1
    have Hq := Lib.hid (show decide (-9007199254740991 ≤ s ∧ s ≤ 9007199254740991 ∧ 0 ≤ n ∧ n ≤ 999999999) = false from decide_eq_false (by omega))
    clear h1
    go_enter Tryd.func11, Tryd.ntmps11
    go_wp2
    go_ret
    rw [Hq.out]
    exact ⟨(Below.refl _ _).alloc (Nat.le_refl _) _, rfl⟩

theorem refStRight_any (s n : Int) (w : World) :
    Calls Tryd.prog 12 #[.int .i64 s, .int .i64 n] w fun e w' => w = w' ∧ e = .returned (.bool (stRight s n)) := by
  unfold stRight
  by_cases h1 : -9007199254740991 ≤ s
  · have d1 : decide (-9007199254740991 ≤ s) = true := decide_eq_true h1
    by_cases h2 : s ≤ 9007199254740991
    · have d2 : decide (s ≤ 9007199254740991) = true := decide_eq_true h2
      by_cases h3 : 0 ≤ n
      · have d3 : decide (0 ≤ n) = true := decide_eq_true h3
        have Hq := Lib.hid (show decide (n ≤ 999999999) = decide (-9007199254740991 ≤ s ∧ s ≤ 9007199254740991 ∧ 0 ≤ n ∧ n ≤ 999999999) by rw [decide_eq_decide]; omega)
        clear h1 h2 h3
        go_enter Tryd.func12, Tryd.ntmps12
        go_wp2
        go_ret
        rw [← Hq.out]
        exact ⟨rfl, rfl⟩
      · have d3 : decide (0 ≤ n) = false := decide_eq_false h3
        have Hq := Lib.hid (show decide (-9007199254740991 ≤ s ∧ s ≤ 9007199254740991 ∧ 0 ≤ n ∧ n ≤ 999999999) = false from decide_eq_false (by omega))
        clear h1 h2 h3
        go_enter Tryd.func12, Tryd.ntmps12
        go_wp2
        go_ret
        rw [Hq.out]
        exact ⟨rfl, rfl⟩
    · have d2 : decide (s ≤ 9007199254740991) = false := decide_eq_false h2
      have Hq := Lib.hid (show decide (-9007199254740991 ≤ s ∧ s ≤ 9007199254740991 ∧ 0 ≤ n ∧ n ≤ 999999999) = false from decide_eq_false (by omega))
      clear h1 h2
      go_enter Tryd.func12, Tryd.ntmps12
      go_wp2
      go_ret
      rw [Hq.out]
      exact ⟨rfl, rfl⟩
  · have d1 : decide (-9007199254740991 ≤ s) = false := decide_eq_false h1
    have Hq := Lib.hid (show decide (-9007199254740991 ≤ s ∧ s ≤ 9007199254740991 ∧ 0 ≤ n ∧ n ≤ 999999999) = false from decide_eq_false (by omega))
    clear h1
    go_enter Tryd.func12, Tryd.ntmps12
    go_wp2
    go_ret
    rw [Hq.out]
    exact ⟨rfl, rfl⟩

theorem refStCmp_any (s n s' n' : Int) (w : World) :
    Calls Tryd.prog 15 #[.int .i64 s, .int .i64 n, .int .i64 s', .int .i64 n'] w fun e w' => w = w' ∧ e = .returned (.int .i64 (stCmp s n s' n')) := by
  unfold stCmp
  go_enter Tryd.func15, Tryd.ntmps15
  go_wp2
  all_goals go_ret
  all_goals (repeat (first | rw [if_pos (by assumption)] | rw [if_neg (by omega)]))
  all_goals exact ⟨rfl, rfl⟩

theorem stOpp_any (s n : Int) (w : World) (hs : -9007199254740991 ≤ s ∧ s ≤ 9999999999999999) (hn : 0 ≤ n ∧ n ≤ 999999999) :
    Calls Tryd.prog 22 #[.agg #[.int .i64 s, .int .i64 n]] w fun e w' => Below w.heap.size w w' ∧ e = .returned (.agg #[.int .i64 (stOpp s n).1, .int .i64 (stOpp s n).2]) := by
  obtain ⟨hs0, hs1⟩ := hs
  obtain ⟨hn0, hn1⟩ := hn
  by_cases h : n = 0
  · have Hq := Lib.hid (show stOpp s n = (-s, 0) from if_pos h)
    subst h
    go_enter Tryd.func22, Tryd.ntmps22
    go_wp2
    rw [Hq.out]
    exact bodyPost_ret (v := .agg #[.int .i64 (-s), .int .i64 0]) (by simp [results, Tryd.results22, go_sem]) rfl ⟨((Below.refl _ _).alloc (Nat.le_refl _) _).alloc (by simp) _, rfl⟩
  · have Hq := Lib.hid (show stOpp s n = (-s - 1, 1000000000 - n) from if_neg h)
    have e1 : (n == 0) = false := by simpa using h
    clear h
    go_enter Tryd.func22, Tryd.ntmps22
    go_wp2
    rw [Hq.out]
    exact bodyPost_ret (v := .agg #[.int .i64 (-s - 1), .int .i64 (1000000000 - n)]) (by simp [results, Tryd.results22, go_sem]) rfl ⟨((Below.refl _ _).alloc (Nat.le_refl _) _).alloc (by simp) _, rfl⟩

theorem stCmp_any (s n s' n' : Int) (w : World) :
    Calls Tryd.prog 14 #[.agg #[.int .i64 s, .int .i64 n], .agg #[.int .i64 s', .int .i64 n']] w fun e w' => Below w.heap.size w w' ∧ e = .returned (.int .i64 (stCmp s n s' n')) := by
  have hc : stCmp s n s' n' = if s < s' then -1 else if s' < s then 1 else if n < n' then -1 else if n' < n then 1 else 0 := rfl
  rcases Int.lt_trichotomy s s' with h | h | h
  · have Hq := Lib.hid (show stCmp s n s' n' = -1 by rw [hc, if_pos h])
    have e1 : (s == s') = false := by rw [beq_eq_false_iff_ne]; omega
    clear hc
    go_enter Tryd.func14, Tryd.ntmps14
    go_wp2
    go_ret
    rw [Hq.out]
    exact ⟨((Below.refl _ _).alloc (Nat.le_refl _) _).alloc (by simp) _, rfl⟩
  · subst h
    rcases Int.lt_trichotomy n n' with h | h | h
    · have Hq := Lib.hid (show stCmp s n s n' = -1 by rw [hc, if_neg (by omega), if_neg (by omega), if_pos h])
      have e1 : (n == n') = false := by rw [beq_eq_false_iff_ne]; omega
      clear hc
      go_enter Tryd.func14, Tryd.ntmps14
      go_wp2
      go_ret
      rw [Hq.out]
      exact ⟨((Below.refl _ _).alloc (Nat.le_refl _) _).alloc (by simp) _, rfl⟩
    · subst h
      have Hq := Lib.hid (show stCmp s n s n = 0 by rw [hc, if_neg (by omega), if_neg (by omega), if_neg (by omega), if_neg (by omega)])
      clear hc
      go_enter Tryd.func14, Tryd.ntmps14
      go_wp2
      go_ret
      rw [Hq.out]
      exact ⟨((Below.refl _ _).alloc (Nat.le_refl _) _).alloc (by simp) _, rfl⟩
    · have Hq := Lib.hid (show stCmp s n s n' = 1 by rw [hc, if_neg (by omega), if_neg (by omega), if_neg (by omega), if_pos h])
      have e1 : (n == n') = false := by rw [beq_eq_false_iff_ne]; omega
      have e2 : ¬ n < n' := by omega
      clear hc
      go_enter Tryd.func14, Tryd.ntmps14
      go_wp2
      go_ret
      rw [Hq.out]
      exact ⟨((Below.refl _ _).alloc (Nat.le_refl _) _).alloc (by simp) _, rfl⟩
  · have Hq := Lib.hid (show stCmp s n s' n' = 1 by rw [hc, if_neg (by omega), if_pos h])
    have e1 : (s == s') = false := by rw [beq_eq_false_iff_ne]; omega
    have e2 : ¬ s < s' := by omega
    clear hc
    go_enter Tryd.func14, Tryd.ntmps14
    go_wp2
    go_ret
    rw [Hq.out]
    exact ⟨((Below.refl _ _).alloc (Nat.le_refl _) _).alloc (by simp) _, rfl⟩

theorem stAdd_no (s n d : Int) (w : World) (h : stRight s n = false ∨ d < -1152921504606846976 ∨ 1152921504606846976 < d) :
    Calls Tryd.prog 16 #[.agg #[.int .i64 s, .int .i64 n], .int .i64 d] w fun e w' => Below w.heap.size w w' ∧ e = .returned (.tuple #[.agg #[.int .i64 0, .int .i64 0], .int .i64 1]) := by
  have Hr := Lib.hid (stRight_any s n)
  by_cases hr : stRight s n = true
  · have h' : d < -1152921504606846976 ∨ ¬ d < -1152921504606846976 ∧ 1152921504606846976 < d := by rcases h with h | h | h; rw [hr] at h; cases h; exact .inl h; exact .inr ⟨by omega, h⟩
    rw [hr] at Hr
    clear h hr
    rcases h' with h1 | ⟨h1, h2⟩
    all_goals
      go_enter Tryd.func16, Tryd.ntmps16
      go_wp2_with fail
      refine (Hr.out _).mono ?_
      rintro e w1 ⟨hb, rfl⟩
      obtain ⟨H0, H1, hb, hz⟩ := box2 hb
      obtain ⟨c0, c1, f0, f1⟩ := two_cells H1
      have Hb := Lib.hid hb
      clear hb H0 H1
      go_wp2
      exact bodyPost_ret (v := .tuple #[.agg #[.int .i64 0, .int .i64 0], .int .i64 1]) (by simp [results, Tryd.results16, go_sem, c0, c1]) rfl ⟨(Hb.out.setCell (by simp) _).setCell (by simp) _, rfl⟩
  · have hr' : stRight s n = false := by simpa using hr
    rw [hr'] at Hr
    clear h hr hr'
    go_enter Tryd.func16, Tryd.ntmps16
    go_wp2_with fail
    refine (Hr.out _).mono ?_
    rintro e w1 ⟨hb, rfl⟩
    obtain ⟨H0, H1, hb, hz⟩ := box2 hb
    obtain ⟨c0, c1, f0, f1⟩ := two_cells H1
    have Hb := Lib.hid hb
    clear hb H0 H1
    go_wp2
    exact bodyPost_ret (v := .tuple #[.agg #[.int .i64 0, .int .i64 0], .int .i64 1]) (by simp [results, Tryd.results16, go_sem, c0, c1]) rfl ⟨(Hb.out.setCell (by simp) _).setCell (by simp) _, rfl⟩

theorem stAdd_any (s n d : Int) (w : World) (h : stRight s n = true) (h1 : -1152921504606846976 ≤ d) (h2 : d ≤ 1152921504606846976) :
    Calls Tryd.prog 16 #[.agg #[.int .i64 s, .int .i64 n], .int .i64 d] w fun e w' => Below w.heap.size w w' ∧ e = .returned (.tuple #[.agg #[.int .i64 (stAdd s n d).1.1, .int .i64 (stAdd s n d).1.2], .int .i64 (stAdd s n d).2]) := by
  have Hr := Lib.hid (stRight_any s n)
  have hbd := stRight_true h
  obtain ⟨b1, b2, b3, b4⟩ := hbd
  rw [h] at Hr
  clear h
  have e1 : IntKind.i64.wrap (n + d) = n + d := IntWalk.i64_in _ (by omega)
  have e2 : ¬ d < -1152921504606846976 := by omega
  have e3 : ¬ 1152921504606846976 < d := by omega
  obtain ⟨q, r, hq, hr, hqr, hr0, hr1⟩ := tparts (n + d)
  have hq0 : -2000000000 ≤ q ∧ q ≤ 2000000000 := by omega
  have Hqr := Lib.hid hqr
  clear h1 h2 hqr
  obtain ⟨hq0, hq1⟩ := hq0
  go_enter Tryd.func16, Tryd.ntmps16
  go_wp2_with fail
  refine (Hr.out _).mono ?_
  rintro e w1 ⟨hb, rfl⟩
  obtain ⟨H0, H1, hb, hz⟩ := box2 hb
  obtain ⟨c0, c1, f0, f1⟩ := two_cells H0
  have Hb := Lib.hid hb
  have H0' := Lib.hid H0
  have H1' := Lib.hid H1
  clear hb H0 H1
  go_wp2_with fail
  go_quiet (fail)
  obtain ⟨w2, hw2⟩ : ∃ w2, w2 = w1.drewN nq := ⟨_, rfl⟩
  have K0 := Lib.hid (show Holds w2 w.heap.size 23 [.int .i64 s, .int .i64 n] by rw [hw2]; exact H0'.out)
  have K1 := Lib.hid (show Holds w2 (w.heap.size + 1) 23 [.int .i64 0, .int .i64 0] by rw [hw2]; exact H1'.out)
  have Kb := Lib.hid (show Below w.heap.size w w2 by rw [hw2]; exact below_drewN Hb.out _)
  have hz2 : w.heap.size + 1 < w2.heap.size := by rw [hw2]; exact hz
  rw [← hw2]
  clear hw2 c0 c1 f0 f1 Hb H0' H1' hz
  obtain ⟨c0, c1, f0, f1⟩ := two_cells K0.out
  by_cases hneg : r < 0
  · have Hl := Lib.hid (stLater_of' (s := s) Hqr.out hneg hr0)
    go_wp2_with fail
    by_cases hR : stRight (s + (q - 1)) (r + 1000000000) = true
    · refine (stRight_any _ _ _).mono ?_
      rw [hR]
      rintro e w3 ⟨hb3, rfl⟩
      obtain ⟨J0, Jb, Jz⟩ := box1 hb3
      have J1 := K1.out.under Jb (by omega)
      have Hb := Lib.hid (Kb.out.trans (Jb.mono Kb.out.size))
      obtain ⟨j0, j1, j2, j3⟩ := two_cells J0
      obtain ⟨k0, k1, k2, k3⟩ := two_cells J1
      have hRh := Lib.hid hR
      clear hb3 J0 J1 Jb c0 c1 f0 f1 hR
      go_wp2
      refine bodyPost_ret (v := .tuple #[.agg #[.int .i64 (s + (q - 1)), .int .i64 (r + 1000000000)], .int .i64 0]) (by simp [results, Tryd.results16, go_sem, k0, k1]) rfl ⟨(Hb.out.setCell (by simp) _).setCell (by simp) _, ?_⟩
      have hq : stAdd s n d = (stLater s n d, 0) := if_pos (by rw [Hl.out]; exact hRh.out)
      rw [hq, Hl.out]
    · have hR' : stRight (s + (q - 1)) (r + 1000000000) = false := by simpa using hR
      refine (stRight_any _ _ _).mono ?_
      rw [hR']
      rintro e w3 ⟨hb3, rfl⟩
      obtain ⟨J0, Jb, Jz⟩ := box1 hb3
      have J1 := K1.out.under Jb (by omega)
      have Hb := Lib.hid (Kb.out.trans (Jb.mono Kb.out.size))
      obtain ⟨k0, k1, k2, k3⟩ := two_cells J1
      have hRh := Lib.hid hR
      clear hb3 J0 J1 Jb c0 c1 f0 f1 hR hR'
      go_wp2
      refine bodyPost_ret (v := .tuple #[.agg #[.int .i64 0, .int .i64 0], .int .i64 6]) (by simp [results, Tryd.results16, go_sem, k0, k1]) rfl ⟨(Hb.out.setCell (by simp) _).setCell (by simp) _, ?_⟩
      have hq : stAdd s n d = ((0, 0), 6) := if_neg (by rw [Hl.out]; exact hRh.out)
      rw [hq]
  · have Hl := Lib.hid (stLater_of (s := s) Hqr.out (by omega) hr1)
    go_wp2_with fail
    by_cases hR : stRight (s + q) (r) = true
    · refine (stRight_any _ _ _).mono ?_
      rw [hR]
      rintro e w3 ⟨hb3, rfl⟩
      obtain ⟨J0, Jb, Jz⟩ := box1 hb3
      have J1 := K1.out.under Jb (by omega)
      have Hb := Lib.hid (Kb.out.trans (Jb.mono Kb.out.size))
      obtain ⟨j0, j1, j2, j3⟩ := two_cells J0
      obtain ⟨k0, k1, k2, k3⟩ := two_cells J1
      have hRh := Lib.hid hR
      clear hb3 J0 J1 Jb c0 c1 f0 f1 hR
      go_wp2
      refine bodyPost_ret (v := .tuple #[.agg #[.int .i64 (s + q), .int .i64 (r)], .int .i64 0]) (by simp [results, Tryd.results16, go_sem, k0, k1]) rfl ⟨(Hb.out.setCell (by simp) _).setCell (by simp) _, ?_⟩
      have hq : stAdd s n d = (stLater s n d, 0) := if_pos (by rw [Hl.out]; exact hRh.out)
      rw [hq, Hl.out]
    · have hR' : stRight (s + q) (r) = false := by simpa using hR
      refine (stRight_any _ _ _).mono ?_
      rw [hR']
      rintro e w3 ⟨hb3, rfl⟩
      obtain ⟨J0, Jb, Jz⟩ := box1 hb3
      have J1 := K1.out.under Jb (by omega)
      have Hb := Lib.hid (Kb.out.trans (Jb.mono Kb.out.size))
      obtain ⟨k0, k1, k2, k3⟩ := two_cells J1
      have hRh := Lib.hid hR
      clear hb3 J0 J1 Jb c0 c1 f0 f1 hR hR'
      go_wp2
      refine bodyPost_ret (v := .tuple #[.agg #[.int .i64 0, .int .i64 0], .int .i64 6]) (by simp [results, Tryd.results16, go_sem, k0, k1]) rfl ⟨(Hb.out.setCell (by simp) _).setCell (by simp) _, ?_⟩
      have hq : stAdd s n d = ((0, 0), 6) := if_neg (by rw [Hl.out]; exact hRh.out)
      rw [hq]
end Go.Proofs.YtnmngmnckohbgaaDoor
