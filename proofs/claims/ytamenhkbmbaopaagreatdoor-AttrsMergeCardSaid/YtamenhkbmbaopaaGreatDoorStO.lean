/-
  Contracts of stamp.Right and of a stamp's opposite.
-/
import Derived.Test.YtamenhkbmbaopaaGreatDoorRows
import Derived.Test.YtamenhkbmbaopaaGreatDoorStP
import Derived.Test.YtamenhkbmbaopaaGreatDoorDrew
import Derived.Test.YtamenhkbmbaopaaGreatDoorMem
import Derived.Laws.StructEq
import Derived.Deep.QuietTactic
import Derived.BigQuiet
namespace Go.Proofs.YtamenhkbmbaopaaGreatDoor
open Go.ChangeShapes Go.WideShapes Go.ChangeAt Go.RowKit


/-- A block of two cells, as the walk asks for it. -/
theorem two_cells {w : World} {g : Nat} {t : TypeId} {a b : Value} (h : Holds w g t [a, b]) :
    w.cell? ⟨g, 0, none⟩ = some a ∧ w.cell? ⟨g, 1, none⟩ = some b ∧ w.frozen? ⟨g, 0, none⟩ = false ∧ w.frozen? ⟨g, 1, none⟩ = false :=
  ⟨h.cell (i := 0) (by simp), h.cell (i := 1) (by simp), h.frozen 0, h.frozen 1⟩
/-- Behind a call: one box, two boxes. -/
theorem box1 {w w1 : World} {a b : Value} {t : TypeId} (hb : Below (w.alloc (.cells #[a, b] t)).heap.size (w.alloc (.cells #[a, b] t)) w1) :
    Holds w1 w.heap.size t [a, b] ∧ Below w.heap.size w w1 ∧ w.heap.size < w1.heap.size :=
  ⟨(Holds.new w t [a, b]).under hb (by simp), ((Below.refl w.heap.size w).alloc (Nat.le_refl _) _).trans (hb.mono (by simp)), by have := hb.size; simp at this; omega⟩
theorem box2 {w w1 : World} {a b c d : Value} {t : TypeId}
    (hb : Below ((w.alloc (.cells #[a, b] t)).alloc (.cells #[c, d] t)).heap.size ((w.alloc (.cells #[a, b] t)).alloc (.cells #[c, d] t)) w1) :
    Holds w1 w.heap.size t [a, b] ∧ Holds w1 (w.heap.size + 1) t [c, d] ∧ Below w.heap.size w w1 ∧ w.heap.size + 1 < w1.heap.size := by
  have h2 := Holds.new (w.alloc (.cells #[a, b] t)) t [c, d]
  rw [World.size_alloc] at h2
  exact ⟨((Holds.new w t [a, b]).behind _).under hb (by simp; omega), h2.under hb (by simp), (((Below.refl w.heap.size w).alloc (Nat.le_refl _) _).alloc (by simp) _).trans (hb.mono (by simp; omega)), by have := hb.size; simp at this; omega⟩

theorem stRight_any (s n : Int) (w : World) :
    Calls Tryz.prog 121 #[.agg #[.int .i64 s, .int .i64 n]] w fun e w' => Below w.heap.size w w' ∧ e = .returned (.bool (stRight s n)) := by
  unfold stRight
  by_cases h1 : -9007199254740991 ≤ s
  · have d1 : decide (-9007199254740991 ≤ s) = true := decide_eq_true h1
    by_cases h2 : s ≤ 9007199254740991
    · have d2 : decide (s ≤ 9007199254740991) = true := decide_eq_true h2
      by_cases h3 : 0 ≤ n
      · have d3 : decide (0 ≤ n) = true := decide_eq_true h3
        have Hq := Lib.hid (show decide (n < 1000000000) = decide (-9007199254740991 ≤ s ∧ s ≤ 9007199254740991 ∧ 0 ≤ n ∧ n ≤ 999999999) by rw [decide_eq_decide]; omega)
        clear h1 h2 h3
        go_enter Tryz.func121, Tryz.ntmps121
        go_wp2
        go_ret
        rw [← Hq.out]
        exact ⟨(Below.refl _ _).alloc (Nat.le_refl _) _, rfl⟩
      · have d3 : decide (0 ≤ n) = false := decide_eq_false h3
        have Hq := Lib.hid (show decide (-9007199254740991 ≤ s ∧ s ≤ 9007199254740991 ∧ 0 ≤ n ∧ n ≤ 999999999) = false from decide_eq_false (by omega))
        clear h1 h2 h3
        go_enter Tryz.func121, Tryz.ntmps121
        go_wp2
        go_ret
        rw [Hq.out]
        exact ⟨(Below.refl _ _).alloc (Nat.le_refl _) _, rfl⟩
    · have d2 : decide (s ≤ 9007199254740991) = false := decide_eq_false h2
      have Hq := Lib.hid (show decide (-9007199254740991 ≤ s ∧ s ≤ 9007199254740991 ∧ 0 ≤ n ∧ n ≤ 999999999) = false from decide_eq_false (by omega))
      clear h1 h2
      go_enter Tryz.func121, Tryz.ntmps121
      go_wp2
      go_ret
      rw [Hq.out]
      exact ⟨(Below.refl _ _).alloc (Nat.le_refl _) _, rfl⟩
  · have d1 : decide (-9007199254740991 ≤ s) = false := decide_eq_false h1
    have Hq := Lib.hid (show decide (-9007199254740991 ≤ s ∧ s ≤ 9007199254740991 ∧ 0 ≤ n ∧ n ≤ 999999999) = false from decide_eq_false (by omega))
    clear h1
    go_enter Tryz.func121, Tryz.ntmps121
    go_wp2
    go_ret
    rw [Hq.out]
    exact ⟨(Below.refl _ _).alloc (Nat.le_refl _) _, rfl⟩

theorem stOpp_any (s n : Int) (w : World) (hs : -9007199254740991 ≤ s ∧ s ≤ 9999999999999999) (hn : 0 ≤ n ∧ n ≤ 999999999) :
    Calls Tryz.prog 120 #[.agg #[.int .i64 s, .int .i64 n]] w fun e w' => Below w.heap.size w w' ∧ e = .returned (.agg #[.int .i64 (stOpp s n).1, .int .i64 (stOpp s n).2]) := by
  obtain ⟨hs0, hs1⟩ := hs
  obtain ⟨hn0, hn1⟩ := hn
  by_cases h : n = 0
  · have Hq := Lib.hid (show stOpp s n = (-s, 0) from if_pos h)
    subst h
    go_enter Tryz.func120, Tryz.ntmps120
    go_wp2
    rw [Hq.out]
    exact bodyPost_ret (v := .agg #[.int .i64 (-s), .int .i64 0]) (by simp [results, Tryz.results120, go_sem]) rfl ⟨((Below.refl _ _).alloc (Nat.le_refl _) _).alloc (by simp) _, rfl⟩
  · have Hq := Lib.hid (show stOpp s n = (-s - 1, 1000000000 - n) from if_neg h)
    have e1 : (n == 0) = false := by simpa using h
    clear h
    go_enter Tryz.func120, Tryz.ntmps120
    go_wp2
    rw [Hq.out]
    exact bodyPost_ret (v := .agg #[.int .i64 (-s - 1), .int .i64 (1000000000 - n)]) (by simp [results, Tryz.results120, go_sem]) rfl ⟨((Below.refl _ _).alloc (Nat.le_refl _) _).alloc (by simp) _, rfl⟩
end Go.Proofs.YtamenhkbmbaopaaGreatDoor
