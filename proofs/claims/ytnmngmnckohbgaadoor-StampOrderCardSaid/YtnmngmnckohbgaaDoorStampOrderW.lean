/- The walk of the law StampOrder. -/
import Derived.Test.YtnmngmnckohbgaaDoorStA
import Derived.Deep.RegionHeld3
namespace Go.Proofs.YtnmngmnckohbgaaDoor.stampOrder
open Go.ChangeShapes Go.WideShapes Go.ChangeAt Go.RowKit

/-- What the statement's region keeps. -/
def Keep (W : World) (g h : Nat) (s n s' n' : Int) (w : World) : Prop :=
  Holds w g 23 [.int .i64 s, .int .i64 n] ∧ Holds w h 23 [.int .i64 s', .int .i64 n'] ∧ Below W.heap.size W w ∧ TabOk W ∧ g < w.heap.size ∧ h < w.heap.size
theorem Keep.step {W : World} {g h : Nat} {s n s' n' : Int} {w w' : World} (k : Keep W g h s n s' n' w) (hb : Below w.heap.size w w') : Keep W g h s n s' n' w' := by
  obtain ⟨k1, k2, k3, k4, k5, k6⟩ := k
  exact ⟨k1.under hb k5, k2.under hb k6, k3.trans (hb.mono k3.size), k4, Nat.lt_of_lt_of_le k5 hb.size, Nat.lt_of_lt_of_le k6 hb.size⟩
theorem Keep.drew {W : World} {g h : Nat} {s n s' n' : Int} {w : World} (k : Keep W g h s n s' n' w) : Keep W g h s n s' n' w.drew := k.step ⟨rfl, rfl, rfl, Nat.le_refl _, fun _ _ => rfl⟩
theorem Keep.all {W : World} {g h : Nat} {s n s' n' : Int} {w : World} (k : Keep W g h s n s' n' w) :
    Keep W g h s n s' n' w ∧ w.cell? ⟨g, 0, none⟩ = some (.int .i64 s) ∧ w.cell? ⟨g, 1, none⟩ = some (.int .i64 n) ∧ w.cell? ⟨h, 0, none⟩ = some (.int .i64 s') ∧ w.cell? ⟨h, 1, none⟩ = some (.int .i64 n') :=
  ⟨k, (two_cells k.1).1, (two_cells k.1).2.1, (two_cells k.2.1).1, (two_cells k.2.1).2.1⟩
theorem Keep.tab {W : World} {g h : Nat} {s n s' n' : Int} {w : World} (k : Keep W g h s n s' n' w) : TabOk w := k.2.2.2.1.below k.2.2.1 (Nat.le_refl _)

set_option maxRecDepth 100000 in
set_option maxHeartbeats 4000000 in
theorem walk (s n s' n' : Int) (w : World) (ht : TabOk w) :
    Calls Tryd.prog 5 #[.agg #[.int .i64 s, .int .i64 n], .agg #[.int .i64 s', .int .i64 n']] w fun e w' => Below w.heap.size w w' ∧ e = .returned (.bool true) := by
  have C1 := Lib.hid (fun w1 => stCmp_any s n s' n' w1)
  have C2 : ∀ w1, _ := fun w1 => stCmp_any s' n' s n w1
  rw [stCmp_neg s n s' n'] at C2
  have C2 := Lib.hid C2
  have C3 := Lib.hid (fun w1 => refStCmp_any s n s' n' w1)
  obtain ⟨hX0, hX1⟩ := stCmp_bd s n s' n'
  generalize stCmp s n s' n' = X at *
  have hwn : IntKind.i64.wrap (-X) = -X := IntWalk.i64_in _ (by omega)
  clear hX0 hX1
  have hk0 : Keep w w.heap.size (w.heap.size + 1) s n s' n' ((w.alloc (.cells #[.int .i64 s, .int .i64 n] 23)).alloc (.cells #[.int .i64 s', .int .i64 n'] 23)) := by
    have h2 := Holds.new (w.alloc (.cells #[.int .i64 s, .int .i64 n] 23)) 23 [.int .i64 s', .int .i64 n']
    rw [World.size_alloc] at h2
    exact ⟨(Holds.new w _ [.int .i64 s, .int .i64 n]).behind _, h2, ((Below.refl _ _).alloc (Nat.le_refl _) _).alloc (by simp) _, ht, by simp; omega, by simp⟩
  have Hk := Lib.hid hk0
  clear ht hk0
  go_enter Tryd.func5, Tryd.ntmps5
  go_wp2_with fail
  have hk := Hk.out
  generalize ((w.alloc (.cells #[.int .i64 s, .int .i64 n] 23)).alloc (.cells #[.int .i64 s', .int .i64 n'] 23)) = w4 at *
  clear Hk
  go_region_held3 (fun w' => Keep w w.heap.size (w.heap.size + 1) s n s' n' w' ∧ w'.cell? ⟨w.heap.size, 0, none⟩ = some (.int .i64 s) ∧ w'.cell? ⟨w.heap.size, 1, none⟩ = some (.int .i64 n) ∧ w'.cell? ⟨w.heap.size + 1, 0, none⟩ = some (.int .i64 s') ∧ w'.cell? ⟨w.heap.size + 1, 1, none⟩ = some (.int .i64 n'))
    (first | assumption | exact Keep.all (Keep.drew hk) | exact Keep.all (Keep.step (Keep.drew hk) hbA) | exact Keep.all (Keep.step (And.left (by assumption)) hbA))
    (first
      | (go_at_call_of 14 (#[Value.agg #[Value.int .i64 s, Value.int .i64 n], Value.agg #[Value.int .i64 s', Value.int .i64 n']]); refine (C1.out _).mono ?_; rintro e wA ⟨hbA, rfl⟩)
      | (go_at_call_of 14 (#[Value.agg #[Value.int .i64 s', Value.int .i64 n'], Value.agg #[Value.int .i64 s, Value.int .i64 n]]); refine (C2.out _).mono ?_; rintro e wA ⟨hbA, rfl⟩)
      | (go_at_call 15; refine (C3.out _).mono ?_; rintro e wA ⟨rfl, rfl⟩)
      | (go_at_call 8; refine (awake4_any _ (Keep.tab (And.left (by assumption)))).mono ?_; rintro e wA ⟨hbA, rfl⟩))
  have hS : Keep w w.heap.size (w.heap.size + 1) s n s' n' wA := by first | assumption | exact And.left (by assumption)
  go_wp2
  go_ret
  exact ⟨hS.2.2.1, rfl⟩
end Go.Proofs.YtnmngmnckohbgaaDoor.stampOrder
