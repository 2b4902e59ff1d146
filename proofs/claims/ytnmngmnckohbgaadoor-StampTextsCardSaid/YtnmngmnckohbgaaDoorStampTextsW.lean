/- The walk of the law StampTexts. -/
import Derived.Test.YtnmngmnckohbgaaDoorStA
import Derived.Test.YtnmngmnckohbgaaDoorStS
import Derived.Deep.RegionHeld3
namespace Go.Proofs.YtnmngmnckohbgaaDoor.stampTexts
open Go.ChangeShapes Go.WideShapes Go.ChangeAt Go.RowKit

/-- What the statement's region keeps. -/
def Keep (W : World) (g : Nat) (s n : Int) (w : World) : Prop :=
  Holds w g 23 [.int .i64 s, .int .i64 n] ∧ Below W.heap.size W w ∧ TabOk W ∧ g < w.heap.size
theorem Keep.step {W : World} {g : Nat} {s n : Int} {w w' : World} (k : Keep W g s n w) (hb : Below w.heap.size w w') : Keep W g s n w' := by
  obtain ⟨k1, k3, k4, k5⟩ := k
  exact ⟨k1.under hb k5, k3.trans (hb.mono k3.size), k4, Nat.lt_of_lt_of_le k5 hb.size⟩
theorem Keep.drew {W : World} {g : Nat} {s n : Int} {w : World} (k : Keep W g s n w) : Keep W g s n w.drew := k.step ⟨rfl, rfl, rfl, Nat.le_refl _, fun _ _ => rfl⟩
theorem Keep.all {W : World} {g : Nat} {s n : Int} {w : World} (k : Keep W g s n w) :
    Keep W g s n w ∧ w.cell? ⟨g, 0, none⟩ = some (.int .i64 s) ∧ w.cell? ⟨g, 1, none⟩ = some (.int .i64 n) :=
  ⟨k, (two_cells k.1).1, (two_cells k.1).2.1⟩
theorem Keep.tab {W : World} {g : Nat} {s n : Int} {w : World} (k : Keep W g s n w) : TabOk w := k.2.2.1.below k.2.1 (Nat.le_refl _)

set_option maxRecDepth 100000 in
set_option maxHeartbeats 2000000 in
theorem walk (s n : Int) (w : World) (ht : TabOk w) :
    Calls Tryd.prog 4 #[.agg #[.int .i64 s, .int .i64 n]] w fun e w' => Below w.heap.size w w' ∧ e = .returned (.bool true) := by
  have R1 := Lib.hid (stRight_any s n)
  have R2 := Lib.hid (refStRight_any s n)
  have hk0 : Keep w w.heap.size s n (w.alloc (.cells #[.int .i64 s, .int .i64 n] 23)) :=
    ⟨Holds.new w _ [.int .i64 s, .int .i64 n], (Below.refl _ _).alloc (Nat.le_refl _) _, ht, by simp⟩
  have Hk := Lib.hid hk0
  clear ht hk0
  by_cases hr : stRight s n = true
  · have T1 := Lib.hid (fun w1 => stText_ok s n w1 hr)
    have X1 := Lib.hid (fun w1 => refText_any s n w1 hr)
    have P1 := Lib.hid (fun w1 => stParse_any (stText s n) w1 (by
      unfold stText maxLen
      have hb := stRight_true hr
      split
      · have := dec2_length (stOpp s n).1 (stOpp s n).2 (by unfold stOpp; split <;> simp only <;> omega)
        simp; omega
      · have := dec2_length s n (by omega); omega))
    rw [parse_text s n hr] at P1
    rw [hr] at R1 R2
    generalize stText s n = u at *
    clear hr
    go_enter Tryd.func4, Tryd.ntmps4
    go_wp2_with fail
    refine (T1.out _ Hk.out.tab).mono ?_
    rintro e w2 ⟨hb2, rfl⟩
    have hk := Hk.out.step hb2
    clear hb2 Hk
    go_wp2_with fail
    go_region_held3 (fun w' => Keep w w.heap.size s n w' ∧ w'.cell? ⟨w.heap.size, 0, none⟩ = some (.int .i64 s) ∧ w'.cell? ⟨w.heap.size, 1, none⟩ = some (.int .i64 n))
      (first | assumption | exact Keep.all (Keep.drew hk) | exact Keep.all (Keep.step (Keep.drew hk) hbA) | exact Keep.all (Keep.step (And.left (by assumption)) hbA))
      (first
        | (go_at_call 11; refine (R1.out _).mono ?_; rintro e wA ⟨hbA, rfl⟩)
        | (go_at_call 12; refine (R2.out _).mono ?_; rintro e wA ⟨rfl, rfl⟩))
    have hS : Keep w w.heap.size s n wA := by first | assumption | exact And.left (by assumption)
    have HS := Lib.hid hS
    obtain ⟨-, c0, c1⟩ := hS.all
    clear hS hk
    go_wp2_with fail
    refine (R2.out _).mono ?_
    rintro e w' ⟨rfl, rfl⟩
    go_wp2_with fail
    refine (P1.out _).mono ?_
    rintro e w3 ⟨hb3, rfl⟩
    have hz3 : w.heap.size < w3.heap.size := Nat.lt_of_lt_of_le HS.out.2.2.2 hb3.size
    have hk3 := HS.out.step hb3
    have hk4 := Lib.hid (hk3.step ((Below.refl _ _).alloc (Nat.le_refl _) (.cells #[.int .i64 s, .int .i64 n] 23)))
    clear c0 c1
    obtain ⟨-, c0, c1⟩ := hk3.all
    clear hb3 hk3
    go_wp2_with fail
    refine (X1.out _).mono ?_
    rintro e w5 ⟨hb5, rfl⟩
    obtain ⟨H0, -, hz5⟩ := box1 hb5
    have hk5 := hk4.out.step hb5
    have Hk5 := Lib.hid hk5
    obtain ⟨-, c0, c1⟩ := hk5.all
    obtain ⟨d0, d1, g0, g1⟩ := two_cells H0
    clear hb5 hk5 H0
    go_wp2_with fail
    refine (awake4_any _ Hk5.out.tab).mono ?_
    rintro e w6 ⟨hb6, rfl⟩
    have Hk6 := Lib.hid (Hk5.out.step hb6)
    clear hb6
    go_wp2
    go_ret
    exact ⟨Hk6.out.2.1, rfl⟩
  · have hr' : stRight s n = false := by simpa using hr
    have T1 := Lib.hid (fun w1 => stText_no s n w1 hr')
    rw [hr'] at R1 R2
    clear hr hr'
    go_enter Tryd.func4, Tryd.ntmps4
    go_wp2_with fail
    refine (T1.out _).mono ?_
    rintro e w2 ⟨hb2, rfl⟩
    have hk := Hk.out.step hb2
    clear hb2 Hk
    go_wp2_with fail
    go_region_held3 (fun w' => Keep w w.heap.size s n w' ∧ w'.cell? ⟨w.heap.size, 0, none⟩ = some (.int .i64 s) ∧ w'.cell? ⟨w.heap.size, 1, none⟩ = some (.int .i64 n))
      (first | assumption | exact Keep.all (Keep.drew hk) | exact Keep.all (Keep.step (Keep.drew hk) hbA) | exact Keep.all (Keep.step (And.left (by assumption)) hbA))
      (first
        | (go_at_call 11; refine (R1.out _).mono ?_; rintro e wA ⟨hbA, rfl⟩)
        | (go_at_call 12; refine (R2.out _).mono ?_; rintro e wA ⟨rfl, rfl⟩))
    have hS : Keep w w.heap.size s n wA := by first | assumption | exact And.left (by assumption)
    have HS := Lib.hid hS
    obtain ⟨-, c0, c1⟩ := hS.all
    clear hS hk
    go_wp2_with fail
    refine (R2.out _).mono ?_
    rintro e w' ⟨rfl, rfl⟩
    go_wp2_with fail
    refine (awake4_any _ HS.out.tab).mono ?_
    rintro e w6 ⟨hb6, rfl⟩
    have Hk6 := Lib.hid (HS.out.step hb6)
    clear hb6
    go_wp2
    go_ret
    exact ⟨Hk6.out.2.1, rfl⟩
end Go.Proofs.YtnmngmnckohbgaaDoor.stampTexts
