/-
  Contracts of package attrs: where a field lies in a member and in its head; bounds.
-/
import Derived.Test.YtamenhkbmbaopaaGreatDoorRows
import Derived.Test.YtamenhkbmbaopaaGreatDoorMem
import Derived.Test.YtamenhkbmbaopaaGreatDoorDrew
import Derived.Deep.QuietTactic
import Derived.BigQuiet
namespace Go.Proofs.YtamenhkbmbaopaaGreatDoor
open Go.ChangeShapes Go.WideShapes Go.ChangeAt Go.RowKit

theorem known1_any (b : Nat) (w : World) :
    Calls Tryz.prog 47 #[.pointer (some ⟨b, 0, none⟩)] w fun e w' => (∃ m, w' = w.drewN m) ∧ e = .returned (.tuple #[.pointer (some ⟨b, 5, none⟩), .pointer (some ⟨b, 20, none⟩)]) := by
  go_enter Tryz.func47, Tryz.ntmps47
  go_wp2_with (fail)
  go_quiet (fail)
  go_wp2
  go_ret2
  exact ⟨⟨nq, rfl⟩, rfl⟩

theorem known2_any (b : Nat) (w : World) :
    Calls Tryz.prog 49 #[.pointer (some ⟨b, 0, none⟩)] w fun e w' => (∃ m, w' = w.drewN m) ∧ e = .returned (.tuple #[.pointer (some ⟨b, 7, none⟩), .pointer (some ⟨b, 24, none⟩)]) := by
  go_enter Tryz.func49, Tryz.ntmps49
  go_wp2_with (fail)
  go_quiet (fail)
  go_wp2
  go_ret2
  exact ⟨⟨nq, rfl⟩, rfl⟩

theorem known3_any (b : Nat) (w : World) :
    Calls Tryz.prog 50 #[.pointer (some ⟨b, 0, none⟩)] w fun e w' => (∃ m, w' = w.drewN m) ∧ e = .returned (.tuple #[.pointer (some ⟨b, 1, none⟩), .pointer (some ⟨b, 16, none⟩)]) := by
  go_enter Tryz.func50, Tryz.ntmps50
  go_wp2_with (fail)
  go_quiet (fail)
  go_wp2
  go_ret2
  exact ⟨⟨nq, rfl⟩, rfl⟩

theorem known4_any (b : Nat) (w : World) :
    Calls Tryz.prog 52 #[.pointer (some ⟨b, 0, none⟩)] w fun e w' => (∃ m, w' = w.drewN m) ∧ e = .returned (.tuple #[.pointer (some ⟨b, 0, none⟩), .pointer (some ⟨b, 15, none⟩)]) := by
  go_enter Tryz.func52, Tryz.ntmps52
  go_wp2_with (fail)
  go_quiet (fail)
  go_wp2
  go_ret2
  exact ⟨⟨nq, rfl⟩, rfl⟩

theorem known5_any (b : Nat) (w : World) :
    Calls Tryz.prog 53 #[.pointer (some ⟨b, 0, none⟩)] w fun e w' => (∃ m, w' = w.drewN m) ∧ e = .returned (.tuple #[.pointer (some ⟨b, 14, none⟩), .pointer (some ⟨b, 21, none⟩)]) := by
  go_enter Tryz.func53, Tryz.ntmps53
  go_wp2_with (fail)
  go_quiet (fail)
  go_wp2
  go_ret2
  exact ⟨⟨nq, rfl⟩, rfl⟩

theorem known6_any (b : Nat) (w : World) :
    Calls Tryz.prog 54 #[.pointer (some ⟨b, 0, none⟩)] w fun e w' => (∃ m, w' = w.drewN m) ∧ e = .returned (.tuple #[.pointer (some ⟨b, 4, none⟩), .pointer (some ⟨b, 19, none⟩)]) := by
  go_enter Tryz.func54, Tryz.ntmps54
  go_wp2_with (fail)
  go_quiet (fail)
  go_wp2
  go_ret2
  exact ⟨⟨nq, rfl⟩, rfl⟩

theorem known7_any (b : Nat) (w : World) :
    Calls Tryz.prog 55 #[.pointer (some ⟨b, 0, none⟩)] w fun e w' => (∃ m, w' = w.drewN m) ∧ e = .returned (.tuple #[.pointer (some ⟨b, 6, none⟩), .pointer (some ⟨b, 23, none⟩)]) := by
  go_enter Tryz.func55, Tryz.ntmps55
  go_wp2_with (fail)
  go_quiet (fail)
  go_wp2
  go_ret2
  exact ⟨⟨nq, rfl⟩, rfl⟩

theorem atIsIn_any (v m : Int) (w : World) :
    Calls Tryz.prog 59 #[.int .i64 v, .int .i64 m] w fun e w' => w = w' ∧ e = .returned (.bool (decide (0 ≤ v ∧ v ≤ m))) := by
  by_cases h0 : 0 ≤ v
  · by_cases h1 : v ≤ m
    · rw [decide_eq_true ⟨h0, h1⟩]
      go_enter Tryz.func59, Tryz.ntmps59
      go_wp2
      go_ret
      exact ⟨rfl, rfl⟩
    · rw [decide_eq_false (fun h => h1 h.2)]
      go_enter Tryz.func59, Tryz.ntmps59
      go_wp2
      go_ret
      exact ⟨rfl, rfl⟩
  · rw [decide_eq_false (fun h => h0 h.1)]
    go_enter Tryz.func59, Tryz.ntmps59
    go_wp2
    go_ret
    exact ⟨rfl, rfl⟩
end Go.Proofs.YtamenhkbmbaopaaGreatDoor
