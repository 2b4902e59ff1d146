/-
  Contracts of header's rows of words and of numbers.
-/
import Derived.Test.YtamenhkbmbaopaaGreatDoorHd
import Derived.BigRegion
namespace Go.Proofs.YtamenhkbmbaopaaGreatDoor
open Go.ChangeShapes Go.WideShapes Go.ChangeAt Go.RowKit

theorem words_any (hb : Nat) (w : World) :
    Calls Tryz.prog 32 #[.pointer (some ⟨hb, 0, none⟩)] w fun e w' => Below w.heap.size w w' ∧ (Holds w' w.heap.size 87 (wordCells hb) ∧ e = .returned (.slice (some ⟨w.heap.size, 0, none⟩) 3 3)) := by
  go_enter Tryz.func32, Tryz.ntmps32
  go_wp2_with fail
  go_region
  all_goals
    go_wp2
    go_ret
    exact ⟨below_drewN ((Below.refl _ _).alloc (Nat.le_refl _) _) _, Holds.new w _ _, rfl⟩

theorem numbers_any (hb : Nat) (w : World) :
    Calls Tryz.prog 33 #[.pointer (some ⟨hb, 0, none⟩)] w fun e w' => Below w.heap.size w w' ∧ (Holds w' w.heap.size 92 (numCells hb) ∧ e = .returned (.slice (some ⟨w.heap.size, 0, none⟩) 7 7)) := by
  go_enter Tryz.func33, Tryz.ntmps33
  go_wp2_with fail
  go_region
  all_goals
    go_wp2
    go_ret
    exact ⟨below_drewN ((Below.refl _ _).alloc (Nat.le_refl _) _) _, Holds.new w _ _, rfl⟩
end Go.Proofs.YtamenhkbmbaopaaGreatDoor
