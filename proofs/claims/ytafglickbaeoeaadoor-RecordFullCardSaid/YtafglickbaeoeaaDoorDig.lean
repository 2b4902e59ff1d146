/-
  Contract of the document's own Digits.
-/
import Derived.Test.YtafglickbaeoeaaDoorRows
import Derived.Test.YtafglickbaeoeaaDoorStW
import Derived.Test.YtafglickbaeoeaaDoorDrew
import Derived.Deep.CutBlock
import Derived.Deep.DeepCutAuto
namespace Go.Proofs.YtafglickbaeoeaaDoor
open Go.ChangeShapes Go.WideShapes Go.ChangeAt Go.RowKit

theorem digit_of10 (k : Nat) (h : k < 10) : (List.drop k [48, 49, 50, 51, 52, 53, 54, 55, 56, 57]).take 1 = [(UInt8.ofNat (48 + k))] := by
  have : k = 0 ∨ k = 1 ∨ k = 2 ∨ k = 3 ∨ k = 4 ∨ k = 5 ∨ k = 6 ∨ k = 7 ∨ k = 8 ∨ k = 9 := by omega
  rcases this with h | h | h | h | h | h | h | h | h | h <;> subst h <;> rfl

theorem digits_q (u : Nat) : ∀ w : World, u ≤ 9007199254740991 →
    Calls Tryd.prog 18 #[.int .i64 u] w fun e w' => e = .returned (.string ⟨(Lib.decDigits u).toArray⟩) ∧ ∃ m, w' = w.drewN m := by
  induction u using Nat.strongRecOn with
  | _ u ih =>
    intro w hu
    have hsl : ∀ (x : Nat), x < 10 → ∀ W : World, (Instr.slice 9 (.string ⟨#[48, 49, 50, 51, 52, 53, 54, 55, 56, 57]⟩) (some (.int .i64 (x : Int))) (some (.int .i64 ((x : Int) + 1))) none).run Tryd.prog W = .ok (.string ⟨[UInt8.ofNat (48 + x)].toArray⟩) W := by
      intro x h1 W
      rw [run_slice_string W _ _ _ _ _ _ Tryd.underlying9 (by omega) (by omega) (by simp [ByteArray.size]; omega)]
      have he := str_extract [48, 49, 50, 51, 52, 53, 54, 55, 56, 57] (x : Int).toNat ((x : Int) + 1).toNat
      rw [show ((x : Int) + 1).toNat - (x : Int).toNat = 1 by omega, Int.toNat_natCast, digit_of10 _ h1] at he
      exact congrArg (fun s => Result.ok (Value.string s) W) he
    by_cases h : u < 10
    · have Hq := Lib.hid (show Lib.decDigits u = [UInt8.ofNat (48 + u)] by rw [Lib.decDigits, dif_pos h])
      have hs1 := hsl u h
      have hu2 : (u : Int) < 10 := by omega
      clear hsl ih
      go_enter Tryd.func18, Tryd.ntmps18
      go_wp2
      go_ret
      rw [Hq.out]
      exact ⟨by simp, 0, rfl⟩
    · have Hq := Lib.hid (show Lib.decDigits u = Lib.decDigits (u / 10) ++ [UInt8.ofNat (48 + u % 10)] by rw [Lib.decDigits, dif_neg h])
      have hs1 := hsl (u % 10) (by omega)
      have Hih := Lib.hid (fun w1 => ih (u / 10) (by omega) w1 (by omega))
      have hlen := decDigits_length16 (u / 10) (by omega)
      have t1 : (u : Int).tdiv 10 = ((u / 10 : Nat) : Int) := by rw [Int.tdiv_eq_ediv_of_nonneg (by omega)]; omega
      have t2 : (u : Int).tmod 10 = ((u % 10 : Nat) : Int) := by rw [Int.tmod_eq_emod_of_nonneg (by omega)]; omega
      have t3 : IntKind.i64.wrap (((u % 10 : Nat) : Int) + 1) = ((u % 10 : Nat) : Int) + 1 := IntWalk.i64_in _ (by omega)
      have t4 : IntKind.i64.wrap ((u / 10 : Nat) : Int) = ((u / 10 : Nat) : Int) := IntWalk.i64_in _ (by omega)
      have hu2 : ¬ (u : Int) < 10 := by omega
      clear hsl ih
      generalize Lib.decDigits (u / 10) = p at *
      generalize hd : u / 10 = d at *
      generalize hr : u % 10 = r at *
      clear hd hr
      go_enter Tryd.func18, Tryd.ntmps18
      go_wp2_with fail
      go_quiet ((go_at_call 18; exact Calls.quiet_of (Hih.out _)))
      go_wp2
      go_ret
      rw [Hq.out]
      exact ⟨by simp, _, rfl⟩
theorem digits_any (v : Int) (w : World) (h0 : 0 ≤ v) (h1 : v ≤ 9007199254740991) :
    Calls Tryd.prog 18 #[.int .i64 v] w fun e w' => Below w.heap.size w w' ∧ e = .returned (.string ⟨(Lib.decDigits v.toNat).toArray⟩) := by
  obtain ⟨u, rfl⟩ := Int.eq_ofNat_of_zero_le h0
  exact (digits_q u w (by omega)).mono fun e w' ⟨he, m, hw⟩ => ⟨by rw [hw]; exact below_drewN (Below.refl _ _) m, he⟩
end Go.Proofs.YtafglickbaeoeaaDoor
