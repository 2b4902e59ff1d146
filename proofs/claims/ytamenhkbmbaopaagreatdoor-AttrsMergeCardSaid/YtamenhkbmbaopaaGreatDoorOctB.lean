/-
  Contracts of the functions of package octal that only read, and of the document's own answer for them.
-/
import Derived.Test.YtamenhkbmbaopaaGreatDoorRows
import Derived.Test.YtamenhkbmbaopaaGreatDoorOctP
namespace Go.Proofs.YtamenhkbmbaopaaGreatDoor
open Go.ChangeShapes Go.WideShapes Go.ChangeAt Go.RowKit

theorem isSize_any (n : Int) (w : World) :
    Calls Tryz.prog 64 #[.int .i64 n] w fun e w' => e = .returned (.bool (isSize n)) ∧ w = w' := by
  unfold isSize
  go_enter Tryz.func64, Tryz.ntmps64
  by_cases h1 : 2 ≤ n <;> by_cases h2 : n ≤ 12
  all_goals go_wp2
  all_goals go_ret
  all_goals simp [*]

theorem inRange_any (n : Int) (w : World) :
    Calls Tryz.prog 128 #[.int .i64 n] w fun e w' => e = .returned (.bool (inRange n)) ∧ w = w' := by
  unfold inRange
  go_enter Tryz.func128, Tryz.ntmps128
  by_cases h1 : -9007199254740991 ≤ n <;> by_cases h2 : n ≤ 9007199254740991
  all_goals go_wp2
  all_goals go_ret
  all_goals simp [*]

theorem readBinary_any (x : Int) (l : List UInt8) (w : World) (hx : inRange x = true) (hl : l.length ≤ 12) :
    Calls Tryz.prog 100 #[.int .i64 x, .string ⟨l.toArray⟩] w fun e w' => e = .returned (.tuple #[.int .i64 (readBinary x l).1, .int .i64 (readBinary x l).2]) ∧ w = w' := by
  go_enter Tryz.func100, Tryz.ntmps100
  go_wp2
  go_loop [0, 6, 9] (fun y _ i => ∃ k : Nat, k ≤ l.length ∧ i = .int .i64 k ∧ ∃ z : Int, y = .int .i64 z ∧ inRange z = true ∧ readBinary z (l.drop k) = readBinary x l) (fun _ _ i => l.length - (intOf i).toNat)
  case atStart => exact ⟨0, Nat.zero_le _, rfl, x, rfl, hx, rfl⟩
  case round =>
    obtain ⟨k, hk, rfl, z, rfl, hz, hs⟩ := hrel
    have Hs := Lib.hid hs
    clear hs
    have Hz := Lib.hid hz
    clear hz
    by_cases hlt : k < l.length
    · have hd := Lib.hid (drop_at hlt)
      go_wp2_with fail
      rw [shl8_or z l[k] Hz.out]
      by_cases hr : inRange (z * 256 + l[k].toNat) = true
      · refine (inRange_any _ _).mono ?_
        rw [hr]
        rintro e w' ⟨rfl, rfl⟩
        have Hr := Lib.hid hr
        clear hr
        go_wp2
        go_round
        case rel => 
          refine ⟨k + 1, by omega, by go_num, _, rfl, Hr.out, ?_⟩
          rw [← Hs.out, hd.out, readBinary_cons, if_pos Hr.out]
        case measure => simp [intOf]; omega
      · have hr' : inRange (z * 256 + l[k].toNat) = false := by simpa using hr
        refine (inRange_any _ _).mono ?_
        rw [hr']
        rintro e w' ⟨rfl, rfl⟩
        go_wp2
        go_ret2
        have : readBinary x l = (0, 6) := by rw [← Hs.out, hd.out, readBinary_cons, if_neg hr]
        rw [this]
        exact ⟨rfl, rfl⟩
    · go_wp2
      go_ret2
      have : readBinary x l = (z, 0) := by rw [← Hs.out, List.drop_of_length_le (by omega)]; rfl
      rw [this]
      exact ⟨rfl, rfl⟩

theorem readOctal_any (l : List UInt8) (w : World) (hl : l.length ≤ 12) :
    Calls Tryz.prog 101 #[.string ⟨l.toArray⟩] w fun e w' => e = .returned (.tuple #[.int .i64 (readOctal 0 0 l).1, .int .i64 (readOctal 0 0 l).2]) ∧ w = w' := by
  go_enter Tryz.func101, Tryz.ntmps101
  go_wp2
  go_step3
  go_wp2
  go_step3
  go_wp2
  go_loop [4, 5, 6, 7] (fun p y i _ => ∃ k : Nat, k ≤ l.length ∧ i = .int .i64 k ∧ ∃ q z : Int, p = .int .i64 q ∧ (q = 0 ∨ q = 1 ∨ q = 2) ∧ y = .int .i64 z ∧ 0 ≤ z ∧ z < 8 ^ k ∧ readOctal q z (l.drop k) = readOctal 0 0 l) (fun _ _ i _ => l.length - (intOf i).toNat)
  case atStart => exact ⟨0, Nat.zero_le _, rfl, 0, 0, rfl, .inl rfl, rfl, by decide, by decide, rfl⟩
  case round =>
    obtain ⟨k, hk, rfl, q, z, rfl, hq, rfl, hz0, hz1, hs⟩ := hrel
    have Hs := Lib.hid hs
    clear hs
    have Hp := Lib.hid (pow8_succ k (by omega))
    by_cases hlt : k < l.length
    · have hd := Lib.hid (drop_at hlt)
      go_wp2
      all_goals (try simp only [beq_iff_eq, beq_eq_false_iff_ne, bne_iff_ne, bne_eq_false_iff_eq, ne_eq] at *)
      all_goals (have hp := Hp.out; have hb := byte_lt l[k]; have hor := i64_or3 z ((l[k].toNat : Int) - 48))
      all_goals first
        | (go_ret2
           have : readOctal 0 0 l = (0, 2) := by
             rw [← Hs.out, hd.out, readOctal_cons]
             repeat (first | rw [if_pos (by omega)] | rw [if_neg (by omega)])
           rw [this]
           exact ⟨rfl, rfl⟩)
        | (refine ⟨⟨k + 1, by omega, by go_num, _, _, rfl, ?_, rfl, ?_, ?_, ?_⟩, ?_⟩
           all_goals first
             | omega
             | (rw [hor (by omega) (by omega) (by omega) (by omega)]; omega)
             | (simp [intOf]; omega)
             | (rw [← Hs.out, hd.out, readOctal_cons]
                (try rw [hor (by omega) (by omega) (by omega) (by omega)])
                repeat (first | rw [if_pos (by omega)] | rw [if_neg (by omega)])))
    · go_wp2
      go_ret2
      have : readOctal 0 0 l = (z, 0) := by rw [← Hs.out, List.drop_of_length_le (by omega)]; rfl
      rw [this]
      exact ⟨rfl, rfl⟩

end Go.Proofs.YtamenhkbmbaopaaGreatDoor
