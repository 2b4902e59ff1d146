/-
  Contracts of the document's own writing of numbers: what it returns is what package octal does.
-/
import Derived.Test.YtlloaalaldomkaaDoorOctO
import Derived.Test.YtlloaalaldomkaaDoorOctPx
namespace Go.Proofs.YtlloaalaldomkaaDoor
open Go.ChangeShapes Go.WideShapes Go.ChangeAt Go.RowKit

theorem power_any (b : Int) (m : Nat) (w : World) (hb : 0 ≤ b ∧ b ≤ 256) (hm : m ≤ 100) :
    Calls Tryd.prog 61 #[.int .i64 b, .int .i64 m] w fun e w' => w = w' ∧ e = .returned (.int .i64 (refPow b m 1)) := by
  go_enter Tryd.func61, Tryd.ntmps61
  go_wp2
  go_loop [5, 6] (fun v i => ∃ k : Nat, k ≤ m ∧ i = .int .i64 k ∧ ∃ z : Int, 0 ≤ z ∧ z ≤ 4611686018427387904 ∧ v = .int .i64 z ∧ refPow b (m - k) z = refPow b m 1) (fun _ i => m - (intOf i).toNat)
  case atStart => exact ⟨0, Nat.zero_le _, rfl, 1, by decide, by decide, rfl, rfl⟩
  case round =>
    obtain ⟨k, hk, rfl, z, hz0, hz1, rfl, hs⟩ := hrel
    have Hs := Lib.hid hs
    clear hs
    by_cases hlt : k < m
    · have hsplit := Lib.hid (show m - k = (m - (k + 1)) + 1 by omega)
      by_cases hz : z < 18014398509481984
      · have hmul : 0 ≤ z * b ∧ z * b ≤ 18014398509481984 * 256 := ⟨Int.mul_nonneg hz0 hb.1, Int.mul_le_mul (by omega) hb.2 hb.1 (by omega)⟩
        have Hn := Lib.hid (show refPow b (m - (k + 1)) (z * b) = refPow b m 1 by rw [← Hs.out, hsplit.out, refPow_succ, if_pos hz])
        go_wp2
        go_round
        case rel => exact ⟨k + 1, by omega, by go_num, z * b, hmul.1, by omega, rfl, Hn.out⟩
        case measure => simp [intOf]; omega
      · have Hn := Lib.hid (show refPow b m 1 = z by rw [← Hs.out, hsplit.out, refPow_succ, if_neg hz])
        go_wp2
        go_ret
        rw [Hn.out]
        exact ⟨rfl, rfl⟩
    · have Hn := Lib.hid (show refPow b m 1 = z by rw [← Hs.out, show m - k = 0 by omega]; rfl)
      go_wp2
      go_ret
      rw [Hn.out]
      exact ⟨rfl, rfl⟩

theorem pow8_le (m : Nat) (h : m ≤ 11) : 1 ≤ refPow 8 m 1 ∧ refPow 8 m 1 ≤ 8589934592 := by
  have : m = 0 ∨ m = 1 ∨ m = 2 ∨ m = 3 ∨ m = 4 ∨ m = 5 ∨ m = 6 ∨ m = 7 ∨ m = 8 ∨ m = 9 ∨ m = 10 ∨ m = 11 := by omega
  rcases this with h | h | h | h | h | h | h | h | h | h | h | h <;> subst h <;> decide

/-- One digit out of the text of digits. -/
theorem digit_of (k : Nat) (h : k < 8) : (List.drop k [48, 49, 50, 51, 52, 53, 54, 55]).take 1 = [(UInt8.ofNat (48 + k))] := by
  have : k = 0 ∨ k = 1 ∨ k = 2 ∨ k = 3 ∨ k = 4 ∨ k = 5 ∨ k = 6 ∨ k = 7 := by omega
  rcases this with h | h | h | h | h | h | h | h <;> subst h <;> rfl

theorem refOctal_ok (v : Int) (n : Nat) (w : World) (h2 : 2 ≤ n) (h12 : n ≤ 12) (hv : 0 ≤ v) (hs : v < refPow 8 (n - 1) 1) :
    Calls Tryd.prog 51 #[.int .i64 v, .int .i64 n] w fun e w' => w = w' ∧ e = .returned (.tuple #[.string ⟨(octStr v n).toArray⟩, .bool true]) := by
  have hpl := pow8_le (n - 1) (by omega)
  have Hp := Lib.hid (power_any 8 (n - 1) w (by decide) (by omega))
  have Hq := Lib.hid (octStr_ref v n)
  go_enter Tryd.func51, Tryd.ntmps51
  go_wp2_with fail
  rw [show ((n : Int) - 1) = ((n - 1 : Nat) : Int) by omega]
  refine Hp.out.mono ?_
  rintro e w' ⟨rfl, rfl⟩
  generalize refPow 8 (n - 1) 1 = pw at *
  go_wp2
  go_loop [0, 6, 7] (fun x s i => ∃ k : Nat, 1 ≤ k ∧ k ≤ n ∧ i = .int .i64 k ∧ ∃ (z : Int) (t : List UInt8), 0 ≤ z ∧ z ≤ 8589934592 ∧ x = .int .i64 z ∧ s = .string ⟨t.toArray⟩ ∧ t.length = k ∧ refOct (n - k) z t = refOct (n - 1) v [0]) (fun _ _ i => n - (intOf i).toNat)
  case atStart => exact ⟨1, Nat.le_refl _, by omega, rfl, v, [0], hv, by omega, rfl, rfl, rfl, rfl⟩
  case round =>
    obtain ⟨k, hk1, hk, rfl, z, t, hz0, hz1, rfl, rfl, htl, hs2⟩ := hrel
    have Hs := Lib.hid hs2
    have Htl := Lib.hid htl
    have hlen : t.length ≤ 12 := by omega
    clear hs2 htl
    by_cases hlt : k < n
    · have Hn := Lib.hid (show refOct (n - (k + 1)) (z / 8) (UInt8.ofNat (48 + z % 8).toNat :: t) = refOct (n - 1) v [0] by
        rw [← Hs.out, show n - k = (n - (k + 1)) + 1 by omega, refOct_succ])
      have hm0 : 0 ≤ z % 8 := by omega
      have hm1 : z % 8 < 8 := by omega
      have hsl : ∀ W : World, (Instr.slice 9 (.string ⟨#[48, 49, 50, 51, 52, 53, 54, 55]⟩) (some (.int .i64 (z % 8))) (some (.int .i64 (z % 8 + 1))) none).run Tryd.prog W = .ok (.string ⟨[UInt8.ofNat (48 + z % 8).toNat].toArray⟩) W := by
        intro W
        rw [run_slice_string W _ _ _ _ _ _ Tryd.underlying9 hm0 (by omega) (by simp [ByteArray.size]; omega)]
        have he := str_extract [48, 49, 50, 51, 52, 53, 54, 55] (z % 8).toNat (z % 8 + 1).toNat
        rw [show (z % 8 + 1).toNat - (z % 8).toNat = 1 by omega, digit_of _ (by omega), show 48 + (z % 8).toNat = (48 + z % 8).toNat by omega] at he
        exact congrArg (fun s => Result.ok (Value.string s) W) he
      go_wp2
      go_round
      case rel => exact ⟨k + 1, by omega, by omega, by go_num, z / 8, _, by omega, by omega, rfl, rfl, by simp [Htl.out], Hn.out⟩
      case measure => simp [intOf]; omega
    · have Hn := Lib.hid (show octStr v n = t by rw [Hq.out, ← Hs.out, show n - k = 0 by omega]; rfl)
      go_wp2
      go_ret2
      rw [Hn.out]
      exact ⟨rfl, rfl⟩

theorem refOctal_no (v n : Int) (w : World) (hn : -9223372036854775808 ≤ n ∧ n ≤ 9223372036854775807) (h : octalOf v n = none) :
    Calls Tryd.prog 51 #[.int .i64 v, .int .i64 n] w fun e w' => w = w' ∧ e = .returned (.tuple #[.string ⟨([] : List UInt8).toArray⟩, .bool false]) := by
  by_cases hz : 2 ≤ n ∧ n ≤ 12
  · obtain ⟨m, rfl⟩ : ∃ m : Nat, n = m := ⟨n.toNat, by omega⟩
    have hz' := hz
    obtain ⟨z1, z2⟩ := hz'
    by_cases hv : 0 ≤ v
    · have hpl := pow8_le (m - 1) (by omega)
      have hbig : refPow 8 (m - 1) 1 ≤ v := by
        rcases Int.lt_or_le v (refPow 8 (m - 1) 1) with hlt | hle
        · exfalso
          have hc : v / 2 ^ (3 * ((m : Int).toNat - 1)) = 0 := by
            rw [Int.toNat_natCast, Int.pow_mul]
            rw [refPow8 (m - 1) (by omega)] at hlt
            exact Int.ediv_eq_zero_of_lt hv hlt
          unfold octalOf at h
          rw [if_pos ⟨by simp [isSize]; omega, hv, hc⟩] at h
          cases h
        · exact hle
      have Hp := Lib.hid (power_any 8 (m - 1) w (by decide) (by omega))
      clear h
      go_enter Tryd.func51, Tryd.ntmps51
      go_wp2_with fail
      rw [show ((m : Int) - 1) = ((m - 1 : Nat) : Int) by omega]
      refine Hp.out.mono ?_
      rintro e w' ⟨rfl, rfl⟩
      generalize refPow 8 (m - 1) 1 = pw at *
      go_wp2
      go_ret2
      exact ⟨rfl, rfl⟩
    · clear h
      go_enter Tryd.func51, Tryd.ntmps51
      go_wp2
      go_ret2
      exact ⟨rfl, rfl⟩
  · clear h
    by_cases h2 : n < 2
    · go_enter Tryd.func51, Tryd.ntmps51
      go_wp2
      go_ret2
      exact ⟨rfl, rfl⟩
    · have h12 : 12 < n := by omega
      go_enter Tryd.func51, Tryd.ntmps51
      go_wp2
      go_ret2
      exact ⟨rfl, rfl⟩

/-- The document's octal is octal.Octal's, whatever is handed in. -/
theorem refOctal_all (v n : Int) (w : World) (hn : -9223372036854775808 ≤ n ∧ n ≤ 9223372036854775807) :
    Calls Tryd.prog 51 #[.int .i64 v, .int .i64 n] w fun e w' => w = w' ∧ e = .returned (.tuple #[.string ⟨((octalOf v n).getD []).toArray⟩, .bool (octalOf v n).isSome]) := by
  by_cases h : isSize n = true ∧ 0 ≤ v ∧ v / 2 ^ (3 * (n.toNat - 1)) = 0
  · have hz := h.1
    obtain ⟨m, rfl⟩ : ∃ m : Nat, n = m := ⟨n.toNat, by simp [isSize] at hz; omega⟩
    have h2 : 2 ≤ m ∧ m ≤ 12 := by simp [isSize] at hz; omega
    have hq : octalOf v m = some (octStr v m) := by unfold octalOf; rw [if_pos h]; rfl
    rw [hq]
    refine refOctal_ok v m w h2.1 h2.2 h.2.1 ?_
    have hs := h.2.2
    rw [Int.toNat_natCast, Int.pow_mul] at hs
    rw [refPow8 (m - 1) (by omega)]
    have := Int.lt_ediv_add_one_mul_self v (show (0 : Int) < (2 ^ 3) ^ (m - 1) from Int.pow_pos (by decide))
    rw [hs] at this
    simpa using this
  · have hq : octalOf v n = none := by unfold octalOf; rw [if_neg h]
    rw [hq]
    exact refOctal_no v n w hn hq
end Go.Proofs.YtlloaalaldomkaaDoor
