/-
  Contracts of the document's own writing of numbers in binary, and of its Write.
-/
import Derived.Test.YteiogkcdjipjhaaOctRefW
namespace Go.Proofs.Yteiogkcdjipjhaa
open Go.ChangeShapes Go.WideShapes Go.ChangeAt Go.RowKit

theorem refBinary_neg (v : Int) (n : Nat) (w : World) (h2 : 2 ≤ n) (h12 : n ≤ 12) (hr : -9007199254740991 ≤ v ∧ v ≤ 9007199254740991) (h8 : n < 8)
    (hlo : v < refPow 256 (n - 1) 1) (hhi : -refPow 256 (n - 1) 1 ≤ v) (hneg : v < 0) :
    Calls Try.prog 15 #[.int .i64 v, .int .i64 n] w fun e w' => Below w.heap.size w w' ∧ e = .returned (.tuple #[.string ⟨(binStr v n).toArray⟩, .bool true]) := by
  have hpl := refPow256_le (n - 1) 1 (by decide) (by decide)
  have Hp := Lib.hid (power_any 256 (n - 1) w (by decide) (by omega))
  have Hq := Lib.hid (binStr_ref v n (by omega) (by omega))
  go_enter Try.func15, Try.ntmps15
  go_wp2_with fail
  rw [show ((n : Int) - 1) = ((n - 1 : Nat) : Int) by omega]
  refine Hp.out.mono ?_
  rintro e w' ⟨rfl, rfl⟩
  go_wp2_with fail
  rw [show ((n : Int) - 1) = ((n - 1 : Nat) : Int) by omega]
  refine Hp.out.mono ?_
  rintro e w' ⟨rfl, rfl⟩
  generalize refPow 256 (n - 1) 1 = pw at *
  go_wp2
  go_loopw [7, 8, 9, 10] (fun x s i _ wr => ∃ k : Nat, 1 ≤ k ∧ k ≤ n ∧ i = .int .i64 k ∧ ∃ (z : Int) (t : List UInt8), 0 ≤ z ∧ z ≤ 9007199254740991 ∧ x = .int .i64 z ∧ s = .string ⟨t.toArray⟩ ∧ t.length + 1 = k ∧ refBin true (n - k) z t = refBin true (n - 1) (-v - 1) [] ∧ Below w.heap.size w wr) (fun _ _ i _ _ => n - (intOf i).toNat)
  case atStart => exact ⟨1, Nat.le_refl _, by omega, rfl, -v - 1, [], by omega, by omega, rfl, rfl, rfl, rfl, Below.refl _ _⟩
  case round =>
    obtain ⟨k, hk1, hk, rfl, z, t, hz0, hz1, rfl, rfl, htl, hs2, hb⟩ := hrel
    have Hs := Lib.hid hs2
    have Htl := Lib.hid htl
    have Hb := Lib.hid hb
    have hlen : t.length ≤ 12 := by omega
    clear hs2 htl hb
    by_cases hlt : k < n
    · have hcv := run_byte_string (P := Try.prog) 37 5 9 Try.underlying37 Try.underlying5 Try.underlying9 (255 - z % 256) (by omega) (by omega)
      have Hn := Lib.hid (show refBin true (n - (k + 1)) (z / 256) (UInt8.ofNat (255 - z % 256).toNat :: t) = refBin true (n - 1) (-v - 1) [] by
        rw [← Hs.out, show n - k = (n - (k + 1)) + 1 by omega, refBin_succ]; rfl)
      go_wp2
      go_roundw
      case rel => exact ⟨k + 1, by omega, by omega, by go_num, z / 256, _, by omega, by omega, rfl, rfl, by simp [Htl.out], Hn.out, Hb.out.alloc Hb.out.size _⟩
      case measure => simp [intOf]; omega
    · have Hn := Lib.hid (show binStr v n = binFirst v :: t by
        rw [Hq.out, show decide (v < 0) = true by simpa using hneg, if_pos hneg, ← Hs.out, show n - k = 0 by omega]; rfl)
      have Hf := Lib.hid (show binFirst v = 255 from if_pos hneg)
      go_wp2
      go_ret2
      rw [Hn.out, Hf.out]
      exact ⟨Hb.out, rfl⟩

theorem refBinary_neg_big (v : Int) (n : Nat) (w : World) (h2 : 2 ≤ n) (h12 : n ≤ 12) (hr : -9007199254740991 ≤ v ∧ v ≤ 9007199254740991) (h8 : 8 ≤ n)
    (hneg : v < 0) :
    Calls Try.prog 15 #[.int .i64 v, .int .i64 n] w fun e w' => Below w.heap.size w w' ∧ e = .returned (.tuple #[.string ⟨(binStr v n).toArray⟩, .bool true]) := by
  have hpl := refPow256_le (n - 1) 1 (by decide) (by decide)
  have Hp := Lib.hid (power_any 256 (n - 1) w (by decide) (by omega))
  have Hq := Lib.hid (binStr_ref v n (by omega) (by omega))
  rcases Int.lt_or_le v (refPow 256 (n - 1) 1) with hlo | hlo <;> rcases Int.lt_or_le v (-refPow 256 (n - 1) 1) with hhi | hhi
  all_goals first | (exfalso; omega) | skip
  all_goals
      go_enter Try.func15, Try.ntmps15
      go_wp2_with fail
      rw [show ((n : Int) - 1) = ((n - 1 : Nat) : Int) by omega]
      refine Hp.out.mono ?_
      rintro e w' ⟨rfl, rfl⟩
      go_wp2_with fail
      rw [show ((n : Int) - 1) = ((n - 1 : Nat) : Int) by omega]
      refine Hp.out.mono ?_
      rintro e w' ⟨rfl, rfl⟩
      generalize refPow 256 (n - 1) 1 = pw at *
      go_wp2
      go_loopw [7, 8, 9, 10] (fun x s i _ wr => ∃ k : Nat, 1 ≤ k ∧ k ≤ n ∧ i = .int .i64 k ∧ ∃ (z : Int) (t : List UInt8), 0 ≤ z ∧ z ≤ 9007199254740991 ∧ x = .int .i64 z ∧ s = .string ⟨t.toArray⟩ ∧ t.length + 1 = k ∧ refBin true (n - k) z t = refBin true (n - 1) (-v - 1) [] ∧ Below w.heap.size w wr) (fun _ _ i _ _ => n - (intOf i).toNat)
      case atStart => exact ⟨1, Nat.le_refl _, by omega, rfl, -v - 1, [], by omega, by omega, rfl, rfl, rfl, rfl, Below.refl _ _⟩
      case round =>
        obtain ⟨k, hk1, hk, rfl, z, t, hz0, hz1, rfl, rfl, htl, hs2, hb⟩ := hrel
        have Hs := Lib.hid hs2
        have Htl := Lib.hid htl
        have Hb := Lib.hid hb
        have hlen : t.length ≤ 12 := by omega
        clear hs2 htl hb
        by_cases hlt : k < n
        · have hcv := run_byte_string (P := Try.prog) 37 5 9 Try.underlying37 Try.underlying5 Try.underlying9 (255 - z % 256) (by omega) (by omega)
          have Hn := Lib.hid (show refBin true (n - (k + 1)) (z / 256) (UInt8.ofNat (255 - z % 256).toNat :: t) = refBin true (n - 1) (-v - 1) [] by
            rw [← Hs.out, show n - k = (n - (k + 1)) + 1 by omega, refBin_succ]; rfl)
          go_wp2
          go_roundw
          case rel => exact ⟨k + 1, by omega, by omega, by go_num, z / 256, _, by omega, by omega, rfl, rfl, by simp [Htl.out], Hn.out, Hb.out.alloc Hb.out.size _⟩
          case measure => simp [intOf]; omega
        · have Hn := Lib.hid (show binStr v n = binFirst v :: t by
            rw [Hq.out, show decide (v < 0) = true by simpa using hneg, if_pos hneg, ← Hs.out, show n - k = 0 by omega]; rfl)
          have Hf := Lib.hid (show binFirst v = 255 from if_pos hneg)
          go_wp2
          go_ret2
          rw [Hn.out, Hf.out]
          exact ⟨Hb.out, rfl⟩

theorem refBinary_pos (v : Int) (n : Nat) (w : World) (h2 : 2 ≤ n) (h12 : n ≤ 12) (hr : -9007199254740991 ≤ v ∧ v ≤ 9007199254740991) (h8 : n < 8)
    (hlo : v < refPow 256 (n - 1) 1) (hhi : -refPow 256 (n - 1) 1 ≤ v) (hneg : ¬ v < 0) :
    Calls Try.prog 15 #[.int .i64 v, .int .i64 n] w fun e w' => Below w.heap.size w w' ∧ e = .returned (.tuple #[.string ⟨(binStr v n).toArray⟩, .bool true]) := by
  have hpl := refPow256_le (n - 1) 1 (by decide) (by decide)
  have Hp := Lib.hid (power_any 256 (n - 1) w (by decide) (by omega))
  have Hq := Lib.hid (binStr_ref v n (by omega) (by omega))
  go_enter Try.func15, Try.ntmps15
  go_wp2_with fail
  rw [show ((n : Int) - 1) = ((n - 1 : Nat) : Int) by omega]
  refine Hp.out.mono ?_
  rintro e w' ⟨rfl, rfl⟩
  go_wp2_with fail
  rw [show ((n : Int) - 1) = ((n - 1 : Nat) : Int) by omega]
  refine Hp.out.mono ?_
  rintro e w' ⟨rfl, rfl⟩
  generalize refPow 256 (n - 1) 1 = pw at *
  go_wp2
  go_loopw [7, 8, 9, 10] (fun x s i _ wr => ∃ k : Nat, 1 ≤ k ∧ k ≤ n ∧ i = .int .i64 k ∧ ∃ (z : Int) (t : List UInt8), 0 ≤ z ∧ z ≤ 9007199254740991 ∧ x = .int .i64 z ∧ s = .string ⟨t.toArray⟩ ∧ t.length + 1 = k ∧ refBin false (n - k) z t = refBin false (n - 1) (v) [] ∧ Below w.heap.size w wr) (fun _ _ i _ _ => n - (intOf i).toNat)
  case atStart => exact ⟨1, Nat.le_refl _, by omega, rfl, v, [], by omega, by omega, rfl, rfl, rfl, rfl, Below.refl _ _⟩
  case round =>
    obtain ⟨k, hk1, hk, rfl, z, t, hz0, hz1, rfl, rfl, htl, hs2, hb⟩ := hrel
    have Hs := Lib.hid hs2
    have Htl := Lib.hid htl
    have Hb := Lib.hid hb
    have hlen : t.length ≤ 12 := by omega
    clear hs2 htl hb
    by_cases hlt : k < n
    · have hcv := run_byte_string (P := Try.prog) 37 5 9 Try.underlying37 Try.underlying5 Try.underlying9 (z % 256) (by omega) (by omega)
      have Hn := Lib.hid (show refBin false (n - (k + 1)) (z / 256) (UInt8.ofNat (z % 256).toNat :: t) = refBin false (n - 1) (v) [] by
        rw [← Hs.out, show n - k = (n - (k + 1)) + 1 by omega, refBin_succ]; rfl)
      go_wp2
      go_roundw
      case rel => exact ⟨k + 1, by omega, by omega, by go_num, z / 256, _, by omega, by omega, rfl, rfl, by simp [Htl.out], Hn.out, Hb.out.alloc Hb.out.size _⟩
      case measure => simp [intOf]; omega
    · have Hn := Lib.hid (show binStr v n = binFirst v :: t by
        rw [Hq.out, show decide (v < 0) = false from decide_eq_false (by omega), if_neg (show ¬ v < 0 by omega), ← Hs.out, show n - k = 0 by omega]; rfl)
      have Hf := Lib.hid (show binFirst v = 128 from if_neg (show ¬ v < 0 by omega))
      go_wp2
      go_ret2
      rw [Hn.out, Hf.out]
      exact ⟨Hb.out, rfl⟩

theorem refBinary_pos_big (v : Int) (n : Nat) (w : World) (h2 : 2 ≤ n) (h12 : n ≤ 12) (hr : -9007199254740991 ≤ v ∧ v ≤ 9007199254740991) (h8 : 8 ≤ n)
    (hneg : ¬ v < 0) :
    Calls Try.prog 15 #[.int .i64 v, .int .i64 n] w fun e w' => Below w.heap.size w w' ∧ e = .returned (.tuple #[.string ⟨(binStr v n).toArray⟩, .bool true]) := by
  have hpl := refPow256_le (n - 1) 1 (by decide) (by decide)
  have Hp := Lib.hid (power_any 256 (n - 1) w (by decide) (by omega))
  have Hq := Lib.hid (binStr_ref v n (by omega) (by omega))
  rcases Int.lt_or_le v (refPow 256 (n - 1) 1) with hlo | hlo <;> rcases Int.lt_or_le v (-refPow 256 (n - 1) 1) with hhi | hhi
  all_goals first | (exfalso; omega) | skip
  all_goals
      go_enter Try.func15, Try.ntmps15
      go_wp2_with fail
      rw [show ((n : Int) - 1) = ((n - 1 : Nat) : Int) by omega]
      refine Hp.out.mono ?_
      rintro e w' ⟨rfl, rfl⟩
      go_wp2_with fail
      rw [show ((n : Int) - 1) = ((n - 1 : Nat) : Int) by omega]
      refine Hp.out.mono ?_
      rintro e w' ⟨rfl, rfl⟩
      generalize refPow 256 (n - 1) 1 = pw at *
      go_wp2
      go_loopw [7, 8, 9, 10] (fun x s i _ wr => ∃ k : Nat, 1 ≤ k ∧ k ≤ n ∧ i = .int .i64 k ∧ ∃ (z : Int) (t : List UInt8), 0 ≤ z ∧ z ≤ 9007199254740991 ∧ x = .int .i64 z ∧ s = .string ⟨t.toArray⟩ ∧ t.length + 1 = k ∧ refBin false (n - k) z t = refBin false (n - 1) (v) [] ∧ Below w.heap.size w wr) (fun _ _ i _ _ => n - (intOf i).toNat)
      case atStart => exact ⟨1, Nat.le_refl _, by omega, rfl, v, [], by omega, by omega, rfl, rfl, rfl, rfl, Below.refl _ _⟩
      case round =>
        obtain ⟨k, hk1, hk, rfl, z, t, hz0, hz1, rfl, rfl, htl, hs2, hb⟩ := hrel
        have Hs := Lib.hid hs2
        have Htl := Lib.hid htl
        have Hb := Lib.hid hb
        have hlen : t.length ≤ 12 := by omega
        clear hs2 htl hb
        by_cases hlt : k < n
        · have hcv := run_byte_string (P := Try.prog) 37 5 9 Try.underlying37 Try.underlying5 Try.underlying9 (z % 256) (by omega) (by omega)
          have Hn := Lib.hid (show refBin false (n - (k + 1)) (z / 256) (UInt8.ofNat (z % 256).toNat :: t) = refBin false (n - 1) (v) [] by
            rw [← Hs.out, show n - k = (n - (k + 1)) + 1 by omega, refBin_succ]; rfl)
          go_wp2
          go_roundw
          case rel => exact ⟨k + 1, by omega, by omega, by go_num, z / 256, _, by omega, by omega, rfl, rfl, by simp [Htl.out], Hn.out, Hb.out.alloc Hb.out.size _⟩
          case measure => simp [intOf]; omega
        · have Hn := Lib.hid (show binStr v n = binFirst v :: t by
            rw [Hq.out, show decide (v < 0) = false from decide_eq_false (by omega), if_neg (show ¬ v < 0 by omega), ← Hs.out, show n - k = 0 by omega]; rfl)
          have Hf := Lib.hid (show binFirst v = 128 from if_neg (show ¬ v < 0 by omega))
          go_wp2
          go_ret2
          rw [Hn.out, Hf.out]
          exact ⟨Hb.out, rfl⟩


theorem refBinary_ok (v : Int) (n : Nat) (w : World) (h2 : 2 ≤ n) (h12 : n ≤ 12) (hv : inRange v = true) (hs : above v n = 0 ∨ above v n = -1) :
    Calls Try.prog 15 #[.int .i64 v, .int .i64 n] w fun e w' => Below w.heap.size w w' ∧ e = .returned (.tuple #[.string ⟨(binStr v n).toArray⟩, .bool true]) := by
  have hr : -9007199254740991 ≤ v ∧ v ≤ 9007199254740991 := by simpa [inRange] using hv
  have hno := (above_ref v n h2 h12 hv).1 hs
  by_cases h8 : n < 8
  · by_cases hneg : v < 0
    · exact refBinary_neg v n w h2 h12 hr h8 (by omega) (by omega) hneg
    · exact refBinary_pos v n w h2 h12 hr h8 (by omega) (by omega) hneg
  · by_cases hneg : v < 0
    · exact refBinary_neg_big v n w h2 h12 hr (by omega) hneg
    · exact refBinary_pos_big v n w h2 h12 hr (by omega) hneg

theorem refBinary_no (v n : Int) (w : World) (hn : -9223372036854775808 ≤ n ∧ n ≤ 9223372036854775807) (hv : inRange v = true) (h : binaryOf v n = none) :
    Calls Try.prog 15 #[.int .i64 v, .int .i64 n] w fun e w' => w = w' ∧ e = .returned (.tuple #[.string ⟨([] : List UInt8).toArray⟩, .bool false]) := by
  by_cases hz : 2 ≤ n ∧ n ≤ 12
  · obtain ⟨m, rfl⟩ : ∃ m : Nat, n = m := ⟨n.toNat, by omega⟩
    have hab : ¬ (above v m = 0 ∨ above v m = -1) := by
      intro h0
      unfold binaryOf at h
      rw [if_pos ⟨by simp [isSize]; omega, h0⟩] at h
      cases h
    rw [above_ref v m (by omega) (by omega) hv] at hab
    have hr : -9007199254740991 ≤ v ∧ v ≤ 9007199254740991 := by simpa [inRange] using hv
    have hpl := refPow256_le (m - 1) 1 (by decide) (by decide)
    have Hp := Lib.hid (power_any 256 (m - 1) w (by decide) (by omega))
    have h8 : m < 8 := by omega
    clear h hv
    by_cases hlo : refPow 256 (m - 1) 1 ≤ v
    · clear hab
      go_enter Try.func15, Try.ntmps15
      go_wp2_with fail
      rw [show ((m : Int) - 1) = ((m - 1 : Nat) : Int) by omega]
      refine Hp.out.mono ?_
      rintro e w' ⟨rfl, rfl⟩
      generalize refPow 256 (m - 1) 1 = pw at *
      go_wp2
      go_ret2
      exact ⟨rfl, rfl⟩
    · have hhi : v < -refPow 256 (m - 1) 1 := by omega
      clear hab
      go_enter Try.func15, Try.ntmps15
      go_wp2_with fail
      rw [show ((m : Int) - 1) = ((m - 1 : Nat) : Int) by omega]
      refine Hp.out.mono ?_
      rintro e w' ⟨rfl, rfl⟩
      go_wp2_with fail
      rw [show ((m : Int) - 1) = ((m - 1 : Nat) : Int) by omega]
      refine Hp.out.mono ?_
      rintro e w' ⟨rfl, rfl⟩
      generalize refPow 256 (m - 1) 1 = pw at *
      go_wp2
      go_ret2
      exact ⟨rfl, rfl⟩
  · clear h
    by_cases h2 : n < 2
    · go_enter Try.func15, Try.ntmps15
      go_wp2
      go_ret2
      exact ⟨rfl, rfl⟩
    · have h12 : 12 < n := by omega
      go_enter Try.func15, Try.ntmps15
      go_wp2
      go_ret2
      exact ⟨rfl, rfl⟩

/-- The document's binary is octal.Binary's, of a number that may be. -/
theorem refBinary_all (v n : Int) (w : World) (hn : -9223372036854775808 ≤ n ∧ n ≤ 9223372036854775807) (hv : inRange v = true) :
    Calls Try.prog 15 #[.int .i64 v, .int .i64 n] w fun e w' => Below w.heap.size w w' ∧ e = .returned (.tuple #[.string ⟨((binaryOf v n).getD []).toArray⟩, .bool (binaryOf v n).isSome]) := by
  by_cases h : isSize n = true ∧ (above v n.toNat = 0 ∨ above v n.toNat = -1)
  · have hz := h.1
    obtain ⟨m, rfl⟩ : ∃ m : Nat, n = m := ⟨n.toNat, by simp [isSize] at hz; omega⟩
    have h2 : 2 ≤ m ∧ m ≤ 12 := by simp [isSize] at hz; omega
    have hq : binaryOf v m = some (binStr v m) := by unfold binaryOf; rw [if_pos h]; rfl
    rw [hq]
    exact refBinary_ok v m w h2.1 h2.2 hv (by simpa using h.2)
  · have hq : binaryOf v n = none := by unfold binaryOf; rw [if_neg h]
    rw [hq]
    exact (refBinary_no v n w hn hv hq).mono fun e w' ⟨h1, h2⟩ => ⟨h1 ▸ Below.refl _ _, h2⟩

/-- The document's Write is octal.Write. -/
theorem refWrite_any (v n : Int) (w : World) (hv : -9223372036854775808 ≤ v ∧ v ≤ 9223372036854775807) (hn : -9223372036854775808 ≤ n ∧ n ≤ 9223372036854775807) :
    Calls Try.prog 11 #[.int .i64 v, .int .i64 n] w fun e w' => Below w.heap.size w w' ∧ e = .returned (.tuple #[.string ⟨(octWrite v n).1.toArray⟩, .int .i64 (octWrite v n).2]) := by
  by_cases hz : 2 ≤ n ∧ n ≤ 12
  · obtain ⟨z1, z2⟩ := hz
    have hsz : isSize n = true := by simp [isSize]; omega
    by_cases hr : -9007199254740991 ≤ v ∧ v ≤ 9007199254740991
    · obtain ⟨r1, r2⟩ := hr
      have hir : inRange v = true := by simp [inRange]; omega
      have Ho := Lib.hid (refOctal_all v n w hn)
      have Hb := Lib.hid (refBinary_all v n w hn hir)
      rcases ho : octalOf v n with _ | s
      · rcases hb : binaryOf v n with _ | s
        · have Hq := Lib.hid (show octWrite v n = ([], 6) by simp [octWrite, hsz, hir, ho, hb])
          rw [ho] at Ho
          rw [hb] at Hb
          clear ho hb hsz hir
          go_enter Try.func11, Try.ntmps11
          go_wp2_with fail
          refine Ho.out.mono ?_
          rintro e w1 ⟨rfl, rfl⟩
          go_wp2_with fail
          refine Hb.out.mono ?_
          rintro e w2 ⟨hb2, rfl⟩
          go_wp2
          go_ret2
          rw [Hq.out]
          exact ⟨hb2, rfl⟩
        · have Hq := Lib.hid (show octWrite v n = (s, 0) by simp [octWrite, hsz, hir, ho, hb])
          rw [ho] at Ho
          rw [hb] at Hb
          clear ho hb hsz hir
          go_enter Try.func11, Try.ntmps11
          go_wp2_with fail
          refine Ho.out.mono ?_
          rintro e w1 ⟨rfl, rfl⟩
          go_wp2_with fail
          refine Hb.out.mono ?_
          rintro e w2 ⟨hb2, rfl⟩
          go_wp2
          go_ret2
          rw [Hq.out]
          exact ⟨hb2, rfl⟩
      · have Hq := Lib.hid (show octWrite v n = (s, 0) by simp [octWrite, hsz, hir, ho])
        rw [ho] at Ho
        clear ho hsz hir Hb
        go_enter Try.func11, Try.ntmps11
        go_wp2_with fail
        refine Ho.out.mono ?_
        rintro e w1 ⟨rfl, rfl⟩
        go_wp2
        go_ret2
        rw [Hq.out]
        exact ⟨Below.refl _ _, rfl⟩
    · have hir : inRange v = false := by simp [inRange]; omega
      have Hq := Lib.hid (show octWrite v n = ([], 6) by simp [octWrite, hsz, hir])
      clear hsz hir
      by_cases hbig : 9007199254740991 < v
      · clear hr
        go_enter Try.func11, Try.ntmps11
        go_wp2
        go_ret2
        rw [Hq.out]
        exact ⟨Below.refl _ _, rfl⟩
      · have hsm : v < -9007199254740991 := by omega
        clear hr
        go_enter Try.func11, Try.ntmps11
        go_wp2
        go_ret2
        rw [Hq.out]
        exact ⟨Below.refl _ _, rfl⟩
  · have hsz : isSize n = false := by simp [isSize]; omega
    have Hq := Lib.hid (show octWrite v n = ([], 1) by simp [octWrite, hsz])
    clear hsz
    by_cases h2 : n < 2
    · clear hz
      go_enter Try.func11, Try.ntmps11
      go_wp2
      go_ret2
      rw [Hq.out]
      exact ⟨Below.refl _ _, rfl⟩
    · have h12 : 12 < n := by omega
      clear hz
      go_enter Try.func11, Try.ntmps11
      go_wp2
      go_ret2
      rw [Hq.out]
      exact ⟨Below.refl _ _, rfl⟩
end Go.Proofs.Yteiogkcdjipjhaa
