/-
  Contracts of octal.Octal.
-/
import Derived.Test.YtamenhkbmbaopaaGreatDoorOctB
import Derived.Test.YtamenhkbmbaopaaGreatDoorMem
import Derived.Test.YtamenhkbmbaopaaGreatDoorOctPw
import Derived.Deep.CutBlock
import Derived.Deep.DeepCutAuto
namespace Go.Proofs.YtamenhkbmbaopaaGreatDoor
open Go.ChangeShapes Go.WideShapes Go.ChangeAt Go.RowKit

theorem info_u8 : (Tryz.prog.info? 5).map (fun i => (i.zero, i.size, i.bytes)) = some (some (.int .u8 0), 1, 1) := by kernel_rfl

set_option maxRecDepth 100000 in
theorem octal_any (v : Int) (n : Nat) (w : World) (h2 : 2 ≤ n) (h12 : n ≤ 12) (hv : 0 ≤ v) (hs : v / 2 ^ (3 * (n - 1)) = 0) (hm : v ≤ 9223372036854775807) :
    Calls Tryz.prog 34 #[.int .i64 v, .int .i64 n] w fun e w' => Below w.heap.size w w' ∧ e = .returned (.tuple #[.string ⟨(octStr v n).toArray⟩, .bool true]) := by
  have hmk := run_make_bytes (P := Tryz.prog) 78 5 Tryz.underlying78 info_u8 n (by omega)
  have Hz := Lib.hid (show isSize (n : Int) = true by simp [isSize]; omega)
  go_enter Tryz.func34, Tryz.ntmps34
  go_wp2_with fail
  refine (isSize_any _ w).mono ?_
  rw [Hz.out]
  rintro e w' ⟨rfl, rfl⟩
  have e1 : (v / 2 ^ (3 * (n - 1)) != 0) = false := by simp [hs]
  clear hs
  go_wp2
  go_loopw [7, 27] (fun _ i wr => ∃ k : Nat, k ≤ n - 1 ∧ i = .int .i64 k ∧ Holds wr w.heap.size 5 (byteCells (octPart v n k)) ∧ Below w.heap.size w wr) (fun _ i _ => n - 1 - (intOf i).toNat)
  case atStart => exact ⟨0, Nat.zero_le _, rfl, by rw [octPart_zero]; exact Holds.new _ _ _, (Below.refl _ _).alloc (Nat.le_refl _) _⟩
  case round =>
    obtain ⟨k, hk, rfl, hh, hb⟩ := hrel
    have Hh := Lib.hid hh
    have Hb := Lib.hid hb
    clear hh hb
    by_cases hlt : k < n - 1
    · have hc : wr.cell? ⟨w.heap.size, k, none⟩ = some (.int .u8 ((octPart v n k)[k]'(by rw [octPart_length]; omega)).toNat) := by
        rw [Hh.out.cell (i := k) (by rw [byteCells_length, octPart_length]; omega), byteCells_get]
      have hf : wr.frozen? ⟨w.heap.size, k, none⟩ = false := Hh.out.frozen k
      have hand := i64_and7 (v / 2 ^ (3 * (n - 2 - k)))
      go_wp2
      have hp := Hh.out.put k (.int .u8 (48 + v / 2 ^ (3 * (n - 2 - k)) % 8))
      rw [byteCells_set _ _ _ (by omega) (by omega)] at hp
      change Holds _ _ _ (byteCells ((octPart v n k).set k (octDig v n k))) at hp
      rw [octPart_succ] at hp
      refine ⟨⟨k + 1, by omega, by go_num, hp, Hb.out.setCell (Nat.le_refl _) _⟩, ?_⟩
      simp [intOf]; omega
    · have Hl := Lib.hid (show octPart v n k = octStr v n by rw [show k = n - 1 by omega, octPart_full v n (by omega)])
      have hconv := run_bytes_string (P := Tryz.prog) 78 5 9 Tryz.underlying78 Tryz.underlying5 Tryz.underlying9 (show Holds wr w.heap.size 5 (byteCells (octStr v n)) by rw [← Hl.out]; exact Hh.out) n (by simp [octStr]; omega) n
      go_wp2
      go_ret2
      exact ⟨Hb.out, rfl⟩

theorem octal_no (v n : Int) (w : World) (hn : -9223372036854775808 ≤ n ∧ n ≤ 9223372036854775807) (h : octalOf v n = none) :
    Calls Tryz.prog 34 #[.int .i64 v, .int .i64 n] w fun e w' => w = w' ∧ e = .returned (.tuple #[.string ⟨([] : List UInt8).toArray⟩, .bool false]) := by
  by_cases hz : isSize n = true
  · have Hz := Lib.hid hz
    obtain ⟨m, rfl⟩ : ∃ m : Nat, n = m := ⟨n.toNat, by simp [isSize] at hz; omega⟩
    have h2 : 2 ≤ m ∧ m ≤ 12 := by simp [isSize] at hz; omega
    clear hz
    by_cases hv : 0 ≤ v
    · have e1 : (v / 2 ^ (3 * (m - 1)) != 0) = true := by
        rw [bne_iff_ne]; intro h0
        unfold octalOf at h
        rw [if_pos ⟨Hz.out, hv, by simpa using h0⟩] at h
        cases h
      clear h
      go_enter Tryz.func34, Tryz.ntmps34
      go_wp2_with fail
      refine (isSize_any _ w).mono ?_
      rw [Hz.out]
      rintro e w' ⟨rfl, rfl⟩
      go_wp2
      go_ret2
      exact ⟨rfl, rfl⟩
    · clear h
      go_enter Tryz.func34, Tryz.ntmps34
      go_wp2_with fail
      refine (isSize_any _ w).mono ?_
      rw [Hz.out]
      rintro e w' ⟨rfl, rfl⟩
      go_wp2
      go_ret2
      exact ⟨rfl, rfl⟩
  · have Hz := Lib.hid (show isSize n = false by simpa using hz)
    clear hz h
    go_enter Tryz.func34, Tryz.ntmps34
    go_wp2_with fail
    refine (isSize_any _ w).mono ?_
    rw [Hz.out]
    rintro e w' ⟨rfl, rfl⟩
    go_wp2
    go_ret2
    exact ⟨rfl, rfl⟩

/-- octal.Octal, whatever it is handed. -/
theorem octal_all (v n : Int) (w : World) (hv : -9223372036854775808 ≤ v ∧ v ≤ 9223372036854775807) (hn : -9223372036854775808 ≤ n ∧ n ≤ 9223372036854775807) :
    Calls Tryz.prog 34 #[.int .i64 v, .int .i64 n] w fun e w' => Below w.heap.size w w' ∧ e = .returned (.tuple #[.string ⟨((octalOf v n).getD []).toArray⟩, .bool (octalOf v n).isSome]) := by
  by_cases h : isSize n = true ∧ 0 ≤ v ∧ v / 2 ^ (3 * (n.toNat - 1)) = 0
  · have hz := h.1
    obtain ⟨m, rfl⟩ : ∃ m : Nat, n = m := ⟨n.toNat, by simp [isSize] at hz; omega⟩
    have h2 : 2 ≤ m ∧ m ≤ 12 := by simp [isSize] at hz; omega
    have hq : octalOf v m = some (octStr v m) := by unfold octalOf; rw [if_pos h]; rfl
    rw [hq]
    exact octal_any v m w h2.1 h2.2 h.2.1 (by simpa using h.2.2) hv.2
  · have hq : octalOf v n = none := by unfold octalOf; rw [if_neg h]
    rw [hq]
    exact (octal_no v n w hn hq).mono fun e w' ⟨h1, h2⟩ => ⟨h1 ▸ Below.refl _ _, h2⟩
end Go.Proofs.YtamenhkbmbaopaaGreatDoor
