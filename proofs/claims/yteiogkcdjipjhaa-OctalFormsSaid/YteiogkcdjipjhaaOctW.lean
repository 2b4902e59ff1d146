/-
  Contracts of octal.Octal and octal.Binary.
-/
import Derived.Test.YteiogkcdjipjhaaOct
import Derived.Test.YteiogkcdjipjhaaMem
import Derived.Test.YteiogkcdjipjhaaOctPw
import Derived.Deep.CutBlock
import Derived.Deep.DeepCutAuto
namespace Go.Proofs.Yteiogkcdjipjhaa
open Go.ChangeShapes Go.WideShapes Go.ChangeAt Go.RowKit

theorem info_u8 : (Try.prog.info? 5).map (fun i => (i.zero, i.size, i.bytes)) = some (some (.int .u8 0), 1, 1) := by kernel_rfl

theorem octal_any (v : Int) (n : Nat) (w : World) (h2 : 2 ≤ n) (h12 : n ≤ 12) (hv : 0 ≤ v) (hs : v / 2 ^ (3 * (n - 1)) = 0) (hm : v ≤ 9223372036854775807) :
    Calls Try.prog 12 #[.int .i64 v, .int .i64 n] w fun e w' => Below w.heap.size w w' ∧ e = .returned (.tuple #[.string ⟨(octStr v n).toArray⟩, .bool true]) := by
  have hmk := run_make_bytes (P := Try.prog) 37 5 Try.underlying37 info_u8 n (by omega)
  have Hz := Lib.hid (show isSize (n : Int) = true by simp [isSize]; omega)
  go_enter Try.func12, Try.ntmps12
  go_wp2_with fail
  refine (isSize_any _ w).mono ?_
  rw [Hz.out]
  rintro e w' ⟨rfl, rfl⟩
  have e1 : (v / 2 ^ (3 * (n - 1)) != 0) = false := by simp [hs]
  clear hs
  go_wp2
  go_loopw [7, 27] (fun _ i wr => ∃ k : Nat, k ≤ n - 1 ∧ i = .int .i64 k ∧ Holds wr w.heap.size 5 (byteCells (octPart v n k)) ∧ Below w.heap.size w wr) (fun _ i _ => n - 1 - (intOf i).toNat)
  case atStart => exact ⟨0, Nat.zero_le _, rfl, by rw [octPart_zero]; exact Holds.new _ _ _, (Below.refl _ _).alloc (Nat.le_refl _) _⟩
  case round =>
    obtain ⟨k, hk, rfl, hh, hb⟩ := hrel
    have Hh := Lib.hid hh
    have Hb := Lib.hid hb
    clear hh hb
    by_cases hlt : k < n - 1
    · have hc : wr.cell? ⟨w.heap.size, k, none⟩ = some (.int .u8 ((octPart v n k)[k]'(by rw [octPart_length]; omega)).toNat) := by
        rw [Hh.out.cell (i := k) (by rw [byteCells_length, octPart_length]; omega), byteCells_get]
      have hf : wr.frozen? ⟨w.heap.size, k, none⟩ = false := Hh.out.frozen k
      have hand := i64_and7 (v / 2 ^ (3 * (n - 2 - k)))
      go_wp2
      have hp := Hh.out.put k (.int .u8 (48 + v / 2 ^ (3 * (n - 2 - k)) % 8))
      rw [byteCells_set _ _ _ (by omega) (by omega)] at hp
      change Holds _ _ _ (byteCells ((octPart v n k).set k (octDig v n k))) at hp
      rw [octPart_succ] at hp
      refine ⟨⟨k + 1, by omega, by go_num, hp, Hb.out.setCell (Nat.le_refl _) _⟩, ?_⟩
      simp [intOf]; omega
    · have Hl := Lib.hid (show octPart v n k = octStr v n by rw [show k = n - 1 by omega, octPart_full v n (by omega)])
      have hconv := run_bytes_string (P := Try.prog) 37 5 9 Try.underlying37 Try.underlying5 Try.underlying9 (show Holds wr w.heap.size 5 (byteCells (octStr v n)) by rw [← Hl.out]; exact Hh.out) n (by simp [octStr]; omega) n
      go_wp2
      go_ret2
      exact ⟨Hb.out, rfl⟩

theorem octal_no (v n : Int) (w : World) (hn : -9223372036854775808 ≤ n ∧ n ≤ 9223372036854775807) (h : octalOf v n = none) :
    Calls Try.prog 12 #[.int .i64 v, .int .i64 n] w fun e w' => w = w' ∧ e = .returned (.tuple #[.string ⟨([] : List UInt8).toArray⟩, .bool false]) := by
  by_cases hz : isSize n = true
  · have Hz := Lib.hid hz
    obtain ⟨m, rfl⟩ : ∃ m : Nat, n = m := ⟨n.toNat, by simp [isSize] at hz; omega⟩
    have h2 : 2 ≤ m ∧ m ≤ 12 := by simp [isSize] at hz; omega
    clear hz
    by_cases hv : 0 ≤ v
    · have e1 : (v / 2 ^ (3 * (m - 1)) != 0) = true := by
        rw [bne_iff_ne]; intro h0
        unfold octalOf at h
        rw [if_pos ⟨Hz.out, hv, by simpa using h0⟩] at h
        cases h
      clear h
      go_enter Try.func12, Try.ntmps12
      go_wp2_with fail
      refine (isSize_any _ w).mono ?_
      rw [Hz.out]
      rintro e w' ⟨rfl, rfl⟩
      go_wp2
      go_ret2
      exact ⟨rfl, rfl⟩
    · clear h
      go_enter Try.func12, Try.ntmps12
      go_wp2_with fail
      refine (isSize_any _ w).mono ?_
      rw [Hz.out]
      rintro e w' ⟨rfl, rfl⟩
      go_wp2
      go_ret2
      exact ⟨rfl, rfl⟩
  · have Hz := Lib.hid (show isSize n = false by simpa using hz)
    clear hz h
    go_enter Try.func12, Try.ntmps12
    go_wp2_with fail
    refine (isSize_any _ w).mono ?_
    rw [Hz.out]
    rintro e w' ⟨rfl, rfl⟩
    go_wp2
    go_ret2
    exact ⟨rfl, rfl⟩

theorem above_neg (v : Int) (n : Nat) : (above v n = 0 → 0 ≤ v) ∧ (above v n = -1 → v < 0) := by
  unfold above shr
  have hp : (0 : Int) < 2 ^ min (8 * (n - 1)) 64 := Int.pow_pos (by decide)
  constructor
  · intro h
    have := Int.ediv_mul_le v (Int.ne_of_gt hp)
    rw [h] at this; omega
  · intro h
    have := Int.lt_ediv_add_one_mul_self v hp
    rw [h] at this; omega

theorem binary_any (v : Int) (n : Nat) (w : World) (h2 : 2 ≤ n) (h12 : n ≤ 12) (hs : above v n = 0 ∨ above v n = -1) :
    Calls Try.prog 14 #[.int .i64 v, .int .i64 n] w fun e w' => Below w.heap.size w w' ∧ e = .returned (.tuple #[.string ⟨(binStr v n).toArray⟩, .bool true]) := by
  have hmk := run_make_bytes (P := Try.prog) 37 5 Try.underlying37 info_u8 n (by omega)
  have Hz := Lib.hid (show isSize (n : Int) = true by simp [isSize]; omega)
  have hab := above_neg v n
  have hsh : Op.shift .shr .i64 v .i64 (8 * ((n : Int) - 1)) = pure (.int .i64 (above v n)) := by
    rw [shift_shr_nat _ _ (by omega)]; unfold above; rw [show (8 * ((n : Int) - 1)).toNat = 8 * (n - 1) by omega]
  have hf0 : ∀ W : World, (W.alloc (.cells (byteCells (List.replicate n 0)).toArray 5)).cell? ⟨W.heap.size, 0, none⟩ = some (.int .u8 0) := by
    intro W
    have hl : 0 < n := by omega
    rw [(Holds.new W 5 (byteCells (List.replicate n 0))).cell (i := 0) (by rw [byteCells_length]; simpa using hl), byteCells_get _ _ (by simpa using hl)]
    simp
  have hf1 : ∀ W : World, (W.alloc (.cells (byteCells (List.replicate n 0)).toArray 5)).frozen? ⟨W.heap.size, 0, none⟩ = false := fun W => (Holds.new W 5 (byteCells (List.replicate n 0))).frozen 0
  have Hfirst : Hid ((byteCells (List.replicate n 0)).set 0 (.int .u8 (binFirst v).toNat) = byteCells (binPart v n 1)) := by
    show _ = _
    rw [byteCells_set _ _ _ (by omega) (byte_lt _), ← binPart_one]; simp
  go_enter Try.func14, Try.ntmps14
  go_wp2_with fail
  refine (isSize_any _ w).mono ?_
  rw [Hz.out]
  rintro e w' ⟨rfl, rfl⟩
  go_upto_block 0 with (fail)
  go_cut [18] (fun _ wx => Holds wx w.heap.size 5 (byteCells (binPart v n 1)) ∧ Below w.heap.size w wx)
  case first =>
    rcases hs with hs | hs
    · have hneg := hab.1 hs
      have Hp := Lib.hid (show (.int .u8 128 : Value) = .int .u8 (binFirst v).toNat by rw [show binFirst v = 128 from if_neg (by omega)]; rfl)
      have e1 : (above v n == 0) = true := by simp [hs]
      clear hs hab hsh
      go_wp2
      go_meet
      case rel =>
        rw [Hp.out, Hfirst.out]
        exact ⟨Holds.new _ _ _, (Below.refl _ _).alloc (Nat.le_refl _) _⟩
    · have hneg := hab.2 hs
      have Hp := Lib.hid (show (.int .u8 255 : Value) = .int .u8 (binFirst v).toNat by rw [show binFirst v = 255 from if_pos (by omega)]; rfl)
      have e1 : (above v n == 0) = false := by rw [hs]; rfl
      have e2 : (above v n == -1) = true := by rw [hs]; rfl
      clear hs hab hsh
      go_wp2
      go_meet
      case rel =>
        rw [Hp.out, Hfirst.out]
        exact ⟨Holds.new _ _ _, (Below.refl _ _).alloc (Nat.le_refl _) _⟩
  case rest =>
    obtain ⟨hh, hb⟩ := hcut
    have Hh0 := Lib.hid hh
    have Hb0 := Lib.hid hb
    clear hh hb hmk hf0 hf1 hsh hab hs
    go_wp2
    go_loopw [7] (fun i wr => ∃ k : Nat, 1 ≤ k ∧ k ≤ n ∧ i = .int .i64 k ∧ Holds wr w.heap.size 5 (byteCells (binPart v n k)) ∧ Below w.heap.size w wr) (fun i _ => n - (intOf i).toNat)
    case atStart => exact ⟨1, Nat.le_refl _, by omega, rfl, Hh0.out, Hb0.out⟩
    case round =>
      obtain ⟨k, hk1, hk, rfl, hh, hb⟩ := hrel
      have Hh := Lib.hid hh
      have Hb := Lib.hid hb
      clear hh hb Hh0 Hb0
      by_cases hlt : k < n
      · have hc : wr.cell? ⟨w.heap.size, k, none⟩ = some (.int .u8 ((binPart v n k)[k]'(by rw [binPart_length]; omega)).toNat) := by
          rw [Hh.out.cell (i := k) (by rw [byteCells_length, binPart_length]; omega), byteCells_get]
        have hf : wr.frozen? ⟨w.heap.size, k, none⟩ = false := Hh.out.frozen k
        have hsh : Op.shift .shr .i64 v .i64 (8 * ((n : Int) - 1 - k)) = pure (.int .i64 (shr v (8 * (n - 1 - k)))) := by
          rw [shift_shr_nat _ _ (by omega), show (8 * ((n : Int) - 1 - k)).toNat = 8 * (n - 1 - k) by omega]
        go_wp2
        have hp := Hh.out.put k (.int .u8 (shr v (8 * (n - 1 - k)) % 256))
        rw [byteCells_set _ _ _ (by omega) (by omega)] at hp
        change Holds _ _ _ (byteCells ((binPart v n k).set k (binDig v n k))) at hp
        rw [binPart_succ _ _ _ hk1] at hp
        refine ⟨⟨k + 1, by omega, by omega, by go_num, hp, Hb.out.setCell (Nat.le_refl _) _⟩, ?_⟩
        simp [intOf]; omega
      · have Hl := Lib.hid (show binPart v n k = binStr v n by rw [show k = n by omega, binPart_full v n])
        have hconv := run_bytes_string (P := Try.prog) 37 5 9 Try.underlying37 Try.underlying5 Try.underlying9 (show Holds wr w.heap.size 5 (byteCells (binStr v n)) by rw [← Hl.out]; exact Hh.out) n (by simp [binStr]) n
        go_wp2
        go_ret2
        exact ⟨Hb.out, rfl⟩

theorem binary_no (v n : Int) (w : World) (hn : -9223372036854775808 ≤ n ∧ n ≤ 9223372036854775807) (h : binaryOf v n = none) :
    Calls Try.prog 14 #[.int .i64 v, .int .i64 n] w fun e w' => Below w.heap.size w w' ∧ e = .returned (.tuple #[.string ⟨([] : List UInt8).toArray⟩, .bool false]) := by
  by_cases hz : isSize n = true
  · have Hz := Lib.hid hz
    obtain ⟨m, rfl⟩ : ∃ m : Nat, n = m := ⟨n.toNat, by simp [isSize] at hz; omega⟩
    have h2 : 2 ≤ m ∧ m ≤ 12 := by simp [isSize] at hz; omega
    clear hz
    have hno : ¬ (above v m = 0 ∨ above v m = -1) := by
      intro h0
      unfold binaryOf at h
      rw [if_pos ⟨Hz.out, h0⟩] at h
      cases h
    have e1 : (above v m == 0) = false := by simpa using fun h0 => hno (.inl h0)
    have e2 : (above v m == -1) = false := by simpa using fun h0 => hno (.inr h0)
    clear h hno
    have hmk := run_make_bytes (P := Try.prog) 37 5 Try.underlying37 info_u8 m (by omega)
    have hsh : Op.shift .shr .i64 v .i64 (8 * ((m : Int) - 1)) = pure (.int .i64 (above v m)) := by
      rw [shift_shr_nat _ _ (by omega)]; unfold above; rw [show (8 * ((m : Int) - 1)).toNat = 8 * (m - 1) by omega]
    go_enter Try.func14, Try.ntmps14
    go_wp2_with fail
    refine (isSize_any _ w).mono ?_
    rw [Hz.out]
    rintro e w' ⟨rfl, rfl⟩
    go_wp2
    go_ret2
    exact ⟨(Below.refl _ _).alloc (Nat.le_refl _) _, rfl⟩
  · have Hz := Lib.hid (show isSize n = false by simpa using hz)
    clear hz h
    go_enter Try.func14, Try.ntmps14
    go_wp2_with fail
    refine (isSize_any _ w).mono ?_
    rw [Hz.out]
    rintro e w' ⟨rfl, rfl⟩
    go_wp2
    go_ret2
    exact ⟨Below.refl _ _, rfl⟩

/-- octal.Octal, whatever it is handed. -/
theorem octal_all (v n : Int) (w : World) (hv : -9223372036854775808 ≤ v ∧ v ≤ 9223372036854775807) (hn : -9223372036854775808 ≤ n ∧ n ≤ 9223372036854775807) :
    Calls Try.prog 12 #[.int .i64 v, .int .i64 n] w fun e w' => Below w.heap.size w w' ∧ e = .returned (.tuple #[.string ⟨((octalOf v n).getD []).toArray⟩, .bool (octalOf v n).isSome]) := by
  by_cases h : isSize n = true ∧ 0 ≤ v ∧ v / 2 ^ (3 * (n.toNat - 1)) = 0
  · have hz := h.1
    obtain ⟨m, rfl⟩ : ∃ m : Nat, n = m := ⟨n.toNat, by simp [isSize] at hz; omega⟩
    have h2 : 2 ≤ m ∧ m ≤ 12 := by simp [isSize] at hz; omega
    have hq : octalOf v m = some (octStr v m) := by unfold octalOf; rw [if_pos h]; rfl
    rw [hq]
    exact octal_any v m w h2.1 h2.2 h.2.1 (by simpa using h.2.2) hv.2
  · have hq : octalOf v n = none := by unfold octalOf; rw [if_neg h]
    rw [hq]
    exact (octal_no v n w hn hq).mono fun e w' ⟨h1, h2⟩ => ⟨h1 ▸ Below.refl _ _, h2⟩

/-- octal.Binary, whatever it is handed. -/
theorem binary_all (v n : Int) (w : World) (hn : -9223372036854775808 ≤ n ∧ n ≤ 9223372036854775807) :
    Calls Try.prog 14 #[.int .i64 v, .int .i64 n] w fun e w' => Below w.heap.size w w' ∧ e = .returned (.tuple #[.string ⟨((binaryOf v n).getD []).toArray⟩, .bool (binaryOf v n).isSome]) := by
  by_cases h : isSize n = true ∧ (above v n.toNat = 0 ∨ above v n.toNat = -1)
  · have hz := h.1
    obtain ⟨m, rfl⟩ : ∃ m : Nat, n = m := ⟨n.toNat, by simp [isSize] at hz; omega⟩
    have h2 : 2 ≤ m ∧ m ≤ 12 := by simp [isSize] at hz; omega
    have hq : binaryOf v m = some (binStr v m) := by unfold binaryOf; rw [if_pos h]; rfl
    rw [hq]
    exact binary_any v m w h2.1 h2.2 (by simpa using h.2)
  · have hq : binaryOf v n = none := by unfold binaryOf; rw [if_neg h]
    rw [hq]
    exact binary_no v n w hn hq

/-- octal.Write, whatever it is handed. -/
theorem write_any (v n : Int) (w : World) (hv : -9223372036854775808 ≤ v ∧ v ≤ 9223372036854775807) (hn : -9223372036854775808 ≤ n ∧ n ≤ 9223372036854775807) :
    Calls Try.prog 10 #[.int .i64 v, .int .i64 n] w fun e w' => Below w.heap.size w w' ∧ e = .returned (.tuple #[.string ⟨(octWrite v n).1.toArray⟩, .int .i64 (octWrite v n).2]) := by
  by_cases hz : isSize n = true
  · have Hz := Lib.hid hz
    by_cases hr : inRange v = true
    · have Hr := Lib.hid hr
      have Ho := Lib.hid (octal_all v n w hv hn)
      rcases ho : octalOf v n with _ | s
      · have Hb := Lib.hid (fun w1 => binary_all v n w1 hn)
        rcases hb : binaryOf v n with _ | s
        · have Hq := Lib.hid (show octWrite v n = ([], 6) by simp [octWrite, hz, hr, ho, hb])
          clear hz hr
          rw [ho] at Ho
          rw [hb] at Hb
          clear ho hb
          go_enter Try.func10, Try.ntmps10
          go_wp2_with fail
          refine (isSize_any _ w).mono ?_
          rw [Hz.out]
          rintro e w' ⟨rfl, rfl⟩
          go_wp2_with fail
          refine (inRange_any _ w).mono ?_
          rw [Hr.out]
          rintro e w' ⟨rfl, rfl⟩
          go_wp2_with fail
          refine Ho.out.mono ?_
          rintro e w1 ⟨hb1, rfl⟩
          go_wp2_with fail
          refine (Hb.out w1).mono ?_
          rintro e w2 ⟨hb2, rfl⟩
          go_wp2
          go_ret2
          rw [Hq.out]
          exact ⟨hb1.trans (hb2.mono hb1.size), rfl⟩
        · have Hq := Lib.hid (show octWrite v n = (s, 0) by simp [octWrite, hz, hr, ho, hb])
          clear hz hr
          rw [ho] at Ho
          rw [hb] at Hb
          clear ho hb
          go_enter Try.func10, Try.ntmps10
          go_wp2_with fail
          refine (isSize_any _ w).mono ?_
          rw [Hz.out]
          rintro e w' ⟨rfl, rfl⟩
          go_wp2_with fail
          refine (inRange_any _ w).mono ?_
          rw [Hr.out]
          rintro e w' ⟨rfl, rfl⟩
          go_wp2_with fail
          refine Ho.out.mono ?_
          rintro e w1 ⟨hb1, rfl⟩
          go_wp2_with fail
          refine (Hb.out w1).mono ?_
          rintro e w2 ⟨hb2, rfl⟩
          go_wp2
          go_ret2
          rw [Hq.out]
          exact ⟨hb1.trans (hb2.mono hb1.size), rfl⟩
      · have Hq := Lib.hid (show octWrite v n = (s, 0) by simp [octWrite, hz, hr, ho])
        clear hz hr
        rw [ho] at Ho
        clear ho
        go_enter Try.func10, Try.ntmps10
        go_wp2_with fail
        refine (isSize_any _ w).mono ?_
        rw [Hz.out]
        rintro e w' ⟨rfl, rfl⟩
        go_wp2_with fail
        refine (inRange_any _ w).mono ?_
        rw [Hr.out]
        rintro e w' ⟨rfl, rfl⟩
        go_wp2_with fail
        refine Ho.out.mono ?_
        rintro e w1 ⟨hb1, rfl⟩
        go_wp2
        go_ret2
        rw [Hq.out]
        exact ⟨hb1, rfl⟩
    · have Hr := Lib.hid (show inRange v = false by simpa using hr)
      have Hq := Lib.hid (show octWrite v n = ([], 6) by simp [octWrite, hz, hr])
      clear hz hr
      go_enter Try.func10, Try.ntmps10
      go_wp2_with fail
      refine (isSize_any _ w).mono ?_
      rw [Hz.out]
      rintro e w' ⟨rfl, rfl⟩
      go_wp2_with fail
      refine (inRange_any _ w).mono ?_
      rw [Hr.out]
      rintro e w' ⟨rfl, rfl⟩
      go_wp2
      go_ret2
      rw [Hq.out]
      exact ⟨Below.refl _ _, rfl⟩
  · have Hz := Lib.hid (show isSize n = false by simpa using hz)
    have Hq := Lib.hid (show octWrite v n = ([], 1) by simp [octWrite, hz])
    clear hz
    go_enter Try.func10, Try.ntmps10
    go_wp2_with fail
    refine (isSize_any _ w).mono ?_
    rw [Hz.out]
    rintro e w' ⟨rfl, rfl⟩
    go_wp2
    go_ret2
    rw [Hq.out]
    exact ⟨Below.refl _ _, rfl⟩
end Go.Proofs.Yteiogkcdjipjhaa
