/-
  Contracts of the sums of package sums, and of the document's own.
-/
import Derived.Test.YtlloaalaldomkaaDoorRows
import Derived.Test.YtlloaalaldomkaaDoorSumP
import Derived.Laws.Rows
import Derived.Laws.Tables
import Derived.Deep.WholeRow
import Derived.Laws.CopyOwn
namespace Go.Proofs.YtlloaalaldomkaaDoor
open Go.ChangeShapes Go.WideShapes Go.ChangeAt Go.RowKit

theorem info_numbers : (Tryd.prog.info? 79).map (fun i => (i.zero, i.size)) = some (some (.agg (byteCells (List.replicate 512 0)).toArray), 512) := by kernel_rfl
theorem numbers_size : (Tryd.prog.info? 79).map (·.size) = some 512 := (zero_of_info info_numbers).2

theorem blanked_cells (l : List UInt8) (h : l.length = 512) : (byteCells (blanked l)).toArray.size = 512 := by rw [List.size_toArray, byteCells_length, blanked_length l h]
theorem nought_cells : (byteCells (List.replicate 512 0)).toArray.size = 512 := by rw [List.size_toArray, byteCells_length, List.length_replicate]
theorem byteCells_oneCell (l : List UInt8) : (byteCells l).toArray.all (·.oneCell') = true := by
  rw [Array.all_eq_true_iff_forall_mem]
  intro v hv
  simp only [byteCells, List.mem_toArray, List.mem_map] at hv
  obtain ⟨b, _, rfl⟩ := hv
  rfl

set_option maxRecDepth 100000 in
theorem numbersOf_any (l : List UInt8) (w : World) (hl : l.length = 512) :
    Calls Tryd.prog 41 #[.string ⟨l.toArray⟩] w fun e w' => Below w.heap.size w w' ∧ e = .returned (.agg (byteCells (blanked l)).toArray) := by
  have hz := (zero_of_info info_numbers).1
  obtain ⟨Z, hZ⟩ : ∃ Z, Z = byteCells (List.replicate 512 0) := ⟨_, rfl⟩
  have HZ := Lib.hid hZ
  rw [← hZ] at hz
  clear hZ
  have Hl := Lib.hid hl
  have hl' : 512 ≤ l.length := by omega
  clear hl
  go_enter Tryd.func41, Tryd.ntmps41
  go_wp2
  go_loopw [6] (fun i wr => ∃ k : Nat, k ≤ 512 ∧ i = .int .i64 k ∧ Holds wr w.heap.size 79 Z ∧ Holds wr (w.heap.size + 1) 79 (byteCells (filled l k)) ∧ Below w.heap.size w wr) (fun i _ => 512 - (intOf i).toNat)
  case atStart =>
    refine ⟨0, Nat.zero_le _, rfl, (Holds.new _ _ _).behind _, ?_, ((Below.refl _ _).alloc (Nat.le_refl _) _).alloc (by simp) _⟩
    rw [filled_zero, ← HZ.out]
    have := Holds.new (w.alloc (.cells Z.toArray 79)) 79 Z
    rwa [World.size_alloc] at this
  case round =>
    obtain ⟨k, hk, rfl, h0, h1, hb⟩ := hrel
    have H0 := Lib.hid h0
    have H1 := Lib.hid h1
    have Hb := Lib.hid hb
    clear h0 h1 hb
    by_cases hlt : k < 512
    · have hkl : k < l.length := by omega
      have hc : wr.cell? ⟨w.heap.size + 1, k, none⟩ = some (.int .u8 ((filled l k)[k]'(by rw [filled_length l Hl.out k hk]; exact hlt)).toNat) := by
        rw [H1.out.cell (i := k) (by rw [byteCells_length, filled_length l Hl.out k hk]; exact hlt), byteCells_get]
      have hf : wr.frozen? ⟨w.heap.size + 1, k, none⟩ = false := H1.out.frozen k
      go_wp2
      have hp := H1.out.put k (.int .u8 l[k].toNat)
      rw [byteCells_set _ _ _ (by omega) (byte_lt _)] at hp
      have e : UInt8.ofNat ((l[k].toNat : Int)).toNat = l[k] := by simp
      rw [e, filled_succ l Hl.out k hlt] at hp
      refine ⟨⟨k + 1, by omega, by go_num, H0.out.other (by simp) _, hp, Hb.out.setCell (by simp) _⟩, ?_⟩
      simp [intOf]; omega
    · have H2 : Holds wr (w.heap.size + 1) 79 (byteCells (blanking l 0)) := by
        rw [blanking_zero, ← filled_full l Hl.out, show 512 = k by omega]; exact H1.out
      have H2' := Lib.hid H2
      clear H2
      go_wp2
      go_loopw [15] (fun i wr => ∃ k : Nat, k ≤ 8 ∧ i = .int .i64 k ∧ Holds wr w.heap.size 79 Z ∧ Holds wr (w.heap.size + 1) 79 (byteCells (blanking l k)) ∧ Below w.heap.size w wr) (fun i _ => 8 - (intOf i).toNat)
      case atStart => exact ⟨0, Nat.zero_le _, rfl, H0.out, H2'.out, Hb.out⟩
      case round =>
        clear H0 H2' Hb H1
        obtain ⟨j, hj, rfl, h0, h1, hb⟩ := hrel
        have H0 := Lib.hid h0
        have H1 := Lib.hid h1
        have Hb := Lib.hid hb
        clear h0 h1 hb
        by_cases hlt2 : j < 8
        · have hc : wr.cell? ⟨w.heap.size + 1, 148 + j, none⟩ = some (.int .u8 ((blanking l j)[148 + j]'(by rw [blanking_length l Hl.out j hj]; omega)).toNat) := by
            rw [H1.out.cell (i := 148 + j) (by rw [byteCells_length, blanking_length l Hl.out j hj]; omega), byteCells_get]
          have hf : wr.frozen? ⟨w.heap.size + 1, 148 + j, none⟩ = false := H1.out.frozen _
          go_wp2
          have hp := H1.out.put (148 + j) (.int .u8 32)
          rw [byteCells_set _ _ _ (by omega) (by omega)] at hp
          change Holds _ _ _ (byteCells ((blanking l j).set (148 + j) 32)) at hp
          rw [blanking_succ l Hl.out j hlt2] at hp
          refine ⟨⟨j + 1, by omega, by go_num, H0.out.other (by simp) _, hp, Hb.out.setCell (by simp) _⟩, ?_⟩
          simp [intOf]; omega
        · have H2 := Lib.hid (show Holds wr (w.heap.size + 1) 79 (byteCells (blanked l)) by rw [← blanking_full, show 8 = j by omega]; exact H1.out)
          have hs1 := Lib.hid (show (Tryd.prog.info? 79).map (·.size) = some (byteCells (blanked l)).toArray.size by rw [numbers_size]; simp [byteCells_length, blanked_length l Hl.out])
          have hs2 := Lib.hid (show Z.toArray.size = (byteCells (blanked l)).toArray.size by rw [HZ.out]; simp [byteCells_length, blanked_length l Hl.out])
          have hone := Lib.hid (byteCells_oneCell (blanked l))
          generalize hB : byteCells (blanked l) = B at *
          have HB := Lib.hid hB
          clear hB
          go_wp2_with (first
            | (refine wpList_load_row rfl 79 _ rfl (w.heap.size + 1) rfl _ _ _ _ H2.out Tryd.underlying79 rfl hs1.out ?_)
            | (refine wpList_store_row rfl 79 _ _ rfl w.heap.size B.toArray rfl rfl _ _ H0.out hs1.out hs2.out hone.out ?_))
          refine bodyPost_ret (v := .agg B.toArray) (results_cell_row Tryd.results41 _ _ w.heap.size 79 B.toArray (0, 0) _ rfl (setRow_heap _ _ _ _ _ _ H0.out) Tryd.underlying79 rfl hs1.out) rfl ⟨below_setRow Hb.out (Nat.le_refl _) _, by rw [HB.out]⟩

set_option maxRecDepth 100000 in
theorem sum_any (l : List UInt8) (w : World) (hl : l.length = 512) :
    Calls Tryd.prog 42 #[.agg (byteCells l).toArray] w fun e w' => Below w.heap.size w w' ∧ e = .returned (.int .i64 (sumL uns l)) := by
  have Hl := Lib.hid hl
  have hl' : 512 ≤ l.length := by omega
  clear hl
  have H0 := Lib.hid (Holds.new w 79 (byteCells l))
  generalize hB : byteCells l = B at *
  have HB := Lib.hid hB
  clear hB
  go_enter Tryd.func42, Tryd.ntmps42
  go_wp2
  have H1 := H0.out
  have Hb := (Below.refl w.heap.size w).alloc (Nat.le_refl _) (.cells B.toArray 79)
  generalize w.alloc (.cells B.toArray 79) = w1 at *
  have H1' := Lib.hid H1
  have Hb' := Lib.hid Hb
  clear H1 Hb
  go_loop [3, 5] (fun n i => ∃ k : Nat, k ≤ 512 ∧ i = .int .i64 k ∧ n = .int .i64 (sumL uns (l.take k))) (fun _ i => 512 - (intOf i).toNat)
  case atStart => exact ⟨0, Nat.zero_le _, rfl, rfl⟩
  case round =>
    obtain ⟨k, hk, rfl, rfl⟩ := hrel
    have hbd : 0 ≤ sumL uns (l.take k) ∧ sumL uns (l.take k) ≤ 130560 := by
      have h1 := sumL_uns (l.take k)
      have h2 : (l.take k).length ≤ k := List.length_take_le _ _
      omega
    by_cases hlt : k < 512
    · have hkl : k < l.length := by omega
      have hu := byte_lt l[k]
      have hc : w1.cell? ⟨w.heap.size, k, none⟩ = some (.int .u8 l[k].toNat) := by
        have hk2 : k < B.length := by rw [← HB.out, byteCells_length]; exact hkl
        have e : B[k] = (byteCells l)[k]'(by rw [byteCells_length]; exact hkl) := by simp only [HB.out]
        rw [H1'.out.cell (i := k) hk2, e, byteCells_get l k hkl]
      have Hs := Lib.hid (sumL_snoc uns l k hkl)
      go_wp2
      go_round
      case rel => exact ⟨k + 1, by omega, by go_num, by rw [Hs.out]; rfl⟩
      case measure => simp [intOf]; omega
    · have Hs := Lib.hid (show l.take k = l by rw [List.take_of_length_le (by have := Hl.out; omega)])
      go_wp2
      go_ret
      rw [Hs.out]
      exact ⟨Hb'.out, rfl⟩
theorem wrap_i8 (b : UInt8) : IntKind.i8.wrap (b.toNat : Int) = sgn b := by
  have := byte_lt b
  have e : IntKind.i8.wrap (b.toNat : Int) = if (true && decide ((b.toNat : Int) % 2 ^ 8 ≥ 2 ^ (8 - 1))) = true then (b.toNat : Int) % 2 ^ 8 - 2 ^ 8 else (b.toNat : Int) % 2 ^ 8 := rfl
  rw [e]
  unfold sgn
  by_cases h : 128 ≤ (b.toNat : Int)
  · rw [if_pos h, if_pos (by simp; omega)]; omega
  · rw [if_neg h, if_neg (by simp; omega)]; omega

set_option maxRecDepth 100000 in
theorem signed_any (l : List UInt8) (w : World) (hl : l.length = 512) :
    Calls Tryd.prog 43 #[.agg (byteCells l).toArray] w fun e w' => Below w.heap.size w w' ∧ e = .returned (.int .i64 (sumL sgn l)) := by
  have Hl := Lib.hid hl
  have hl' : 512 ≤ l.length := by omega
  clear hl
  have H0 := Lib.hid (Holds.new w 79 (byteCells l))
  generalize hB : byteCells l = B at *
  have HB := Lib.hid hB
  clear hB
  go_enter Tryd.func43, Tryd.ntmps43
  go_wp2
  have H1 := H0.out
  have Hb := (Below.refl w.heap.size w).alloc (Nat.le_refl _) (.cells B.toArray 79)
  generalize w.alloc (.cells B.toArray 79) = w1 at *
  have H1' := Lib.hid H1
  have Hb' := Lib.hid Hb
  clear H1 Hb
  go_loop [3, 5] (fun n i => ∃ k : Nat, k ≤ 512 ∧ i = .int .i64 k ∧ n = .int .i64 (sumL sgn (l.take k))) (fun _ i => 512 - (intOf i).toNat)
  case atStart => exact ⟨0, Nat.zero_le _, rfl, rfl⟩
  case round =>
    obtain ⟨k, hk, rfl, rfl⟩ := hrel
    have hbd : -130560 ≤ sumL sgn (l.take k) ∧ sumL sgn (l.take k) ≤ 130560 := by
      have h1 := sumL_bd true (l.take k)
      have h2 : (l.take k).length ≤ k := List.length_take_le _ _
      change -(255 * ((l.take k).length : Int)) ≤ sumL sgn (l.take k) ∧ sumL sgn (l.take k) ≤ 255 * ((l.take k).length : Int) at h1
      omega
    by_cases hlt : k < 512
    · have hkl : k < l.length := by omega
      have hu := sgn_bd l[k]
      have hc : w1.cell? ⟨w.heap.size, k, none⟩ = some (.int .u8 l[k].toNat) := by
        have hk2 : k < B.length := by rw [← HB.out, byteCells_length]; exact hkl
        have e : B[k] = (byteCells l)[k]'(by rw [byteCells_length]; exact hkl) := by simp only [HB.out]
        rw [H1'.out.cell (i := k) hk2, e, byteCells_get l k hkl]
      have hw := wrap_i8 l[k]
      have Hs := Lib.hid (sumL_snoc sgn l k hkl)
      go_wp2
      go_round
      case rel => exact ⟨k + 1, by omega, by go_num, by rw [Hs.out]⟩
      case measure => simp [intOf]; omega
    · have Hs := Lib.hid (show l.take k = l by rw [List.take_of_length_le (by have := Hl.out; omega)])
      go_wp2
      go_ret
      rw [Hs.out]
      exact ⟨Hb'.out, rfl⟩

/-- A block's sum; of any other text the error. -/
def sSum (s : Bool) (l : List UInt8) : Int × Int := if l.length = 512 then (bSum s l, 0) else (0, 1)

theorem sSum_any (l : List UInt8) (w : World) :
    Calls Tryd.prog 54 #[.string ⟨l.toArray⟩] w fun e w' => Below w.heap.size w w' ∧ e = .returned (.tuple #[.int .i64 (sSum false l).1, .int .i64 (sSum false l).2]) := by
  by_cases h : l.length = 512
  · have Hn := Lib.hid (numbersOf_any l w h)
    have Hs := Lib.hid (fun w1 => sum_any (blanked l) w1 (blanked_length l h))
    have Hq := Lib.hid (show sSum false l = (sumL uns (blanked l), 0) from if_pos h)
    have e1 : ((l.length : Int) != 512) = false := by simp [h]
    have hbd := Lib.hid (sumL_uns (blanked l))
    clear h
    go_enter Tryd.func54, Tryd.ntmps54
    go_wp2_with fail
    refine Hn.out.mono ?_
    rintro e w1 ⟨hb1, rfl⟩
    have Hb1 := Lib.hid hb1
    clear hb1
    generalize hB : byteCells (blanked l) = B at *
    have HB := Lib.hid hB
    clear hB
    go_wp2_with fail
    refine (Hs.out w1).mono ?_
    rintro e w2 ⟨hb2, rfl⟩
    have Hb2 := Lib.hid (Hb1.out.trans (hb2.mono Hb1.out.size))
    clear hb2
    go_wp2
    go_ret2
    rw [Hq.out]
    exact ⟨Hb2.out, rfl⟩
  · have Hq := Lib.hid (show sSum false l = (0, 1) from if_neg h)
    have e1 : ((l.length : Int) != 512) = true := by rw [bne_iff_ne]; omega
    clear h
    go_enter Tryd.func54, Tryd.ntmps54
    go_wp2
    go_ret2
    rw [Hq.out]
    exact ⟨Below.refl _ _, rfl⟩

set_option maxRecDepth 100000 in
theorem refSum_any (l : List UInt8) (s : Bool) (w : World) (hl : l.length = 512) :
    Calls Tryd.prog 39 #[.string ⟨l.toArray⟩, .bool s] w fun e w' => e = .returned (.int .i64 (bSum s l)) ∧ w = w' := by
  have Hl := Lib.hid hl
  have hl' : 512 ≤ l.length := by omega
  clear hl
  have Hbl := Lib.hid (blanked_length l Hl.out)
  go_enter Tryd.func39, Tryd.ntmps39
  go_wp2
  go_loop [5, 6] (fun n i => ∃ k : Nat, k ≤ 512 ∧ i = .int .i64 k ∧ n = .int .i64 (sumL (val s) ((blanked l).take k))) (fun _ i => 512 - (intOf i).toNat)
  case atStart => exact ⟨0, Nat.zero_le _, rfl, rfl⟩
  case round =>
    obtain ⟨k, hk, rfl, rfl⟩ := hrel
    have hbd : -130560 ≤ sumL (val s) ((blanked l).take k) ∧ sumL (val s) ((blanked l).take k) ≤ 130560 := by
      have h1 := sumL_bd s ((blanked l).take k)
      have h2 : ((blanked l).take k).length ≤ k := List.length_take_le _ _
      omega
    by_cases hlt : k < 512
    · have hkl : k < l.length := by omega
      have hu := byte_lt l[k]
      have Hs := Lib.hid (sumL_snoc (val s) (blanked l) k (by rw [Hbl.out]; exact hlt))
      have Hg := Lib.hid (blanked_get l Hl.out k hlt)
      generalize sumL (val s) ((blanked l).take k) = X at *
      by_cases h1 : 148 ≤ k
      · by_cases h2 : k ≤ 155
        · have Hv := Lib.hid (show sumL (val s) ((blanked l).take (k + 1)) = X + 32 by rw [Hs.out, Hg.out, if_pos ⟨h1, h2⟩]; cases s <;> rfl)
          have d1 : decide (148 ≤ (k : Int)) = true := by simp; omega
          go_wp2
          go_round
          case rel => exact ⟨k + 1, by omega, by go_num, by rw [Hv.out]⟩
          case measure => simp [intOf]; omega
        · have Hv := Lib.hid (show sumL (val s) ((blanked l).take (k + 1)) = X + val s l[k] by rw [Hs.out, Hg.out, if_neg (by omega)])
          have d1 : decide (148 ≤ (k : Int)) = true := by simp; omega
          have d2 : decide ((k : Int) ≤ 155) = false := by simp; omega
          cases s
          · go_wp2
            go_round
            case rel => exact ⟨k + 1, by omega, by go_num, by rw [Hv.out]; rfl⟩
            case measure => simp [intOf]; omega
          · by_cases h3 : 128 ≤ (l[k].toNat : Int)
            · have Hw := Lib.hid (show val true l[k] = (l[k].toNat : Int) - 256 from if_pos h3)
              have d3 : decide (128 ≤ (l[k].toNat : Int)) = true := by simpa using h3
              go_wp2
              go_round
              case rel => exact ⟨k + 1, by omega, by go_num, by rw [Hv.out, Hw.out]⟩
              case measure => simp [intOf]; omega
            · have Hw := Lib.hid (show val true l[k] = (l[k].toNat : Int) from if_neg h3)
              have d3 : decide (128 ≤ (l[k].toNat : Int)) = false := by simpa using h3
              go_wp2
              go_round
              case rel => exact ⟨k + 1, by omega, by go_num, by rw [Hv.out, Hw.out]⟩
              case measure => simp [intOf]; omega
      · have Hv := Lib.hid (show sumL (val s) ((blanked l).take (k + 1)) = X + val s l[k] by rw [Hs.out, Hg.out, if_neg (by omega)])
        have d1 : decide (148 ≤ (k : Int)) = false := by simp; omega
        cases s
        · go_wp2
          go_round
          case rel => exact ⟨k + 1, by omega, by go_num, by rw [Hv.out]; rfl⟩
          case measure => simp [intOf]; omega
        · by_cases h3 : 128 ≤ (l[k].toNat : Int)
          · have Hw := Lib.hid (show val true l[k] = (l[k].toNat : Int) - 256 from if_pos h3)
            have d3 : decide (128 ≤ (l[k].toNat : Int)) = true := by simpa using h3
            go_wp2
            go_round
            case rel => exact ⟨k + 1, by omega, by go_num, by rw [Hv.out, Hw.out]⟩
            case measure => simp [intOf]; omega
          · have Hw := Lib.hid (show val true l[k] = (l[k].toNat : Int) from if_neg h3)
            have d3 : decide (128 ≤ (l[k].toNat : Int)) = false := by simpa using h3
            go_wp2
            go_round
            case rel => exact ⟨k + 1, by omega, by go_num, by rw [Hv.out, Hw.out]⟩
            case measure => simp [intOf]; omega
    · have Hs := Lib.hid (show (blanked l).take k = blanked l by rw [List.take_of_length_le (by have := Hbl.out; omega)])
      go_wp2
      go_ret
      rw [Hs.out]
      exact ⟨rfl, rfl⟩
end Go.Proofs.YtlloaalaldomkaaDoor
