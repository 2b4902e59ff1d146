/-
  The block that the statements of layer 3 make, and the chapter's example.
-/
import Derived.Test.YtnlldpcgmbilaaaDoorSumS
namespace Go.Proofs.YtnlldpcgmbilaaaDoor
open Go.ChangeShapes Go.WideShapes Go.ChangeAt Go.RowKit

/-- 'copy(dst, s)', s a text, dst in a block of bytes that is known whole. -/
theorem run_copy_text {P : Program} (dT sT ty e : TypeId) (hu : P.underlying dT = some (.slice e)) (hs : (P.info? e).map (·.size) = some 1)
    {w : World} {g : Nat} {t : TypeId} {L : List UInt8} (h : Holds w g t (byteCells L)) (o n cap : Nat) (s : List UInt8) (hfit : o + n ≤ L.length) :
    ∃ L' : List UInt8, L'.length = L.length ∧ (Builtin.copy_ #[dT, sT] ty #[.slice (some ⟨g, o, none⟩) n cap, .string ⟨s.toArray⟩]).run P w = .ok (goInt ((min s.length n : Nat) : Int)) (w.setRow g (byteCells L').toArray) := by
  refine ⟨L.take o ++ (s.take n ++ L.drop (o + min s.length n)), by simp; omega, ?_⟩
  have hlen : (byteCells (s.take n)).length = min s.length n := by rw [byteCells_length, List.length_take]; omega
  have hone : ∀ v ∈ byteCells (s.take n), v.oneCell' = true := by
    intro v hv
    simp only [byteCells, List.mem_map] at hv
    obtain ⟨b, _, rfl⟩ := hv
    rfl
  have hst := run_storeCells_at (P := P) g o t (byteCells (s.take n)) 0 (byteCells L).toArray w h (by rw [hlen]; simp [byteCells_length]; omega) hone
  have htk : List.take (min s.length n) (List.map (fun b : UInt8 => Value.int IntKind.u8 (b.toNat : Int)) s) = byteCells (s.take n) := by
    unfold byteCells
    rw [List.map_take]
    rcases Nat.le_total s.length n with hle | hle
    · rw [Nat.min_eq_left hle, List.take_of_length_le (by simp), List.take_of_length_le (by simpa using hle)]
    · rw [Nat.min_eq_right hle]
  have hrow : (byteCells (L.take o ++ (s.take n ++ L.drop (o + min s.length n)))).toArray = ((byteCells L).toArray.toList.take (o + 0) ++ byteCells (s.take n) ++ (byteCells L).toArray.toList.drop (o + 0 + (byteCells (s.take n)).length)).toArray := by
    rw [hlen]
    simp [byteCells, List.map_take, List.map_drop]
  rw [hrow]
  cases hq : P.info? e with
  | none => simp [hq] at hs
  | some i =>
    have hmin : s.length.min n = min s.length n := rfl
    simp [Builtin.copy_, run_underlying hu, Builtin.lenOf, Builtin.firstCells, sizeOf, typeInfo, hq, ByteArray.size]
    rw [hmin, htk, hst]
    simp [Result.andThen]

/-- The block: some 512 bytes. -/
def SomeBlock (w : World) (e : Ending) (w' : World) : Prop := Below w.heap.size w w' ∧ ∃ b : List UInt8, b.length = 512 ∧ e = .returned (.string ⟨b.toArray⟩)

set_option maxRecDepth 100000 in
theorem block_any (s f : List UInt8) (w : World) (hs : s.length ≤ maxLen) :
    Calls Tryd.prog 6 #[.string ⟨s.toArray⟩, .string ⟨f.toArray⟩] w (SomeBlock w) := by
  unfold maxLen at hs
  obtain ⟨L0, hL0⟩ : ∃ L : List UInt8, L = List.replicate 512 0 := ⟨_, rfl⟩
  have h0 := Lib.hid (show L0.length = 512 by rw [hL0, List.length_replicate])
  have hmk : ∀ w : World, (Instr.makeSlice 34 (.int .i64 512) (.int .i64 512)).run Tryd.prog w = .ok (.slice (some ⟨w.heap.size, 0, none⟩) 512 512) (w.alloc (.cells (byteCells L0).toArray 5)) := by
    rw [hL0]
    exact run_make_bytes (P := Tryd.prog) 34 5 Tryd.underlying34 info_u8 512 (by omega)
  clear hL0
  go_enter Tryd.func6, Tryd.ntmps6
  go_wp2
  go_loopw [10] (fun i wr => ∃ k : Nat, k ≤ 512 ∧ i = .int .i64 k ∧ Below w.heap.size w wr ∧ ∃ L : List UInt8, L.length = 512 ∧ Holds wr w.heap.size 5 (byteCells L)) (fun i _ => 512 - (intOf i).toNat)
  case atStart => exact ⟨0, Nat.zero_le _, rfl, (Below.refl _ _).alloc (Nat.le_refl _) _, L0, h0.out, Holds.new _ _ _⟩
  case round =>
    obtain ⟨k, hk, rfl, hb, L, hL, hh⟩ := hrel
    have Hh := Lib.hid hh
    have Hb := Lib.hid hb
    have HL := Lib.hid hL
    clear hh hb hL
    by_cases hlt : k < 512
    · by_cases hs0 : 0 < s.length
      · have hkL : k < L.length := by have := HL.out; omega
        have hc : wr.cell? ⟨w.heap.size, k, none⟩ = some (.int .u8 L[k].toNat) := by
          rw [Hh.out.cell (i := k) (by rw [byteCells_length]; exact hkL), byteCells_get]
        have hf : wr.frozen? ⟨w.heap.size, k, none⟩ = false := Hh.out.frozen k
        have hm0 : 0 ≤ (k : Int) % (s.length : Int) := Int.emod_nonneg _ (by omega)
        have hm1 : (k : Int) % (s.length : Int) < (s.length : Int) := Int.emod_lt_of_pos _ (by omega)
        go_wp2
        have hks : ((k : Int) % (s.length : Int)).toNat < s.length := by omega
        have hp := Hh.out.put k (.int .u8 (s[((k : Int) % (s.length : Int)).toNat]'hks).toNat)
        rw [byteCells_set _ _ _ (by omega) (byte_lt _)] at hp
        refine ⟨⟨k + 1, by omega, by go_num, Hb.out.setCell (Nat.le_refl _) _, L.set k _, by rw [List.length_set]; exact HL.out, hp⟩, ?_⟩
        simp [intOf]; omega
      · go_wp2
        refine ⟨⟨k + 1, by omega, by go_num, Hb.out, L, HL.out, Hh.out⟩, ?_⟩
        simp [intOf]; omega
    · obtain ⟨L', hl', hcp⟩ := run_copy_text (P := Tryd.prog) 34 9 3 5 Tryd.underlying34 (by kernel_rfl) Hh.out 148 8 364 f (by rw [HL.out]; omega)
      have Hl' := Lib.hid (hl'.trans HL.out)
      clear hl'
      have hh2 : Holds (wr.setRow w.heap.size (byteCells L').toArray) w.heap.size 5 (byteCells L') := setRow_heap _ _ _ _ _ _ Hh.out
      have hconv := run_bytes_string (P := Tryd.prog) 34 5 9 Tryd.underlying34 Tryd.underlying5 Tryd.underlying9 hh2 512 Hl'.out.symm 512
      clear hh2
      go_wp2
      go_ret
      exact ⟨below_setRow Hb.out (Nat.le_refl _) _, L', Hl'.out, rfl⟩

theorem awake3_any (w : World) :
    Calls Tryd.prog 12 #[] w fun e w' => Below w.heap.size w w' ∧ e = .returned (.bool true) := by
  obtain ⟨L0, hL0⟩ : ∃ L : List UInt8, L = List.replicate 512 0 := ⟨_, rfl⟩
  have Hlen := Lib.hid (show L0.length = 512 by rw [hL0, List.length_replicate])
  have hmk : ∀ w : World, (Instr.makeSlice 34 (.int .i64 512) (.int .i64 512)).run Tryd.prog w = .ok (.slice (some ⟨w.heap.size, 0, none⟩) 512 512) (w.alloc (.cells (byteCells L0).toArray 5)) := by
    rw [hL0]
    exact run_make_bytes (P := Tryd.prog) 34 5 Tryd.underlying34 info_u8 512 (by omega)
  have hconv : ∀ w : World, (convert 34 9 (.slice (some ⟨w.heap.size, 0, none⟩) 512 512)).run Tryd.prog (w.alloc (.cells (byteCells L0).toArray 5)) = .ok (.string ⟨L0.toArray⟩) (w.alloc (.cells (byteCells L0).toArray 5)) := fun w =>
    run_bytes_string (P := Tryd.prog) 34 5 9 Tryd.underlying34 Tryd.underlying5 Tryd.underlying9 (Holds.new w 5 (byteCells L0)) 512 Hlen.out.symm 512
  have Hs := Lib.hid (sSum_any L0)
  have hq : sSum false L0 = (256, 0) := by unfold sSum; rw [if_pos Hlen.out, hL0, bSum_nought]
  rw [hq] at Hs
  have Hb := Lib.hid (sBlank_any L0)
  have hq2 : sBlank L0 = true := by rw [hL0]; exact blank_nought
  rw [hq2] at Hb
  have Hr := Lib.hid (sRight_any L0)
  have hq3 : sRight L0 = false := by rw [hL0]; exact right_nought
  rw [hq3] at Hr
  clear hL0 hq hq2 hq3
  go_enter Tryd.func12, Tryd.ntmps12
  go_wp2_with fail
  refine (Hs.out _).mono ?_
  rintro e w1 ⟨hb1, rfl⟩
  have Hb1 := Lib.hid (((Below.refl w.heap.size w).alloc (Nat.le_refl _) _).trans (hb1.mono (by rw [World.size_alloc]; omega)))
  clear hb1
  go_wp2_with fail
  refine (Hb.out _).mono ?_
  rintro e w2 ⟨hb2, rfl⟩
  have Hb2 := Lib.hid ((Hb1.out.alloc Hb1.out.size _).trans (hb2.mono (by rw [World.size_alloc]; have := Hb1.out.size; omega)))
  clear hb2
  go_wp2_with fail
  refine (Hr.out _).mono ?_
  rintro e w3 ⟨hb3, rfl⟩
  have Hb3 := Lib.hid ((Hb2.out.alloc Hb2.out.size _).trans (hb3.mono (by rw [World.size_alloc]; have := Hb2.out.size; omega)))
  clear hb3
  go_wp2
  go_ret
  exact ⟨Hb3.out, rfl⟩
end Go.Proofs.YtnlldpcgmbilaaaDoor
