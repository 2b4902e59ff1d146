/-
  Bytes that a conversion made, and copies into them.
-/
import Derived.Test.YtlloaalaldomkaaDoorHdN
import Derived.Laws.IdiomCopy
import Derived.Laws.IdiomStrings
namespace Go.Proofs.YtlloaalaldomkaaDoor
open Go.ChangeShapes Go.WideShapes Go.ChangeAt Go.RowKit

/-- Bytes that lie in a block, and may be written. -/
def BytesAt (w : World) (g : Nat) (L : List UInt8) : Prop := g < w.heap.size ∧ ∀ j (h : j < L.length), w.cell? ⟨g, j, none⟩ = some (.int .u8 L[j].toNat) ∧ w.frozen? ⟨g, j, none⟩ = false
theorem BytesAt.under {B g : Nat} {w w' : World} {L : List UInt8} (h : BytesAt w g L) (hb : Below B w w') (hg : g < B) : BytesAt w' g L :=
  ⟨Nat.lt_of_lt_of_le h.1 hb.size, fun j hj => ⟨by rw [hb.cell (p := ⟨g, j, none⟩) hg]; exact (h.2 j hj).1, by rw [hb.frozen (p := ⟨g, j, none⟩) hg]; exact (h.2 j hj).2⟩⟩
theorem BytesAt.conv {g n cap : Nat} {w : World} {L : List UInt8} (h : BytesAt w g L) (hl : L.length = n) :
    (convert 39 9 (.slice (some ⟨g, 0, none⟩) n cap)).run Tryd.prog w = .ok (.string ⟨L.toArray⟩) w := by
  have := run_convert_bytes_back (P := Tryd.prog) w 39 9 5 ⟨g, 0, none⟩ cap L Tryd.underlying39 Tryd.underlying5 Tryd.underlying9 (fun j hj => by
    have hadd : (⟨g, 0, none⟩ : Addr).add j = ⟨g, j, none⟩ := by unfold Addr.add; split <;> simp_all
    rw [hadd]
    exact (h.2 j hj).1)
  rwa [hl] at this
/-- '[]byte(s)'. -/
theorem bytes_at (c : List UInt8) (w : World) : ∃ cap w3, (convert 9 39 (.string ⟨c.toArray⟩)).run Tryd.prog w = .ok (.slice (some ⟨w.heap.size, 0, none⟩) c.length cap) w3 ∧ c.length ≤ cap ∧ BytesAt w3 w.heap.size c ∧ Below w.heap.size w w3 := by
  have hr := run_bytes_of_string (P := Tryd.prog) w 9 39 5 ⟨c.toArray⟩ Tryd.underlying9 Tryd.underlying39 Tryd.underlying5
  have hsz : (⟨c.toArray⟩ : ByteArray).size = c.length := rfl
  rw [hsz] at hr
  refine ⟨_, _, hr, ?_, ⟨?_, fun j hj => ⟨?_, ?_⟩⟩, ?_⟩
  · exact grownCap_ge w c.length 0 5
  · simp
  · rw [show w.heap.size = w.drew.heap.size from rfl, World.cell?_alloc_mark]
    exact bytesRow_at ⟨c.toArray⟩ _ j hj
  · rw [show w.heap.size = w.drew.heap.size from rfl, World.frozen?_alloc_mark]
    have hlt : j < (bytesRow ⟨c.toArray⟩ (grownCap w c.length 0 5)).size := by
      have := Array.getElem?_eq_some_iff.1 (bytesRow_at ⟨c.toArray⟩ (grownCap w c.length 0 5) j hj)
      exact this.1
    rw [decide_eq_false (by omega)]; rfl
  · exact (Below.drew (Below.refl _ _)).alloc (Nat.le_refl _) _

theorem setCells_size (b : Nat) : ∀ (vs : List Value) (o : Nat) (w : World), (w.setCells b o vs).heap.size = w.heap.size
  | [], _, _ => rfl
  | v :: r, o, w => by rw [World.setCells, setCells_size b r]; simp
theorem below_setCells {B : Nat} {w0 : World} (b : Nat) (hB : B ≤ b) : ∀ (vs : List Value) (o : Nat) (w : World), Below B w0 w → Below B w0 (w.setCells b o vs)
  | [], _, _, h => h
  | v :: r, o, w, h => by
    rw [World.setCells]
    exact below_setCells b hB r (o + 1) _ (h.setCell hB v)
theorem over_get (L : List UInt8) (o : Nat) (t : List UInt8) (h : o + t.length ≤ L.length) (j : Nat) (hj : j < L.length) :
    (over L o t)[j]'(by rw [over_length L o t h]; exact hj) = if hx : o ≤ j ∧ j < o + t.length then t[j - o]'(by omega) else L[j] := by
  unfold over
  by_cases h1 : j < o
  · rw [List.getElem_append_left (by simp; omega), dif_neg (by omega), List.getElem_take]
  · rw [List.getElem_append_right (by simp; omega)]
    have hl : (L.take o).length = o := by rw [List.length_take]; omega
    simp only [hl]
    by_cases h2 : j < o + t.length
    · rw [List.getElem_append_left (by omega), dif_pos ⟨by omega, h2⟩]
    · rw [List.getElem_append_right (by omega), dif_neg (by omega), List.getElem_drop]
      congr 1
      omega
theorem BytesAt.copied {g o : Nat} {w : World} {L : List UInt8} (h : BytesAt w g L) (t : List UInt8) (ho : o + t.length ≤ L.length) : BytesAt (w.setCells g o (byteCells t)) g (over L o t) := by
  refine ⟨by rw [setCells_size]; exact h.1, fun j hj => ?_⟩
  have hjL : j < L.length := by rw [over_length L o t ho] at hj; exact hj
  rw [World.frozen?_setCells]
  refine ⟨?_, (h.2 j hjL).2⟩
  rw [over_get L o t ho j hjL]
  split
  · rename_i hx
    have := World.cell?_setCells_in g (byteCells t) o w (fun i hi => by rw [byteCells_length] at hi; rw [(h.2 (o + i) (by omega)).1]; rfl) (j - o) (by rw [byteCells_length]; omega)
    rw [show o + (j - o) = j by omega] at this
    rw [this, byteCells_get _ _ (by omega)]
  · rename_i hx
    rw [World.cell?_setCells_out g (byteCells t) o w ⟨g, j, none⟩ (fun _ _ => by rw [byteCells_length]; show j < o ∨ o + t.length ≤ j; omega)]
    exact (h.2 j hjL).1
/-- 'copy(dst, s)', s a text, dst in such bytes. -/
theorem run_copy_at {g : Nat} {w : World} {L : List UInt8} (h : BytesAt w g L) (o n cap : Nat) (s : List UInt8) (ho : o + n ≤ L.length) :
    (Builtin.copy_ #[39, 9] 3 #[.slice (some ⟨g, o, none⟩) n cap, .string ⟨s.toArray⟩]).run Tryd.prog w = .ok (goInt ((min s.length n : Nat) : Int)) (w.setCells g o (byteCells (s.take n))) := by
  have hlen : (byteCells (s.take n)).length = min s.length n := by rw [byteCells_length, List.length_take]; omega
  have hst := run_storeCells_cells (P := Tryd.prog) g o (byteCells (s.take n)) 0 w (fun j hj => by
      rw [hlen] at hj
      rw [Nat.add_zero, (h.2 (o + j) (by omega)).1]; rfl) (fun j hj => by
      rw [hlen] at hj
      rw [Nat.add_zero]; exact (h.2 (o + j) (by omega)).2) (fun v hv => by
      simp only [byteCells, List.mem_map] at hv
      obtain ⟨b, _, rfl⟩ := hv
      rfl)
  have htk : List.take (min s.length n) (List.map (fun b : UInt8 => Value.int IntKind.u8 (b.toNat : Int)) s) = byteCells (s.take n) := by
    unfold byteCells
    rw [List.map_take]
    rcases Nat.le_total s.length n with hle | hle
    · rw [Nat.min_eq_left hle, List.take_of_length_le (by simp), List.take_of_length_le (by simpa using hle)]
    · rw [Nat.min_eq_right hle]
  have hi : (Tryd.prog.info? 5).map (·.size) = some 1 := by kernel_rfl
  cases hq : Tryd.prog.info? 5 with
  | none => simp [hq] at hi
  | some i =>
    have hmin : s.length.min n = min s.length n := rfl
    simp [Builtin.copy_, run_underlying Tryd.underlying39, Builtin.lenOf, Builtin.firstCells, sizeOf, typeInfo, hq, ByteArray.size]
    rw [hmin, htk]
    rw [Nat.add_zero] at hst
    rw [hst]
    simp [Result.andThen]
end Go.Proofs.YtlloaalaldomkaaDoor
