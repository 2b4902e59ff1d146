/-
  Bytes that a conversion made.
-/
import Derived.Test.YtmblbmkkeloegaaBase
import Derived.Test.YtmblbmkkeloegaaChecked
import Derived.Laws.IdiomCopy
import Derived.Laws.IdiomStrings
import Derived.Lib.SlBytesConst
import Derived.Test.YtmblbmkkeloegaaMem
namespace Go.Proofs.Ytmblbmkkeloegaa
open Go.ChangeShapes Go.WideShapes Go.ChangeAt Go.RowKit

/-- Bytes that lie in a block, and may be written. -/
def BytesAt (w : World) (g : Nat) (L : List UInt8) : Prop := g < w.heap.size ∧ ∀ j (h : j < L.length), w.cell? ⟨g, j, none⟩ = some (.int .u8 L[j].toNat) ∧ w.frozen? ⟨g, j, none⟩ = false
theorem BytesAt.under {B g : Nat} {w w' : World} {L : List UInt8} (h : BytesAt w g L) (hb : Below B w w') (hg : g < B) : BytesAt w' g L :=
  ⟨Nat.lt_of_lt_of_le h.1 hb.size, fun j hj => ⟨by rw [hb.cell (p := ⟨g, j, none⟩) hg]; exact (h.2 j hj).1, by rw [hb.frozen (p := ⟨g, j, none⟩) hg]; exact (h.2 j hj).2⟩⟩
theorem BytesAt.conv {g n cap : Nat} {w : World} {L : List UInt8} (h : BytesAt w g L) (hl : L.length = n) :
    (convert 36 9 (.slice (some ⟨g, 0, none⟩) n cap)).run Try.prog w = .ok (.string ⟨L.toArray⟩) w := by
  have := run_convert_bytes_back (P := Try.prog) w 36 9 5 ⟨g, 0, none⟩ cap L Try.underlying36 Try.underlying5 Try.underlying9 (fun j hj => by
    have hadd : (⟨g, 0, none⟩ : Addr).add j = ⟨g, j, none⟩ := by unfold Addr.add; split <;> simp_all
    rw [hadd]
    exact (h.2 j hj).1)
  rwa [hl] at this
/-- '[]byte(s)'. -/
theorem bytes_at (c : List UInt8) (w : World) : ∃ cap w3, (convert 9 36 (.string ⟨c.toArray⟩)).run Try.prog w = .ok (.slice (some ⟨w.heap.size, 0, none⟩) c.length cap) w3 ∧ c.length ≤ cap ∧ BytesAt w3 w.heap.size c ∧ Below w.heap.size w w3 := by
  have hr := run_bytes_of_string (P := Try.prog) w 9 36 5 ⟨c.toArray⟩ Try.underlying9 Try.underlying36 Try.underlying5
  have hsz : (⟨c.toArray⟩ : ByteArray).size = c.length := rfl
  rw [hsz] at hr
  refine ⟨_, _, hr, ?_, ⟨?_, fun j hj => ⟨?_, ?_⟩⟩, ?_⟩
  · exact grownCap_ge w c.length 0 5
  · simp
  · rw [show w.heap.size = w.drew.heap.size from rfl, World.cell?_alloc_mark]
    exact bytesRow_at ⟨c.toArray⟩ _ j hj
  · rw [show w.heap.size = w.drew.heap.size from rfl, World.frozen?_alloc_mark]
    have hlt : j < (bytesRow ⟨c.toArray⟩ (grownCap w c.length 0 5)).size := by
      have := Array.getElem?_eq_some_iff.1 (bytesRow_at ⟨c.toArray⟩ (grownCap w c.length 0 5) j hj)
      exact this.1
    rw [decide_eq_false (by omega)]; rfl
  · exact (Below.drew (Below.refl _ _)).alloc (Nat.le_refl _) _

/-- '[]byte("..")' of a literal. -/
theorem lit_at (c : List UInt8) (w : World) : ∃ w3, (convert 36 36 (.slice (some ⟨w.heap.size, 0, none⟩) c.length c.length)).run Try.prog (w.alloc (.cells (byteCells c).toArray 5)) = .ok (.slice (some ⟨w.heap.size, 0, none⟩) c.length c.length) w3 ∧ BytesAt w3 w.heap.size c ∧ Below w.heap.size w w3 := by
  have hr := Lib.run_convert_bytes_const (P := Try.prog) w 36 5 (byteCells c).toArray c.length c.length Try.underlying36 Try.underlying5
  refine ⟨_, hr, ⟨by simp, fun j hj => ⟨?_, ?_⟩⟩, (Below.refl _ _).alloc (Nat.le_refl _) _⟩
  · rw [World.cell?_alloc_mark]
    have hj2 : j < (byteCells c).length := by rw [byteCells_length]; exact hj
    simp only [List.getElem?_toArray]
    rw [List.getElem?_eq_getElem hj2, byteCells_get c j hj]
  · rw [World.frozen?_alloc_mark]
    have : (byteCells c).toArray.size = c.length := by simp [byteCells_length]
    rw [this, decide_eq_false (by omega)]; rfl
end Go.Proofs.Ytmblbmkkeloegaa
