/-
  Bytes that came in, where they lie. No row of the program is read here.
-/
import Derived.Test.YtmblbmkkeloegaaBase
namespace Go.Proofs.Ytmblbmkkeloegaa
open Go.ChangeShapes Go.WideShapes Go.ChangeAt Go.RowKit

/-- Bytes that came in. -/
def RowAt (w : World) (ad : Option Addr) (n : Nat) : Prop :=
  n = 0 ∨ ∃ b o, ad = some ⟨b, o, none⟩ ∧ b < w.heap.size ∧ ∀ i, i < n → ∃ x : Int, 0 ≤ x ∧ x < 256 ∧ w.cell? ⟨b, o + i, none⟩ = some (.int .u8 x)

theorem RowAt.at {w w' : World} {ad : Option Addr} {n : Nat} (h : RowAt w ad n) (hb : Below w.heap.size w w') {i : Nat} (hi : i < n) :
    ∃ b o, ad = some ⟨b, o, none⟩ ∧ ∃ x : Int, 0 ≤ x ∧ x < 256 ∧ w'.cell? ⟨b, o + i, none⟩ = some (.int .u8 x) := by
  rcases h with h | ⟨b, o, ha, hlt, h⟩
  · omega
  · obtain ⟨x, h0, h1, h2⟩ := h i hi
    exact ⟨b, o, ha, x, h0, h1, by rw [hb.cell (p := ⟨b, o + i, none⟩) hlt]; exact h2⟩
end Go.Proofs.Ytmblbmkkeloegaa
