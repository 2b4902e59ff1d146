/-
  Texts laid over a block, and a head's block. No row of the program is read here.
-/
import Derived.Test.YtlloaalaldomkaaDoorHdP
namespace Go.Proofs.YtlloaalaldomkaaDoor
open Go.ChangeShapes Go.WideShapes Go.ChangeAt Go.RowKit

/-- A text laid over bytes, from place o on. -/
def over (L : List UInt8) (o : Nat) (s : List UInt8) : List UInt8 := L.take o ++ (s ++ L.drop (o + s.length))
theorem over_length (L : List UInt8) (o : Nat) (s : List UInt8) (h : o + s.length ≤ L.length) : (over L o s).length = L.length := by simp [over]; omega

def wl (h : Hd) (L : List UInt8) : Nat → List UInt8
  | 0 => L
  | k + 1 => over (wl h L k) (plS (wordF k)) (wt h k)
def nl (h : Hd) (L : List UInt8) : Nat → List UInt8
  | 0 => L
  | k + 1 => over (nl h L k) (plS (numF k)) (octStr (nv h k) (plN (numF k)))
theorem octStr_length (v : Int) (n : Nat) (h : 1 ≤ n) : (octStr v n).length = n := by simp [octStr]; omega
theorem wordF_lt (k : Nat) (h : k < 3) : wordF k < 15 := by rcases lt3 h with rfl | rfl | rfl <;> decide
theorem numF_lt (k : Nat) (h : k < 7) : numF k < 15 := by rcases lt7 h with rfl | rfl | rfl | rfl | rfl | rfl | rfl <;> decide
theorem wl_length (h : Hd) (L : List UInt8) (hL : L.length = 512) (hw : ∀ k, k < 3 → (wt h k).length ≤ plN (wordF k)) : ∀ k, k ≤ 3 → (wl h L k).length = 512 := by
  intro k
  induction k with
  | zero => intro _; exact hL
  | succ k ih =>
    intro hk
    have := pl_bd (wordF k) (wordF_lt k (by omega))
    have := hw k (by omega)
    have ih := ih (by omega)
    show (over _ _ _).length = 512
    rw [over_length _ _ _ (by omega), ih]
theorem nl_length (h : Hd) (L : List UInt8) (hL : L.length = 512) : ∀ k, k ≤ 7 → (nl h L k).length = 512 := by
  intro k
  induction k with
  | zero => intro _; exact hL
  | succ k ih =>
    intro hk
    have := pl_bd (numF k) (numF_lt k (by omega))
    have ih := ih (by omega)
    show (over _ _ _).length = 512
    rw [over_length _ _ _ (by rw [octStr_length _ _ (by omega)]; omega), ih]

def hdKind (k : Int) : Int := if k = 0 then 48 else k
def hdMark : List UInt8 := [117, 115, 116, 97, 114, 0, 48, 48]
def hdRaw (h : Hd) (p b : List UInt8) : List UInt8 :=
  over (over (nl h (wl h (over (over (List.replicate 512 0) 345 p) 0 b) 3) 7) 156 [UInt8.ofNat (hdKind h.kind).toNat]) 257 hdMark

/-- What fits, in parts. -/
theorem fits_parts (h : Hd) (hf : hdFits h = 0) : hdNul h = false ∧ hdTexts h = true ∧ hdNums h = true := by
  unfold hdFits at hf
  cases h1 : hdNul h <;> cases h2 : hdTexts h <;> cases h3 : hdNums h <;> simp_all
theorem fits_words (h : Hd) (hf : hdFits h = 0) : ∀ k, k < 3 → (wt h k).length ≤ plN (wordF k) := by
  intro k hk
  rcases Nat.lt_or_ge (plN (wordF k)) (wt h k).length with hl | hl
  · have := hdTexts_word h k hk hl
    rw [(fits_parts h hf).2.1] at this
    cases this
  · exact hl
theorem fits_nums (h : Hd) (hf : hdFits h = 0) : ∀ k, k < 7 → octalOf (nv h k) (plN (numF k)) = some (octStr (nv h k) (plN (numF k))) := by
  intro k hk
  cases hq : (octalOf (nv h k) (plN (numF k))).isSome
  · have := hdNums_no h k hk hq
    rw [(fits_parts h hf).2.2] at this
    cases this
  · unfold octalOf at hq ⊢
    split
    · rw [Int.toNat_natCast]
    · rename_i hn
      rw [if_neg hn] at hq
      cases hq
theorem fits_part (h : Hd) (hf : hdFits h = 0) : ∃ p b, txtPart h.name = some (p, b) ∧ p.length ≤ 155 ∧ b.length ≤ 100 := by
  have h2 := (fits_parts h hf).2.1
  unfold hdTexts at h2
  have h3 := (of_decide_eq_true h2).2.2.2
  cases hq : txtPart h.name with
  | none => rw [hq] at h3; cases h3
  | some x =>
    obtain ⟨p, b⟩ := x
    have := part_join h.name p b hq
    exact ⟨p, b, rfl, this.2.1, this.2.2⟩
theorem fits_nul (h : Hd) (hf : hdFits h = 0) : 0 ∉ h.link ∧ 0 ∉ h.uname ∧ 0 ∉ h.gname ∧ 0 ∉ h.name := by
  have h1 := (fits_parts h hf).1
  unfold hdNul at h1
  have := of_decide_eq_false h1
  simpa using this
end Go.Proofs.YtlloaalaldomkaaDoor
