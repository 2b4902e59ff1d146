/-
  Plain functions on chunks that wait. No row of the program is read here.
-/
import Derived.Test.YtmblbmkkeloegaaBase
import Derived.Test.YtmblbmkkeloegaaMem
namespace Go.Proofs.Ytmblbmkkeloegaa
open Go.ChangeShapes Go.WideShapes Go.ChangeAt Go.RowKit

abbrev strV (l : List UInt8) : Value := .string ⟨l.toArray⟩

/-- The chunks without their first n bytes. -/
def dropL : List (List UInt8) → Nat → List (List UInt8)
  | [], _ => []
  | c :: l, n => if n < c.length then c.drop n :: dropL l 0 else dropL l (n - c.length)

/-- Every chunk has a byte at least. -/
def Full (L : List (List UInt8)) : Prop := ∀ c ∈ L, 0 < c.length

theorem Full.tail {c : List UInt8} {L : List (List UInt8)} (h : Full (c :: L)) : Full L := fun x hx => h x (List.mem_cons_of_mem _ hx)
theorem Full.head {c : List UInt8} {L : List (List UInt8)} (h : Full (c :: L)) : 0 < c.length := h c List.mem_cons_self
theorem Full.nil : Full [] := fun _ h => by cases h
theorem Full.cons {c : List UInt8} {L : List (List UInt8)} (h : 0 < c.length) (hL : Full L) : Full (c :: L) := fun x hx => by
  rcases List.mem_cons.1 hx with rfl | hx
  · exact h
  · exact hL x hx
theorem Full.append {L M : List (List UInt8)} (h : Full L) (hM : Full M) : Full (L ++ M) := fun x hx => (List.mem_append.1 hx).elim (h x) (hM x)

theorem dropL_zero (L : List (List UInt8)) (h : Full L) : dropL L 0 = L := by
  induction L with
  | nil => rfl
  | cons c L ih => rw [dropL, if_pos h.head, ih h.tail]; rfl

theorem dropL_full (L : List (List UInt8)) (h : Full L) : ∀ n, Full (dropL L n) := by
  induction L with
  | nil => exact fun _ => Full.nil
  | cons c L ih =>
    intro n
    rw [dropL]
    split
    · refine Full.cons ?_ (ih h.tail 0)
      rw [List.length_drop]; omega
    · exact ih h.tail _

theorem dropL_flat (L : List (List UInt8)) : ∀ n, (dropL L n).flatten = L.flatten.drop n := by
  induction L with
  | nil => intro n; simp [dropL]
  | cons c L ih =>
    intro n
    rw [dropL, List.flatten_cons, List.drop_append]
    split
    · rename_i hlt
      rw [List.flatten_cons, ih 0, List.drop_zero, show n - c.length = 0 by omega, List.drop_zero]
    · rename_i hge
      rw [ih, List.drop_of_length_le (l := c) (by omega), List.nil_append]

theorem dropL_length (L : List (List UInt8)) : ∀ n, (dropL L n).length ≤ L.length := by
  induction L with
  | nil => intro n; simp [dropL]
  | cons c L ih =>
    intro n
    rw [dropL]
    split
    · have := ih 0; simp only [List.length_cons]; omega
    · have := ih (n - c.length); simp only [List.length_cons]; omega

/-- The chunks without the first k bytes of the first of them. -/
def stepL (L : List (List UInt8)) (k : Nat) : List (List UInt8) :=
  match L with
  | [] => []
  | c :: L => if k < c.length then c.drop k :: L else L

theorem stepL_cons (c : List UInt8) (L : List (List UInt8)) (k : Nat) : stepL (c :: L) k = if k < c.length then c.drop k :: L else L := rfl

theorem stepL_full (L : List (List UInt8)) (h : Full L) (k : Nat) : Full (stepL L k) := by
  cases L with
  | nil => exact Full.nil
  | cons c L =>
    rw [stepL_cons]
    by_cases hk : k < c.length
    · rw [if_pos hk]
      exact Full.cons (by rw [List.length_drop]; omega) h.tail
    · rw [if_neg hk]
      exact h.tail

theorem dropL_step (c : List UInt8) (L : List (List UInt8)) (n : Nat) : dropL (stepL (c :: L) (min n c.length)) (n - min n c.length) = dropL (c :: L) n := by
  unfold stepL
  by_cases hlt : n < c.length
  · rw [Nat.min_eq_left (Nat.le_of_lt hlt)]
    simp only [hlt, if_true]
    rw [Nat.sub_self, dropL, if_pos (by rw [List.length_drop]; omega), dropL, if_pos hlt, List.drop_zero]
  · rw [Nat.min_eq_right (by omega)]
    simp only [Nat.lt_irrefl, if_false]
    conv => rhs; rw [dropL]
    rw [if_neg hlt]

theorem take_step (c : List UInt8) (L : List (List UInt8)) (n : Nat) : c.take (min n c.length) ++ (stepL (c :: L) (min n c.length)).flatten.take (n - min n c.length) = (c :: L).flatten.take n := by
  unfold stepL
  rw [List.flatten_cons]
  by_cases hlt : n < c.length
  · rw [Nat.min_eq_left (Nat.le_of_lt hlt)]
    simp only [hlt, if_true]
    rw [Nat.sub_self, List.take_zero, List.append_nil, List.take_append_of_le_length (Nat.le_of_lt hlt)]
  · rw [Nat.min_eq_right (by omega)]
    simp only [Nat.lt_irrefl, if_false]
    rw [List.take_length, List.take_append, List.take_of_length_le (l := c) (by omega)]

theorem flat_step (c : List UInt8) (L : List (List UInt8)) (k : Nat) (hk : k ≤ c.length) : (stepL (c :: L) k).flatten.length + k = (c :: L).flatten.length := by
  rw [stepL_cons]
  by_cases h : k < c.length
  · rw [if_pos h, List.flatten_cons, List.flatten_cons, List.length_append, List.length_append, List.length_drop]; omega
  · rw [if_neg h, List.flatten_cons, List.length_append]; omega

theorem full_flat_pos (L : List (List UInt8)) (h : Full L) : L.flatten.length = 0 ↔ L = [] := by
  cases L with
  | nil => simp
  | cons c L =>
    have := h.head
    constructor
    · intro h0; rw [List.flatten_cons, List.length_append] at h0; omega
    · intro h0; cases h0

/-- The first chunk, empty if none waits. -/
def headL (L : List (List UInt8)) : List UInt8 := match L with | [] => [] | c :: _ => c
end Go.Proofs.Ytmblbmkkeloegaa
