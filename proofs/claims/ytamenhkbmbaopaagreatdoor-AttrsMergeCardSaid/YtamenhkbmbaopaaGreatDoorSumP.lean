/-
  Plain functions on lists of bytes: the sums of a block. No row of the program is read here.
-/
import Derived.Test.YtamenhkbmbaopaaGreatDoorMem
namespace Go.Proofs.YtamenhkbmbaopaaGreatDoor
open Go.ChangeShapes Go.WideShapes Go.ChangeAt Go.RowKit

def sumL (f : UInt8 → Int) : List UInt8 → Int
  | [] => 0
  | b :: l => f b + sumL f l
theorem sumL_cons (f : UInt8 → Int) (b : UInt8) (l : List UInt8) : sumL f (b :: l) = f b + sumL f l := rfl
theorem sumL_append (f : UInt8 → Int) (x y : List UInt8) : sumL f (x ++ y) = sumL f x + sumL f y := by
  induction x with
  | nil => simp [sumL]
  | cons b x ih => rw [List.cons_append, sumL_cons, sumL_cons, ih]; omega
theorem sumL_snoc (f : UInt8 → Int) (l : List UInt8) (k : Nat) (h : k < l.length) : sumL f (l.take (k + 1)) = sumL f (l.take k) + f l[k] := by
  rw [List.take_succ_eq_append_getElem h, sumL_append]
  simp [sumL]

/-- A byte as a number, and as one with a sign. -/
def uns (b : UInt8) : Int := b.toNat
def sgn (b : UInt8) : Int := if 128 ≤ (b.toNat : Int) then (b.toNat : Int) - 256 else b.toNat
def val (s : Bool) : UInt8 → Int := if s then sgn else uns
theorem uns_bd (b : UInt8) : 0 ≤ uns b ∧ uns b ≤ 255 := by have := byte_lt b; unfold uns; omega
theorem sgn_bd (b : UInt8) : -128 ≤ sgn b ∧ sgn b ≤ 127 := by have := byte_lt b; unfold sgn; split <;> omega
theorem val_bd (s : Bool) (b : UInt8) : -255 ≤ val s b ∧ val s b ≤ 255 := by
  have h1 := uns_bd b
  have h2 := sgn_bd b
  cases s
  · show -255 ≤ uns b ∧ uns b ≤ 255; omega
  · show -255 ≤ sgn b ∧ sgn b ≤ 255; omega
theorem sumL_bd (s : Bool) (l : List UInt8) : -(255 * (l.length : Int)) ≤ sumL (val s) l ∧ sumL (val s) l ≤ 255 * (l.length : Int) := by
  induction l with
  | nil => simp [sumL]
  | cons b l ih => rw [sumL_cons, List.length_cons]; have := val_bd s b; omega
theorem sumL_uns (l : List UInt8) : 0 ≤ sumL uns l ∧ sumL uns l ≤ 255 * (l.length : Int) := by
  induction l with
  | nil => simp [sumL]
  | cons b l ih => rw [sumL_cons, List.length_cons]; have := uns_bd b; omega

/-- A block, its sum's bytes as blanks. -/
def blanked (l : List UInt8) : List UInt8 := l.take 148 ++ (List.replicate 8 32 ++ l.drop 156)
theorem blanked_length (l : List UInt8) (h : l.length = 512) : (blanked l).length = 512 := by simp [blanked]; omega
theorem blanked_get (l : List UInt8) (h : l.length = 512) (k : Nat) (hk : k < 512) : (blanked l)[k]'(by rw [blanked_length l h]; exact hk) = if 148 ≤ k ∧ k ≤ 155 then 32 else l[k] := by
  unfold blanked
  by_cases h1 : k < 148
  · rw [List.getElem_append_left (by simp; omega), if_neg (by omega), List.getElem_take]
  · rw [List.getElem_append_right (by simp; omega)]
    have e : (l.take 148).length = 148 := by rw [List.length_take]; omega
    by_cases h2 : k ≤ 155
    · rw [List.getElem_append_left (by simp; omega), if_pos (by omega), List.getElem_replicate]
    · rw [List.getElem_append_right (by simp; omega), if_neg (by omega), List.getElem_drop]
      congr 1
      simp; omega

def bSum (s : Bool) (l : List UInt8) : Int := sumL (val s) (blanked l)
theorem bSum_bd (s : Bool) (l : List UInt8) (h : l.length = 512) : -130560 ≤ bSum s l ∧ bSum s l ≤ 130560 := by
  have := sumL_bd s (blanked l)
  rw [blanked_length l h] at this
  unfold bSum; omega
theorem bSum_pos (l : List UInt8) (h : l.length = 512) : 0 ≤ bSum false l ∧ bSum false l ≤ 130560 := by
  have := sumL_uns (blanked l)
  rw [blanked_length l h] at this
  unfold bSum; exact ⟨this.1, by show sumL uns _ ≤ _; omega⟩

/-- The blanks count 256, so such a sum is that of all else, and 256. -/
theorem sumL_blanked (f : UInt8 → Int) (l : List UInt8) : sumL f (blanked l) = sumL f (l.take 148) + 8 * f 32 + sumL f (l.drop 156) := by
  unfold blanked
  rw [sumL_append, sumL_append]
  simp only [List.replicate, sumL_cons]
  show _ + (_ + sumL f _) = _
  simp only [sumL]
  omega

/-- The array as numbersOf fills it. -/
def filled (l : List UInt8) (k : Nat) : List UInt8 := l.take k ++ List.replicate (512 - k) 0
def blanking (l : List UInt8) (k : Nat) : List UInt8 := l.take 148 ++ (List.replicate k 32 ++ l.drop (148 + k))
theorem filled_length (l : List UInt8) (h : l.length = 512) (k : Nat) (hk : k ≤ 512) : (filled l k).length = 512 := by simp [filled]; omega
theorem blanking_length (l : List UInt8) (h : l.length = 512) (k : Nat) (hk : k ≤ 8) : (blanking l k).length = 512 := by simp [blanking]; omega
theorem filled_zero (l : List UInt8) : filled l 0 = List.replicate 512 0 := by unfold filled; rw [List.take_zero, List.nil_append, Nat.sub_zero]
theorem filled_succ (l : List UInt8) (h : l.length = 512) (k : Nat) (hk : k < 512) : (filled l k).set k l[k] = filled l (k + 1) := by
  unfold filled
  rw [List.set_append_right _ _ (by simp; omega)]
  have e : k - (l.take k).length = 0 := by rw [List.length_take]; omega
  rw [e, show 512 - k = (512 - (k + 1)) + 1 by omega, List.replicate_succ, List.set_cons_zero, List.take_succ_eq_append_getElem (by omega), List.append_assoc]
  rfl
theorem filled_full (l : List UInt8) (h : l.length = 512) : filled l 512 = l := by
  unfold filled
  rw [List.take_of_length_le (by omega)]; simp
theorem blanking_zero (l : List UInt8) : blanking l 0 = l := by simp [blanking]
theorem blanking_succ (l : List UInt8) (h : l.length = 512) (k : Nat) (hk : k < 8) : (blanking l k).set (148 + k) 32 = blanking l (k + 1) := by
  unfold blanking
  rw [List.set_append_right _ _ (by simp; omega)]
  have e : 148 + k - (l.take 148).length = k := by rw [List.length_take]; omega
  rw [e, List.set_append_right _ _ (by simp)]
  have e2 : k - (List.replicate k (32 : UInt8)).length = 0 := by simp
  rw [e2, drop_at (show 148 + k < l.length by omega), List.set_cons_zero, List.replicate_succ', List.append_assoc]
  rfl
theorem blanking_full (l : List UInt8) : blanking l 8 = blanked l := rfl
end Go.Proofs.YtamenhkbmbaopaaGreatDoor
