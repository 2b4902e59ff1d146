/-
  Plain facts on sealed blocks. No row of the program is read here.
-/
import Derived.Test.YtamenhkbmbaopaaGreatDoorSumP
import Derived.Test.YtamenhkbmbaopaaGreatDoorOctPx
namespace Go.Proofs.YtamenhkbmbaopaaGreatDoor
open Go.ChangeShapes Go.WideShapes Go.ChangeAt Go.RowKit

/-- A field's number in octal. -/
def sRead (b : UInt8) (t : List UInt8) : Int × Bool := if (octRead (b :: t)).2 = 0 ∧ (b.toNat : Int) ≤ 127 then ((octRead (b :: t)).1, true) else (0, false)

/-- The field of a block's sum. -/
def fieldOf (l : List UInt8) : List UInt8 := (l.drop 148).take 8
theorem fieldOf_parts (l : List UInt8) (h : l.length = 512) : ∃ b t, fieldOf l = b :: t ∧ t.length = 7 ∧ l[148] = b := by
  have hl : (fieldOf l).length = 8 := by unfold fieldOf; rw [List.length_take, List.length_drop]; omega
  rcases hf : fieldOf l with _ | ⟨b, t⟩
  · rw [hf] at hl; cases hl
  · refine ⟨b, t, rfl, by rw [hf] at hl; simpa using hl, ?_⟩
    have : (fieldOf l)[0]? = some b := by rw [hf]; rfl
    unfold fieldOf at this
    rw [List.getElem?_take_of_lt (by decide), List.getElem?_drop, List.getElem?_eq_getElem (by omega)] at this
    simpa using this

/-- Is a block's sum that of its bytes? -/
def sRight (l : List UInt8) : Bool :=
  decide (l.length = 512) && match fieldOf l with
    | [] => false
    | b :: t => (sRead b t).2 && (((sRead b t).1 == bSum false l) || ((sRead b t).1 == bSum true l))

/-- The field of a sealed block. -/
def sealField (v : Int) : List UInt8 := octStr v 7 ++ [32]
theorem sealField_length (v : Int) : (sealField v).length = 8 := by simp [sealField, octStr]
def sealOf (l : List UInt8) : List UInt8 := l.take 148 ++ (sealField (bSum false l) ++ l.drop 156)
theorem sealOf_length (l : List UInt8) (h : l.length = 512) : (sealOf l).length = 512 := by
  unfold sealOf
  rw [List.length_append, List.length_append, sealField_length, List.length_take, List.length_drop]; omega

theorem readOctal_digits_on (m : Nat) (s : List UInt8) : ∀ (q z v : Int), q ≠ 2 → readOctal q z (digs (m + 1) v ++ s) = readOctal 1 (z * 8 ^ (m + 1) + v % 8 ^ (m + 1)) s := by
  induction m with
  | zero =>
    intro q z v hq
    show readOctal q z (UInt8.ofNat (48 + v / 8 ^ 0 % 8).toNat :: s) = _
    rw [readOctal_cons, digit_byte, if_neg (by omega), if_pos ⟨hq, by omega, by omega⟩]
    congr 1
    simp
    omega
  | succ m ih =>
    intro q z v hq
    rw [digs_succ, List.cons_append, readOctal_cons, digit_byte]
    rw [if_neg (by omega), if_pos ⟨hq, by omega, by omega⟩, ih 1 _ v (by decide), mod_split v (m + 1), Int.pow_succ 8 (m + 1)]
    congr 1
    rw [show 48 + v / 8 ^ (m + 1) % 8 - 48 = v / 8 ^ (m + 1) % 8 by omega, Int.add_mul, Int.mul_assoc, Int.mul_comm 8 ((8 : Int) ^ (m + 1))]
    omega

theorem sealField_eq (v : Int) : sealField v = digs 6 v ++ [0, 32] := by
  unfold sealField
  rw [octStr_digs, List.append_assoc]; rfl

/-- What a sealed block's field tells. -/
theorem sealField_read (v : Int) (h0 : 0 ≤ v) (h1 : v < 262144) : octRead (sealField v) = (v, 0) ∧ ∃ b t, sealField v = b :: t ∧ 48 ≤ (b.toNat : Int) ∧ (b.toNat : Int) ≤ 55 := by
  have hd : sealField v = UInt8.ofNat (48 + v / 8 ^ 5 % 8).toNat :: (digs 5 v ++ [0, 32]) := by rw [sealField_eq, digs_succ]; rfl
  have hb := digit_byte (v / 8 ^ 5)
  have hs : (2 : Nat) ≤ (sealField v).length ∧ (sealField v).length ≤ 12 := by rw [sealField_length]; omega
  refine ⟨?_, _, _, hd, by rw [hb]; omega, by rw [hb]; omega⟩
  have hu : octRead (sealField v) = readOctal 0 0 (sealField v) := by
    unfold octRead
    rw [if_pos (by simp [isSize]; omega), hd]
    show (if _ then _ else if _ then _ else _) = _
    rw [if_neg (by rw [hb]; omega), if_neg (by rw [hb]; omega)]
  rw [hu, sealField_eq, readOctal_digits_on 5 [0, 32] 0 0 v (by decide)]
  have : (8 : Int) ^ (5 + 1) = 262144 := by decide
  rw [this, show (0 : Int) * 262144 + v % 262144 = v by omega]
  rfl

theorem blanked_seal (l : List UInt8) (h : l.length = 512) : blanked (sealOf l) = blanked l := by
  have e : (l.take 148).length = 148 := by rw [List.length_take]; omega
  have e1 : (sealOf l).take 148 = l.take 148 := by
    unfold sealOf
    rw [List.take_append_of_le_length (by omega), List.take_of_length_le (by omega)]
  have e2 : (sealOf l).drop 156 = l.drop 156 := by
    unfold sealOf
    rw [List.drop_append, List.drop_of_length_le (by omega), List.nil_append, e, List.drop_append, List.drop_of_length_le (by rw [sealField_length]; omega), sealField_length]; rfl
  unfold blanked
  rw [e1, e2]
theorem bSum_seal (s : Bool) (l : List UInt8) (h : l.length = 512) : bSum s (sealOf l) = bSum s l := by unfold bSum; rw [blanked_seal l h]
theorem fieldOf_seal (l : List UInt8) (h : l.length = 512) : fieldOf (sealOf l) = sealField (bSum false l) := by
  have e : (l.take 148).length = 148 := by rw [List.length_take]; omega
  unfold fieldOf sealOf
  rw [List.drop_append, List.drop_of_length_le (by omega), List.nil_append, e, Nat.sub_self, List.drop_zero, List.take_append_of_le_length (by rw [sealField_length]; omega), List.take_of_length_le (by rw [sealField_length]; omega)]
theorem seal_seal (l : List UInt8) (h : l.length = 512) : sealOf (sealOf l) = sealOf l := by
  have hb := bSum_seal false l h
  have e : (l.take 148).length = 148 := by rw [List.length_take]; omega
  have e1 : (sealOf l).take 148 = l.take 148 := by
    unfold sealOf
    rw [List.take_append_of_le_length (by omega), List.take_of_length_le (by omega)]
  have e2 : (sealOf l).drop 156 = l.drop 156 := by
    unfold sealOf
    rw [List.drop_append, List.drop_of_length_le (by omega), List.nil_append, e, List.drop_append, List.drop_of_length_le (by rw [sealField_length]; omega), sealField_length]; rfl
  show (sealOf l).take 148 ++ (sealField (bSum false (sealOf l)) ++ (sealOf l).drop 156) = _
  rw [hb, e1, e2]
  rfl
theorem right_of (l : List UInt8) (h : l.length = 512) (v : Int) (h0 : 0 ≤ v) (h1 : v < 262144) (hf : fieldOf l = sealField v) : sRight l = ((v == bSum false l) || (v == bSum true l)) := by
  obtain ⟨hr, b, t, hbt, b1, b2⟩ := sealField_read v h0 h1
  unfold sRight
  rw [hf, hbt, decide_eq_true h]
  have : sRead b t = (v, true) := by
    unfold sRead
    rw [← hbt, hr, if_pos ⟨rfl, by omega⟩]
  simp only [this, Bool.true_and]
theorem seal_right (l : List UInt8) (h : l.length = 512) : sRight (sealOf l) = true := by
  have hb := bSum_pos l h
  rw [right_of (sealOf l) (sealOf_length l h) (bSum false l) hb.1 (by omega) (fieldOf_seal l h), bSum_seal false l h]
  simp

def sBlank (l : List UInt8) : Bool := decide (l.length = 512) && l.all (· == 0)
theorem seal_blank (l : List UInt8) (h : l.length = 512) : sBlank (sealOf l) = false := by
  have hb := bSum_pos l h
  obtain ⟨hr, b, t, hbt, b1, b2⟩ := sealField_read (bSum false l) hb.1 (by omega)
  have hm : b ∈ sealOf l := by unfold sealOf; rw [hbt]; simp
  unfold sBlank
  have : (sealOf l).all (· == 0) = false := by
    rw [List.all_eq_false]
    refine ⟨b, hm, ?_⟩
    intro e
    have : b = 0 := by simpa using e
    rw [this] at b1
    exact absurd b1 (by decide)
  rw [this, Bool.and_false]

/-- 512 NULs. -/
theorem sumL_nought (s : Bool) (n : Nat) : sumL (val s) (List.replicate n 0) = 0 := by
  induction n with
  | zero => rfl
  | succ n ih => rw [List.replicate_succ, sumL_cons, ih]; cases s <;> rfl
theorem bSum_nought (s : Bool) : bSum s (List.replicate 512 0) = 256 := by
  unfold bSum
  rw [sumL_blanked, List.take_replicate, List.drop_replicate, sumL_nought, sumL_nought]
  cases s <;> rfl
theorem right_nought : sRight (List.replicate 512 0) = false := by
  unfold sRight
  have hf : fieldOf (List.replicate 512 0) = 0 :: List.replicate 7 0 := by
    unfold fieldOf
    rw [List.drop_replicate, List.take_replicate]; rfl
  have hr : sRead 0 (List.replicate 7 0) = (0, true) := by decide
  rw [List.length_replicate, decide_eq_true rfl, Bool.true_and]
  simp only [hf, hr, bSum_nought]
  decide
theorem blank_nought : sBlank (List.replicate 512 0) = true := by
  unfold sBlank
  rw [List.length_replicate, decide_eq_true rfl, Bool.true_and, List.all_eq_true]
  intro x hx
  rw [List.eq_of_mem_replicate hx]; rfl

/-- One byte of a block is another one. -/
theorem sumL_set (f : UInt8 → Int) (l : List UInt8) : ∀ (i : Nat) (v : UInt8) (hi : i < l.length), sumL f (l.set i v) = sumL f l - f l[i] + f v := by
  induction l with
  | nil => intro i v hi; cases hi
  | cons b l ih =>
    intro i v hi
    cases i with
    | zero => rw [List.set_cons_zero, sumL_cons, sumL_cons]; show _ = _ - f b + _; omega
    | succ i =>
      have hi2 : i < l.length := by simpa using hi
      rw [List.set_cons_succ, sumL_cons, sumL_cons, ih i v hi2]
      show _ = _ - f l[i] + _
      omega
theorem blanked_set (l : List UInt8) (h : l.length = 512) (i : Nat) (v : UInt8) (hf : ¬ (148 ≤ i ∧ i < 156)) : blanked (l.set i v) = (blanked l).set i v := by
  have hs : (l.set i v).length = 512 := by rw [List.length_set, h]
  apply List.ext_getElem
  · rw [List.length_set, blanked_length _ hs, blanked_length _ h]
  · intro k h1 h2
    have hk : k < 512 := by rw [blanked_length _ hs] at h1; exact h1
    rw [List.getElem_set, blanked_get _ hs k hk, blanked_get _ h k hk, List.getElem_set]
    by_cases hik : i = k
    · rw [if_pos hik, if_pos hik, if_neg (by omega)]
    · rw [if_neg hik, if_neg hik]
theorem fieldOf_set (l : List UInt8) (i : Nat) (v : UInt8) (hf : ¬ (148 ≤ i ∧ i < 156)) : fieldOf (l.set i v) = fieldOf l := by
  unfold fieldOf
  apply List.ext_getElem?
  intro k
  by_cases hk : k < 8
  · rw [List.getElem?_take_of_lt hk, List.getElem?_take_of_lt hk, List.getElem?_drop, List.getElem?_drop, List.getElem?_set_ne (by omega)]
  · rw [List.getElem?_eq_none (by simp; omega), List.getElem?_eq_none (by simp; omega)]
theorem spoilt_right (l : List UInt8) (h : l.length = 512) (i : Nat) (v : UInt8) (hi : i < 512) (hf : ¬ (148 ≤ i ∧ i < 156)) (hv : v ≠ (sealOf l)[i]'(by rw [sealOf_length l h]; exact hi)) :
    sRight ((sealOf l).set i v) = (bSum true ((sealOf l).set i v) == bSum false (sealOf l)) := by
  have hb := bSum_pos l h
  have hsl := sealOf_length l h
  have hf2 : fieldOf ((sealOf l).set i v) = sealField (bSum false l) := by rw [fieldOf_set _ i v hf, fieldOf_seal l h]
  rw [right_of _ (by rw [List.length_set, hsl]) (bSum false l) hb.1 (by omega) hf2, bSum_seal false l h]
  have hne : (bSum false l == bSum false ((sealOf l).set i v)) = false := by
    rw [beq_eq_false_iff_ne]
    intro e
    have e2 : bSum false ((sealOf l).set i v) = sumL uns (blanked (sealOf l)) - uns ((blanked (sealOf l))[i]'(by rw [blanked_length _ hsl]; exact hi)) + uns v := by
      unfold bSum
      rw [blanked_set _ hsl i v hf]
      exact sumL_set uns _ i v (by rw [blanked_length _ hsl]; exact hi)
    have e3 : bSum false l = sumL uns (blanked (sealOf l)) := by rw [blanked_seal l h]; rfl
    rw [blanked_get _ hsl i hi, if_neg (by omega)] at e2
    rw [e2, e3] at e
    apply hv
    apply UInt8.toNat_inj.1
    unfold uns at e
    omega
  rw [hne, Bool.false_or]
  rw [Bool.eq_iff_iff, beq_iff_eq, beq_iff_eq]
  exact eq_comm
end Go.Proofs.YtamenhkbmbaopaaGreatDoor
