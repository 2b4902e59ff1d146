/-
  Texts of this seat's proof, joined: their order is that of the build.
-/
import Derived.Test.YtjmmecokfijglaaGreatDoorJ01
import Derived.Test.YtjmmecokfijglaaGreatDoorJ03
import Derived.Lib.IndexMore
import Derived.Lib.LastIndexLaws
import Derived.Lib.Repeat
namespace Go.Proofs.YtjmmecokfijglaaGreatDoor
open Go.ChangeShapes Go.WideShapes Go.ChangeAt Go.RowKit

/-- A field's number in octal. -/
def sRead (b : UInt8) (t : List UInt8) : Int × Bool := if (octRead (b :: t)).2 = 0 ∧ (b.toNat : Int) ≤ 127 then ((octRead (b :: t)).1, true) else (0, false)

/-- The field of a block's sum. -/
def fieldOf (l : List UInt8) : List UInt8 := (l.drop 148).take 8
theorem fieldOf_parts (l : List UInt8) (h : l.length = 512) : ∃ b t, fieldOf l = b :: t ∧ t.length = 7 ∧ l[148] = b := by
  have hl : (fieldOf l).length = 8 := by unfold fieldOf; rw [List.length_take, List.length_drop]; omega
  rcases hf : fieldOf l with _ | ⟨b, t⟩
  · rw [hf] at hl; cases hl
  · refine ⟨b, t, rfl, by rw [hf] at hl; simpa using hl, ?_⟩
    have : (fieldOf l)[0]? = some b := by rw [hf]; rfl
    unfold fieldOf at this
    rw [List.getElem?_take_of_lt (by decide), List.getElem?_drop, List.getElem?_eq_getElem (by omega)] at this
    simpa using this

/-- Is a block's sum that of its bytes? -/
def sRight (l : List UInt8) : Bool :=
  decide (l.length = 512) && match fieldOf l with
    | [] => false
    | b :: t => (sRead b t).2 && (((sRead b t).1 == bSum false l) || ((sRead b t).1 == bSum true l))

/-- The field of a sealed block. -/
def sealField (v : Int) : List UInt8 := octStr v 7 ++ [32]
theorem sealField_length (v : Int) : (sealField v).length = 8 := by simp [sealField, octStr]
def sealOf (l : List UInt8) : List UInt8 := l.take 148 ++ (sealField (bSum false l) ++ l.drop 156)
theorem sealOf_length (l : List UInt8) (h : l.length = 512) : (sealOf l).length = 512 := by
  unfold sealOf
  rw [List.length_append, List.length_append, sealField_length, List.length_take, List.length_drop]; omega

theorem readOctal_digits_on (m : Nat) (s : List UInt8) : ∀ (q z v : Int), q ≠ 2 → readOctal q z (digs (m + 1) v ++ s) = readOctal 1 (z * 8 ^ (m + 1) + v % 8 ^ (m + 1)) s := by
  induction m with
  | zero =>
    intro q z v hq
    show readOctal q z (UInt8.ofNat (48 + v / 8 ^ 0 % 8).toNat :: s) = _
    rw [readOctal_cons, digit_byte, if_neg (by omega), if_pos ⟨hq, by omega, by omega⟩]
    congr 1
    simp
    omega
  | succ m ih =>
    intro q z v hq
    rw [digs_succ, List.cons_append, readOctal_cons, digit_byte]
    rw [if_neg (by omega), if_pos ⟨hq, by omega, by omega⟩, ih 1 _ v (by decide), mod_split v (m + 1), Int.pow_succ 8 (m + 1)]
    congr 1
    rw [show 48 + v / 8 ^ (m + 1) % 8 - 48 = v / 8 ^ (m + 1) % 8 by omega, Int.add_mul, Int.mul_assoc, Int.mul_comm 8 ((8 : Int) ^ (m + 1))]
    omega

theorem sealField_eq (v : Int) : sealField v = digs 6 v ++ [0, 32] := by
  unfold sealField
  rw [octStr_digs, List.append_assoc]; rfl

/-- What a sealed block's field tells. -/
theorem sealField_read (v : Int) (h0 : 0 ≤ v) (h1 : v < 262144) : octRead (sealField v) = (v, 0) ∧ ∃ b t, sealField v = b :: t ∧ 48 ≤ (b.toNat : Int) ∧ (b.toNat : Int) ≤ 55 := by
  have hd : sealField v = UInt8.ofNat (48 + v / 8 ^ 5 % 8).toNat :: (digs 5 v ++ [0, 32]) := by rw [sealField_eq, digs_succ]; rfl
  have hb := digit_byte (v / 8 ^ 5)
  have hs : (2 : Nat) ≤ (sealField v).length ∧ (sealField v).length ≤ 12 := by rw [sealField_length]; omega
  refine ⟨?_, _, _, hd, by rw [hb]; omega, by rw [hb]; omega⟩
  have hu : octRead (sealField v) = readOctal 0 0 (sealField v) := by
    unfold octRead
    rw [if_pos (by simp [isSize]; omega), hd]
    show (if _ then _ else if _ then _ else _) = _
    rw [if_neg (by rw [hb]; omega), if_neg (by rw [hb]; omega)]
  rw [hu, sealField_eq, readOctal_digits_on 5 [0, 32] 0 0 v (by decide)]
  have : (8 : Int) ^ (5 + 1) = 262144 := by decide
  rw [this, show (0 : Int) * 262144 + v % 262144 = v by omega]
  rfl

theorem blanked_seal (l : List UInt8) (h : l.length = 512) : blanked (sealOf l) = blanked l := by
  have e : (l.take 148).length = 148 := by rw [List.length_take]; omega
  have e1 : (sealOf l).take 148 = l.take 148 := by
    unfold sealOf
    rw [List.take_append_of_le_length (by omega), List.take_of_length_le (by omega)]
  have e2 : (sealOf l).drop 156 = l.drop 156 := by
    unfold sealOf
    rw [List.drop_append, List.drop_of_length_le (by omega), List.nil_append, e, List.drop_append, List.drop_of_length_le (by rw [sealField_length]; omega), sealField_length]; rfl
  unfold blanked
  rw [e1, e2]
theorem bSum_seal (s : Bool) (l : List UInt8) (h : l.length = 512) : bSum s (sealOf l) = bSum s l := by unfold bSum; rw [blanked_seal l h]
theorem fieldOf_seal (l : List UInt8) (h : l.length = 512) : fieldOf (sealOf l) = sealField (bSum false l) := by
  have e : (l.take 148).length = 148 := by rw [List.length_take]; omega
  unfold fieldOf sealOf
  rw [List.drop_append, List.drop_of_length_le (by omega), List.nil_append, e, Nat.sub_self, List.drop_zero, List.take_append_of_le_length (by rw [sealField_length]; omega), List.take_of_length_le (by rw [sealField_length]; omega)]
theorem seal_seal (l : List UInt8) (h : l.length = 512) : sealOf (sealOf l) = sealOf l := by
  have hb := bSum_seal false l h
  have e : (l.take 148).length = 148 := by rw [List.length_take]; omega
  have e1 : (sealOf l).take 148 = l.take 148 := by
    unfold sealOf
    rw [List.take_append_of_le_length (by omega), List.take_of_length_le (by omega)]
  have e2 : (sealOf l).drop 156 = l.drop 156 := by
    unfold sealOf
    rw [List.drop_append, List.drop_of_length_le (by omega), List.nil_append, e, List.drop_append, List.drop_of_length_le (by rw [sealField_length]; omega), sealField_length]; rfl
  show (sealOf l).take 148 ++ (sealField (bSum false (sealOf l)) ++ (sealOf l).drop 156) = _
  rw [hb, e1, e2]
  rfl
theorem right_of (l : List UInt8) (h : l.length = 512) (v : Int) (h0 : 0 ≤ v) (h1 : v < 262144) (hf : fieldOf l = sealField v) : sRight l = ((v == bSum false l) || (v == bSum true l)) := by
  obtain ⟨hr, b, t, hbt, b1, b2⟩ := sealField_read v h0 h1
  unfold sRight
  rw [hf, hbt, decide_eq_true h]
  have : sRead b t = (v, true) := by
    unfold sRead
    rw [← hbt, hr, if_pos ⟨rfl, by omega⟩]
  simp only [this, Bool.true_and]
theorem seal_right (l : List UInt8) (h : l.length = 512) : sRight (sealOf l) = true := by
  have hb := bSum_pos l h
  rw [right_of (sealOf l) (sealOf_length l h) (bSum false l) hb.1 (by omega) (fieldOf_seal l h), bSum_seal false l h]
  simp

def sBlank (l : List UInt8) : Bool := decide (l.length = 512) && l.all (· == 0)
theorem seal_blank (l : List UInt8) (h : l.length = 512) : sBlank (sealOf l) = false := by
  have hb := bSum_pos l h
  obtain ⟨hr, b, t, hbt, b1, b2⟩ := sealField_read (bSum false l) hb.1 (by omega)
  have hm : b ∈ sealOf l := by unfold sealOf; rw [hbt]; simp
  unfold sBlank
  have : (sealOf l).all (· == 0) = false := by
    rw [List.all_eq_false]
    refine ⟨b, hm, ?_⟩
    intro e
    have : b = 0 := by simpa using e
    rw [this] at b1
    exact absurd b1 (by decide)
  rw [this, Bool.and_false]

/-- 512 NULs. -/
theorem sumL_nought (s : Bool) (n : Nat) : sumL (val s) (List.replicate n 0) = 0 := by
  induction n with
  | zero => rfl
  | succ n ih => rw [List.replicate_succ, sumL_cons, ih]; cases s <;> rfl
theorem bSum_nought (s : Bool) : bSum s (List.replicate 512 0) = 256 := by
  unfold bSum
  rw [sumL_blanked, List.take_replicate, List.drop_replicate, sumL_nought, sumL_nought]
  cases s <;> rfl
theorem right_nought : sRight (List.replicate 512 0) = false := by
  unfold sRight
  have hf : fieldOf (List.replicate 512 0) = 0 :: List.replicate 7 0 := by
    unfold fieldOf
    rw [List.drop_replicate, List.take_replicate]; rfl
  have hr : sRead 0 (List.replicate 7 0) = (0, true) := by decide
  rw [List.length_replicate, decide_eq_true rfl, Bool.true_and]
  simp only [hf, hr, bSum_nought]
  decide
theorem blank_nought : sBlank (List.replicate 512 0) = true := by
  unfold sBlank
  rw [List.length_replicate, decide_eq_true rfl, Bool.true_and, List.all_eq_true]
  intro x hx
  rw [List.eq_of_mem_replicate hx]; rfl

/-- One byte of a block is another one. -/
theorem sumL_set (f : UInt8 → Int) (l : List UInt8) : ∀ (i : Nat) (v : UInt8) (hi : i < l.length), sumL f (l.set i v) = sumL f l - f l[i] + f v := by
  induction l with
  | nil => intro i v hi; cases hi
  | cons b l ih =>
    intro i v hi
    cases i with
    | zero => rw [List.set_cons_zero, sumL_cons, sumL_cons]; show _ = _ - f b + _; omega
    | succ i =>
      have hi2 : i < l.length := by simpa using hi
      rw [List.set_cons_succ, sumL_cons, sumL_cons, ih i v hi2]
      show _ = _ - f l[i] + _
      omega
theorem blanked_set (l : List UInt8) (h : l.length = 512) (i : Nat) (v : UInt8) (hf : ¬ (148 ≤ i ∧ i < 156)) : blanked (l.set i v) = (blanked l).set i v := by
  have hs : (l.set i v).length = 512 := by rw [List.length_set, h]
  apply List.ext_getElem
  · rw [List.length_set, blanked_length _ hs, blanked_length _ h]
  · intro k h1 h2
    have hk : k < 512 := by rw [blanked_length _ hs] at h1; exact h1
    rw [List.getElem_set, blanked_get _ hs k hk, blanked_get _ h k hk, List.getElem_set]
    by_cases hik : i = k
    · rw [if_pos hik, if_pos hik, if_neg (by omega)]
    · rw [if_neg hik, if_neg hik]
theorem fieldOf_set (l : List UInt8) (i : Nat) (v : UInt8) (hf : ¬ (148 ≤ i ∧ i < 156)) : fieldOf (l.set i v) = fieldOf l := by
  unfold fieldOf
  apply List.ext_getElem?
  intro k
  by_cases hk : k < 8
  · rw [List.getElem?_take_of_lt hk, List.getElem?_take_of_lt hk, List.getElem?_drop, List.getElem?_drop, List.getElem?_set_ne (by omega)]
  · rw [List.getElem?_eq_none (by simp; omega), List.getElem?_eq_none (by simp; omega)]
theorem spoilt_right (l : List UInt8) (h : l.length = 512) (i : Nat) (v : UInt8) (hi : i < 512) (hf : ¬ (148 ≤ i ∧ i < 156)) (hv : v ≠ (sealOf l)[i]'(by rw [sealOf_length l h]; exact hi)) :
    sRight ((sealOf l).set i v) = (bSum true ((sealOf l).set i v) == bSum false (sealOf l)) := by
  have hb := bSum_pos l h
  have hsl := sealOf_length l h
  have hf2 : fieldOf ((sealOf l).set i v) = sealField (bSum false l) := by rw [fieldOf_set _ i v hf, fieldOf_seal l h]
  rw [right_of _ (by rw [List.length_set, hsl]) (bSum false l) hb.1 (by omega) hf2, bSum_seal false l h]
  have hne : (bSum false l == bSum false ((sealOf l).set i v)) = false := by
    rw [beq_eq_false_iff_ne]
    intro e
    have e2 : bSum false ((sealOf l).set i v) = sumL uns (blanked (sealOf l)) - uns ((blanked (sealOf l))[i]'(by rw [blanked_length _ hsl]; exact hi)) + uns v := by
      unfold bSum
      rw [blanked_set _ hsl i v hf]
      exact sumL_set uns _ i v (by rw [blanked_length _ hsl]; exact hi)
    have e3 : bSum false l = sumL uns (blanked (sealOf l)) := by rw [blanked_seal l h]; rfl
    rw [blanked_get _ hsl i hi, if_neg (by omega)] at e2
    rw [e2, e3] at e
    apply hv
    apply UInt8.toNat_inj.1
    unfold uns at e
    omega
  rw [hne, Bool.false_or]
  rw [Bool.eq_iff_iff, beq_iff_eq, beq_iff_eq]
  exact eq_comm
end Go.Proofs.YtjmmecokfijglaaGreatDoor
namespace Go.Proofs.YtjmmecokfijglaaGreatDoor
open Go.ChangeShapes Go.WideShapes Go.ChangeAt Go.RowKit

/-- What stands ahead of the first NUL. -/
def txtRead (l : List UInt8) : List UInt8 := l.takeWhile (fun b => b != 0)

theorem index_nul (l : List UInt8) : (0 ∈ l → Lib.index l [0] = (txtRead l).length) ∧ (0 ∉ l → Lib.index l [0] = -1) := by
  induction l with
  | nil => exact ⟨fun h => by simp at h, fun _ => by rfl⟩
  | cons b l ih =>
    unfold Lib.index txtRead
    by_cases hb : b = 0
    · subst hb
      refine ⟨fun _ => ?_, fun h => absurd List.mem_cons_self h⟩
      rw [if_pos (by rfl)]; rfl
    · have hp : ([0] : List UInt8).isPrefixOf (b :: l) = false := by simp [List.isPrefixOf, Ne.symm hb]
      rw [hp]
      have hm : (0 ∈ b :: l) ↔ 0 ∈ l := by simp [Ne.symm hb]
      rw [List.takeWhile_cons_of_pos (by simpa using hb)]
      constructor
      · intro h
        rw [ih.1 (hm.1 h)]
        have : (((txtRead l).length : Int) == -1) = false := by rw [beq_eq_false_iff_ne]; omega
        rw [this]; simp [txtRead]
      · intro h
        rw [ih.2 (fun h2 => h (hm.2 h2))]; rfl

theorem take_txtRead (l : List UInt8) : l.take (txtRead l).length = txtRead l := by
  unfold txtRead
  conv => lhs; arg 2; rw [← List.takeWhile_append_dropWhile (p := fun b => b != 0) (l := l)]
  exact List.take_left

theorem txtRead_cons (b : UInt8) (l : List UInt8) : txtRead (b :: l) = if b = 0 then [] else b :: txtRead l := by
  unfold txtRead
  by_cases h : b = 0
  · rw [if_pos h, List.takeWhile_cons_of_neg (by simp [h])]
  · rw [if_neg h, List.takeWhile_cons_of_pos (by simpa using h)]

theorem txtRead_all (l : List UInt8) (h : 0 ∉ l) : txtRead l = l := by
  induction l with
  | nil => rfl
  | cons b l ih =>
    rw [txtRead_cons, if_neg (fun e : b = 0 => h (e ▸ List.mem_cons_self)), ih (fun hm => h (List.mem_cons_of_mem _ hm))]

theorem txtRead_free (l : List UInt8) : 0 ∉ txtRead l := by
  induction l with
  | nil => simp [txtRead]
  | cons b l ih =>
    rw [txtRead_cons]
    by_cases h : b = 0
    · rw [if_pos h]; simp
    · rw [if_neg h]
      intro hm
      rcases List.mem_cons.1 hm with h2 | h2
      · exact h h2.symm
      · exact ih h2

theorem txtRead_eq_iff (l : List UInt8) : txtRead l = l ↔ 0 ∉ l :=
  ⟨fun h => h ▸ txtRead_free l, txtRead_all l⟩

theorem cut_nul (l : List UInt8) : (Lib.cut l [0]).1 = txtRead l := by
  unfold Lib.cut
  by_cases h : 0 ∈ l
  · rw [(index_nul l).1 h, if_pos (by omega)]
    show l.take (((txtRead l).length : Int)).toNat = _
    rw [Int.toNat_natCast, take_txtRead]
  · rw [(index_nul l).2 h, if_neg (by decide)]
    exact (txtRead_all l h).symm

theorem indexByte_nul (l : List UInt8) : Lib.contains l [0] = decide (0 ∈ l) := by
  unfold Lib.contains
  by_cases h : 0 ∈ l
  · rw [(index_nul l).1 h, decide_eq_true h]; exact decide_eq_true (by omega)
  · rw [(index_nul l).2 h, decide_eq_false h]; rfl

theorem repeat_nul (n : Nat) : Lib.repeatL [0] n = List.replicate n 0 := by
  induction n with
  | zero => rfl
  | succ n ih => show [0] ++ Lib.repeatL [0] n = _; rw [ih]; rfl

/-- A text in so many bytes. -/
def txtWrite (l : List UInt8) (n : Int) : Option (List UInt8) :=
  if 0 ≤ n ∧ n ≤ 512 ∧ (l.length : Int) ≤ n ∧ 0 ∉ l then some (l ++ List.replicate (n.toNat - l.length) 0) else none

theorem txtRead_write (l : List UInt8) (m : Nat) (h : 0 ∉ l) : txtRead (l ++ List.replicate m 0) = l := by
  unfold txtRead
  rw [List.takeWhile_append, if_pos (by
    have := txtRead_all l h
    unfold txtRead at this
    rw [this])]
  cases m with
  | zero => simp
  | succ m => rw [List.replicate_succ]; simp

/-- A slash at i that parts a name: both fields fit, and the base isn't empty. -/
def parts (l : List UInt8) (i : Nat) : Prop := l[i]? = some 47 ∧ 1 ≤ i ∧ i ≤ 155 ∧ 1 ≤ l.length - i - 1 ∧ l.length - i - 1 ≤ 100 ∧ i < l.length

instance (l : List UInt8) (i : Nat) : Decidable (parts l i) := by unfold parts; infer_instance

/-- The last such place below k, or -1. -/
def lastPart (l : List UInt8) : Nat → Int
  | 0 => -1
  | k + 1 => if parts l k then k else lastPart l k

theorem lastPart_succ (l : List UInt8) (k : Nat) : lastPart l (k + 1) = if parts l k then (k : Int) else lastPart l k := rfl

theorem lastPart_spec (l : List UInt8) (k : Nat) : (lastPart l k = -1 ∧ ∀ j, j < k → ¬ parts l j) ∨ (∃ i : Nat, i < k ∧ lastPart l k = i ∧ parts l i ∧ ∀ j, i < j → j < k → ¬ parts l j) := by
  induction k with
  | zero => exact .inl ⟨rfl, fun j hj => absurd hj (by omega)⟩
  | succ k ih =>
    rw [lastPart_succ]
    by_cases h : parts l k
    · rw [if_pos h]
      exact .inr ⟨k, by omega, rfl, h, fun j h1 h2 => absurd h1 (by omega)⟩
    · rw [if_neg h]
      rcases ih with ⟨h1, h2⟩ | ⟨i, h1, h2, h3, h4⟩
      · refine .inl ⟨h1, fun j hj => ?_⟩
        by_cases hjk : j = k
        · subst hjk; exact h
        · exact h2 j (by omega)
      · refine .inr ⟨i, by omega, h2, h3, fun j h5 h6 => ?_⟩
        by_cases hjk : j = k
        · subst hjk; exact h
        · exact h4 j h5 (by omega)

theorem lastPart_uniq (l : List UInt8) (k i : Nat) (hi : i < k) (hp : parts l i) (hno : ∀ j, i < j → j < k → ¬ parts l j) : lastPart l k = i := by
  rcases lastPart_spec l k with ⟨_, h2⟩ | ⟨i', h1, h2, h3, h4⟩
  · exact absurd hp (h2 i hi)
  · rw [h2]
    rcases Nat.lt_trichotomy i i' with h | h | h
    · exact absurd h3 (hno i' h h1)
    · rw [h]
    · exact absurd hp (h4 i h hi)

theorem lastPart_none (l : List UInt8) (k : Nat) (hno : ∀ j, j < k → ¬ parts l j) : lastPart l k = -1 := by
  rcases lastPart_spec l k with ⟨h1, _⟩ | ⟨i, h1, _, h3, _⟩
  · exact h1
  · exact absurd h3 (hno i h1)

/-- A name in two fields. -/
def txtPart (l : List UInt8) : Option (List UInt8 × List UInt8) :=
  if l.length ≤ 100 then some ([], l)
  else if lastPart l l.length < 0 then none else some (l.take (lastPart l l.length).toNat, l.drop ((lastPart l l.length).toNat + 1))

theorem occ_slash (l : List UInt8) (i : Nat) : Lib.occAt l [47] i = true ↔ l[i]? = some 47 := by
  unfold Lib.occAt
  rw [← List.head?_drop]
  cases l.drop i with
  | nil => simp
  | cons b t =>
    constructor
    · intro h
      have : (47 : UInt8) = b := by simpa [List.isPrefixOf] using h
      rw [← this]; rfl
    · intro h
      have : b = 47 := by simpa using h
      rw [this]; rfl

/-- What the program looks for is what the document says. -/
theorem lastIndex_part (l : List UInt8) (h : 100 < l.length) :
    let s := Lib.lastIndex (l.take (min (l.length - 1) 156)) [47]
    (1 ≤ s ∧ (l.length : Int) - s - 1 ≤ 100 → lastPart l l.length = s) ∧ (¬ (1 ≤ s ∧ (l.length : Int) - s - 1 ≤ 100) → lastPart l l.length < 0) ∧ s < l.length ∧ -1 ≤ s := by
  intro s
  have hlen : (l.take (min (l.length - 1) 156)).length = min (l.length - 1) 156 := by rw [List.length_take]; omega
  have hs : s = Lib.lastOcc (l.take (min (l.length - 1) 156)) [47] (min (l.length - 1) 156) := by
    show Lib.lastIndex _ _ = _
    unfold Lib.lastIndex
    rw [hlen, if_pos (by simp; omega)]
    congr 1
    simp; omega
  have hocc : ∀ j, j < min (l.length - 1) 156 → (Lib.occAt (l.take (min (l.length - 1) 156)) [47] j = true ↔ l[j]? = some 47) := by
    intro j hj
    rw [occ_slash, List.getElem?_take_of_lt hj]
  rcases Lib.lastOcc_spec (l.take (min (l.length - 1) 156)) [47] (min (l.length - 1) 156) with ⟨h1, h2⟩ | ⟨i, h1, h2, h3, h4⟩
  · rw [← hs] at h1
    refine ⟨fun h5 => by omega, fun _ => ?_, by omega, by omega⟩
    rw [lastPart_none l l.length]
    · decide
    · rintro j hj ⟨p1, p2, p3, p4, p5, p6⟩
      have hjm : j < min (l.length - 1) 156 := by omega
      have := (hocc j hjm).2 p1
      rw [h2 j hjm] at this; cases this
  · rw [← hs] at h2
    have p1 := (hocc i h1).1 h3
    have later : ∀ j, i < j → j < l.length → ¬ parts l j := by
      rintro j hj1 hj2 ⟨q1, q2, q3, q4, q5, q6⟩
      have hjm : j < min (l.length - 1) 156 := by omega
      have := (hocc j hjm).2 q1
      rw [h4 j hj1 hjm] at this; cases this
    refine ⟨fun h5 => ?_, fun h5 => ?_, by omega, by omega⟩
    · rw [h2]
      exact lastPart_uniq l l.length i (by omega) ⟨p1, by omega, by omega, by omega, by omega, by omega⟩ later
    · rw [lastPart_none l l.length]
      · decide
      · intro j hj
        rcases Nat.lt_trichotomy i j with hij | hij | hij
        · exact later j hij hj
        · subst hij
          rintro ⟨q1, q2, q3, q4, q5, q6⟩
          apply h5; omega
        · rintro ⟨q1, q2, q3, q4, q5, q6⟩
          apply h5; omega

theorem part_join (l p b : List UInt8) (h : txtPart l = some (p, b)) : (if p = [] then b else p ++ 47 :: b) = l ∧ p.length ≤ 155 ∧ b.length ≤ 100 := by
  unfold txtPart at h
  by_cases h1 : l.length ≤ 100
  · rw [if_pos h1] at h
    cases h
    exact ⟨by simp, by simp, h1⟩
  · rw [if_neg h1] at h
    rcases lastPart_spec l l.length with ⟨h2, _⟩ | ⟨i, h2, h3, ⟨p1, p2, p3, p4, p5, p6⟩, _⟩
    · rw [h2, if_pos (by decide)] at h; cases h
    · rw [h3, if_neg (by omega), Int.toNat_natCast] at h
      cases h
      have hi : i < l.length := h2
      have he : l[i] = 47 := by rw [List.getElem?_eq_getElem hi] at p1; simpa using p1
      have hne : l.take i ≠ [] := by
        intro e
        have : (l.take i).length = 0 := by rw [e]; rfl
        rw [List.length_take] at this; omega
      refine ⟨?_, by rw [List.length_take]; omega, by rw [List.length_drop]; omega⟩
      rw [if_neg hne, ← he, ← drop_at hi, List.take_append_drop]
end Go.Proofs.YtjmmecokfijglaaGreatDoor
