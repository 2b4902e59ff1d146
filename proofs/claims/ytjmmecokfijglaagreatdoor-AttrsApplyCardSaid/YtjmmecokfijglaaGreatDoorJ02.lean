/-
  Texts of this seat's proof, joined: their order is that of the build.
-/
import Derived.Test.YtjmmecokfijglaaGreatDoorJ01
namespace Go.Proofs.YtjmmecokfijglaaGreatDoor
open Go.ChangeShapes Go.WideShapes Go.ChangeAt Go.RowKit

def isSize (n : Int) : Bool := decide (2 ≤ n) && decide (n ≤ 12)
def inRange (n : Int) : Bool := decide (-9007199254740991 ≤ n) && decide (n ≤ 9007199254740991)

/-- The document's saturating step. -/
def radd (b v d : Int) : Int := if 9007199254740991 < v then v else v * b + d

def readBinary : Int → List UInt8 → Int × Int
  | x, [] => (x, 0)
  | x, b :: l => if inRange (x * 256 + b.toNat) = true then readBinary (x * 256 + b.toNat) l else (0, 6)

theorem readBinary_cons (x : Int) (b : UInt8) (l : List UInt8) :
    readBinary x (b :: l) = if inRange (x * 256 + b.toNat) = true then readBinary (x * 256 + b.toNat) l else (0, 6) := rfl

/-- Two's complement: a number whose low eight bits are clear, joined with a byte. -/
theorem i64_or8 (x y : Int) (h0 : -9223372036854775808 ≤ x) (h1 : x ≤ 9223372036854775807) (hx : x % 256 = 0) (hy0 : 0 ≤ y) (hy : y < 256) : bits .or .i64 x y = x + y := by
  obtain ⟨b, rfl⟩ := Int.eq_ofNat_of_zero_le hy0
  have hb : b < 256 := by omega
  obtain ⟨a, ha⟩ : ∃ a : Nat, (x % 18446744073709551616) = (a : Int) := ⟨(x % 18446744073709551616).toNat, by omega⟩
  have haN : a < 18446744073709551616 := by omega
  have ha8 : a % 256 = 0 := by omega
  have hbx : (BitVec.ofInt 64 x).toNat = a := by
    rw [BitVec.toNat_ofInt]
    have : ((2 ^ 64 : Nat) : Int) = 18446744073709551616 := by decide
    rw [this, ha]; rfl
  have hby : (BitVec.ofInt 64 (b : Int)).toNat = b := by
    rw [BitVec.toNat_ofInt]
    have : ((2 ^ 64 : Nat) : Int) = 18446744073709551616 := by decide
    rw [this]; omega
  have hq : a = 2 ^ 8 * (a / 2 ^ 8) := by have := Nat.div_add_mod a 256; omega
  have hor : a ||| b = a + b := by
    rw [hq, ← Nat.two_pow_add_eq_or_of_lt (by omega) (a / 2 ^ 8)]
  show IntKind.i64.wrap ((BitVec.ofInt 64 x ||| BitVec.ofInt 64 (b : Int)).toNat : Int) = _
  rw [BitVec.toNat_or, hbx, hby, hor, IntKind.wrap_i64]
  omega

theorem shl8_or (z : Int) (b : UInt8) (h : inRange z = true) : bits .or .i64 (wrap64 (z * 256)) (b.toNat : Int) = z * 256 + b.toNat := by
  simp only [inRange, Bool.and_eq_true, decide_eq_true_eq] at h
  have hb := byte_lt b
  rw [IntWalk.wrap64_in _ (by omega), i64_or8 _ _ (by omega) (by omega) (by omega) (by omega) hb]

/-- part, number, and what is left of the field. -/
def readOctal : Int → Int → List UInt8 → Int × Int
  | _, z, [] => (z, 0)
  | q, z, b :: l =>
    if q = 0 ∧ (b.toNat : Int) = 32 then readOctal 0 z l
    else if q ≠ 2 ∧ 48 ≤ (b.toNat : Int) ∧ (b.toNat : Int) ≤ 55 then readOctal 1 (z * 8 + ((b.toNat : Int) - 48)) l
    else if (b.toNat : Int) = 0 ∨ (b.toNat : Int) = 32 then readOctal 2 z l
    else (0, 2)

theorem readOctal_cons (q z : Int) (b : UInt8) (l : List UInt8) : readOctal q z (b :: l) =
    if q = 0 ∧ (b.toNat : Int) = 32 then readOctal 0 z l
    else if q ≠ 2 ∧ 48 ≤ (b.toNat : Int) ∧ (b.toNat : Int) ≤ 55 then readOctal 1 (z * 8 + ((b.toNat : Int) - 48)) l
    else if (b.toNat : Int) = 0 ∨ (b.toNat : Int) = 32 then readOctal 2 z l
    else (0, 2) := rfl

theorem pow8_succ (k : Nat) (h : k ≤ 12) : (8 : Int) ^ (k + 1) = 8 * 8 ^ k ∧ 1 ≤ (8 : Int) ^ k ∧ (8 : Int) ^ k ≤ 68719476736 := by
  refine ⟨by rw [Int.pow_succ]; omega, ?_, ?_⟩
  · have : 0 < (8 : Nat) ^ k := Nat.pos_of_ne_zero (by simp)
    have h2 : (((8 : Nat) ^ k : Nat) : Int) = (8 : Int) ^ k := by simp
    omega
  · have h1 : (8 : Nat) ^ k ≤ 8 ^ 12 := Nat.pow_le_pow_right (by decide) h
    have h2 : (((8 : Nat) ^ k : Nat) : Int) = (8 : Int) ^ k := by simp
    have h3 : (8 : Nat) ^ 12 = 68719476736 := by decide
    omega

theorem two62 : (2 : Int) ^ 62 = 4611686018427387904 := by decide
theorem i64_or3 (z y : Int) (h0 : 0 ≤ z) (h1 : z ≤ 68719476736) (hy0 : 0 ≤ y) (hy : y < 8) : bits .or .i64 (wrap64 (z * 8)) y = z * 8 + y := by
  rw [IntWalk.wrap64_in _ (by omega)]
  refine bits_join .i64 62 (by decide) (fun n h h' => IntWalk.i64_in n ?_) 3 (z * 8) y ?_ ?_ ?_ hy0 ?_ ?_
  all_goals (try rw [two62] at *)
  all_goals omega

/-! ### The document's own answer -/
def refFold (base : Int) (f : UInt8 → Int) : Int → List UInt8 → Int
  | v, [] => v
  | v, b :: l => refFold base f (radd base v (f b)) l

theorem refFold_cons (base : Int) (f : UInt8 → Int) (v : Int) (b : UInt8) (l : List UInt8) : refFold base f v (b :: l) = refFold base f (radd base v (f b)) l := rfl

theorem radd_big (v d : Int) (h : 9007199254740991 < v) : radd 256 v d = v := if_pos h

theorem refFold_big (f : UInt8 → Int) (v : Int) (l : List UInt8) (h : 9007199254740991 < v) : refFold 256 f v l = v := by
  induction l with
  | nil => rfl
  | cons b l ih => rw [refFold_cons, radd_big _ _ h, ih]

theorem readBinary_up (l : List UInt8) : ∀ v : Int, 0 ≤ v → v ≤ 9007199254740991 →
    readBinary v l = if 9007199254740991 < refFold 256 (fun b => (b.toNat : Int)) v l then (0, 6) else (refFold 256 (fun b => (b.toNat : Int)) v l, 0) := by
  induction l with
  | nil => intro v h0 h1; rw [if_neg (by simp only [refFold]; omega)]; rfl
  | cons b l ih =>
    intro v h0 h1
    have hb := byte_lt b
    rw [readBinary_cons, refFold_cons]
    have hr : radd 256 v (b.toNat : Int) = v * 256 + b.toNat := if_neg (by omega)
    rw [hr]
    by_cases h : v * 256 + (b.toNat : Int) ≤ 9007199254740991
    · rw [if_pos (by simp [inRange]; omega), ih _ (by omega) h]
    · rw [if_neg (by simp [inRange]; omega), refFold_big _ _ _ (by omega), if_pos (by omega)]

theorem readBinary_down (l : List UInt8) : ∀ v : Int, 0 ≤ v → v + 1 ≤ 9007199254740991 →
    readBinary (-v - 1) l = if 9007199254740991 < refFold 256 (fun b => 255 - (b.toNat : Int)) v l + 1 then (0, 6) else (-refFold 256 (fun b => 255 - (b.toNat : Int)) v l - 1, 0) := by
  induction l with
  | nil => intro v h0 h1; rw [if_neg (by simp only [refFold]; omega)]; rfl
  | cons b l ih =>
    intro v h0 h1
    have hb := byte_lt b
    rw [readBinary_cons, refFold_cons]
    have hr : radd 256 v (255 - (b.toNat : Int)) = v * 256 + (255 - b.toNat) := if_neg (by omega)
    rw [hr]
    have he : (-v - 1) * 256 + (b.toNat : Int) = -(v * 256 + (255 - (b.toNat : Int))) - 1 := by omega
    rw [he]
    by_cases h : v * 256 + (255 - (b.toNat : Int)) + 1 ≤ 9007199254740991
    · rw [if_pos (by simp [inRange]; omega), ih _ (by omega) h]
    · rw [if_neg (by simp [inRange]; omega)]
      by_cases h2 : v * 256 + (255 - (b.toNat : Int)) ≤ 9007199254740991
      · have hv : v * 256 + (255 - (b.toNat : Int)) = 9007199254740991 := by omega
        rw [hv]
        cases l with
        | nil => rfl
        | cons c l =>
          have hc := byte_lt c
          rw [refFold_cons, show radd 256 9007199254740991 (255 - (c.toNat : Int)) = 9007199254740991 * 256 + (255 - (c.toNat : Int)) from if_neg (by omega),
            refFold_big _ _ _ (by omega), if_pos (by omega)]
      · rw [refFold_big _ _ _ (by omega), if_pos (by omega)]

def skip32 : List UInt8 → List UInt8
  | [] => []
  | b :: l => if (b.toNat : Int) = 32 then skip32 l else b :: l

/-- Digits of base 8, as far as they stand; the number, and what is left. -/
def digRun : Int → List UInt8 → Int × List UInt8
  | v, [] => (v, [])
  | v, b :: l => if 48 ≤ (b.toNat : Int) ∧ (b.toNat : Int) ≤ 55 then digRun (radd 8 v ((b.toNat : Int) - 48)) l else (v, b :: l)

def allBlank : List UInt8 → Bool
  | [] => true
  | b :: l => if (b.toNat : Int) ≠ 32 ∧ (b.toNat : Int) ≠ 0 then false else allBlank l

def tailOf (v : Int) (r : List UInt8) : Int × Int :=
  if allBlank r = true then (if 9007199254740991 < v then (0, 6) else (v, 0)) else (0, 2)

def refOctal (l : List UInt8) : Int × Int := tailOf (digRun 0 (skip32 l)).1 (digRun 0 (skip32 l)).2

theorem skip32_cons (b : UInt8) (l : List UInt8) : skip32 (b :: l) = if (b.toNat : Int) = 32 then skip32 l else b :: l := rfl
theorem digRun_cons (v : Int) (b : UInt8) (l : List UInt8) : digRun v (b :: l) = if 48 ≤ (b.toNat : Int) ∧ (b.toNat : Int) ≤ 55 then digRun (radd 8 v ((b.toNat : Int) - 48)) l else (v, b :: l) := rfl
theorem allBlank_cons (b : UInt8) (l : List UInt8) : allBlank (b :: l) = if (b.toNat : Int) ≠ 32 ∧ (b.toNat : Int) ≠ 0 then false else allBlank l := rfl

theorem tailOf_skip (v : Int) (b : UInt8) (l : List UInt8) (h : (b.toNat : Int) = 0 ∨ (b.toNat : Int) = 32) : tailOf v (b :: l) = tailOf v l := by
  unfold tailOf
  rw [show allBlank (b :: l) = allBlank l by rw [allBlank_cons, if_neg (by omega)]]
theorem tailOf_bad (v : Int) (b : UInt8) (l : List UInt8) (h : ¬((b.toNat : Int) = 0 ∨ (b.toNat : Int) = 32)) : tailOf v (b :: l) = (0, 2) := by
  unfold tailOf
  rw [show allBlank (b :: l) = false by rw [allBlank_cons, if_pos (by omega)]]
  rfl
theorem tailOf_nil (v : Int) (h : v ≤ 9007199254740991) : tailOf v [] = (v, 0) := by
  unfold tailOf
  rw [show allBlank [] = true from rfl, if_pos (rfl : true = true), if_neg (by omega)]

theorem readOctal_rest (z : Int) (hz : z ≤ 9007199254740991) (l : List UInt8) : readOctal 2 z l = tailOf z l := by
  induction l with
  | nil => rw [tailOf_nil _ hz]; rfl
  | cons b l ih =>
    rw [readOctal_cons, if_neg (by omega), if_neg (by omega)]
    by_cases h : (b.toNat : Int) = 0 ∨ (b.toNat : Int) = 32
    · rw [if_pos h, tailOf_skip _ _ _ h, ih]
    · rw [if_neg h, tailOf_bad _ _ _ h]

theorem readOctal_digits (l : List UInt8) : ∀ z k : Int, 0 ≤ z → z < k → k * 8 ^ l.length ≤ 68719476736 → readOctal 1 z l = tailOf (digRun z l).1 (digRun z l).2 := by
  induction l with
  | nil => intro z k h0 h1 h2; simp at h2; exact (tailOf_nil z (by omega)).symm
  | cons b l ih =>
    intro z k h0 h1 h2
    have hb := byte_lt b
    have hp : (1 : Int) ≤ 8 ^ l.length := by
      have : 0 < (8 : Nat) ^ l.length := Nat.pos_of_ne_zero (by simp)
      have h2 : (((8 : Nat) ^ l.length : Nat) : Int) = (8 : Int) ^ l.length := by simp
      omega
    have hk : k * 8 ^ (l.length + 1) = (k * 8) * 8 ^ l.length := by rw [Int.pow_succ]; simp only [Int.mul_assoc, Int.mul_comm]
    rw [List.length_cons, hk] at h2
    have hz : k * 8 ≤ 68719476736 := by
      have : k * 8 * 1 ≤ k * 8 * 8 ^ l.length := Int.mul_le_mul_of_nonneg_left hp (by omega)
      omega
    rw [readOctal_cons, if_neg (by omega), digRun_cons]
    by_cases h : 48 ≤ (b.toNat : Int) ∧ (b.toNat : Int) ≤ 55
    · rw [if_pos (by omega), if_pos h, show radd 8 z ((b.toNat : Int) - 48) = z * 8 + ((b.toNat : Int) - 48) from if_neg (by omega)]
      exact ih _ (k * 8) (by omega) (by omega) h2
    · rw [if_neg (by omega), if_neg h]
      show _ = tailOf z (b :: l)
      by_cases h' : (b.toNat : Int) = 0 ∨ (b.toNat : Int) = 32
      · rw [if_pos h', tailOf_skip _ _ _ h', readOctal_rest _ (by omega)]
      · rw [if_neg h', tailOf_bad _ _ _ h']

theorem readOctal_skip (l : List UInt8) : readOctal 0 0 l = readOctal 1 0 (skip32 l) := by
  induction l with
  | nil => rfl
  | cons b l ih =>
    rw [readOctal_cons, skip32_cons]
    by_cases h : (b.toNat : Int) = 32
    · rw [if_pos ⟨rfl, h⟩, if_pos h, ih]
    · rw [if_neg (by omega), if_neg h, readOctal_cons]
      by_cases h2 : 48 ≤ (b.toNat : Int) ∧ (b.toNat : Int) ≤ 55
      · rw [if_pos (by omega), if_neg (by omega), if_pos (by omega)]
      · rw [if_neg (by omega), if_neg (by omega : ¬((1 : Int) = 0 ∧ _)), if_neg (by omega : ¬((1 : Int) ≠ 2 ∧ _))]

theorem skip32_length (l : List UInt8) : (skip32 l).length ≤ l.length := by
  induction l with
  | nil => exact Nat.le_refl _
  | cons b l ih => rw [skip32_cons]; split <;> simp; omega

theorem readOctal_ref (l : List UInt8) (h : l.length ≤ 12) : readOctal 0 0 l = refOctal l := by
  have hl := skip32_length l
  rw [readOctal_skip]
  refine readOctal_digits _ 0 1 (by decide) (by decide) ?_
  have := (pow8_succ (skip32 l).length (by omega)).2.2
  omega

/-- A field's number, or its error's. -/
def octRead (l : List UInt8) : Int × Int :=
  if isSize l.length = true then
    match l with
    | [] => (0, 1)
    | b :: t => if (b.toNat : Int) = 128 then readBinary 0 t else if (b.toNat : Int) = 255 then readBinary (-1) t else readOctal 0 0 (b :: t)
  else (0, 1)

end Go.Proofs.YtjmmecokfijglaaGreatDoor
namespace Go.Proofs.YtjmmecokfijglaaGreatDoor
open Go.ChangeShapes Go.WideShapes Go.ChangeAt Go.RowKit

/-! ### Writing -/
def octDig (v : Int) (n k : Nat) : UInt8 := UInt8.ofNat (48 + v / 2 ^ (3 * (n - 2 - k)) % 8).toNat
def octStr (v : Int) (n : Nat) : List UInt8 := (List.range (n - 1)).map (octDig v n) ++ [0]
def octPart (v : Int) (n k : Nat) : List UInt8 := (List.range n).map fun i => if i < k then octDig v n i else 0

def octalOf (v n : Int) : Option (List UInt8) := if isSize n = true ∧ 0 ≤ v ∧ v / 2 ^ (3 * (n.toNat - 1)) = 0 then some (octStr v n.toNat) else none

theorem octPart_length (v : Int) (n k : Nat) : (octPart v n k).length = n := by simp [octPart]
theorem octPart_zero (v : Int) (n : Nat) : octPart v n 0 = List.replicate n 0 := by
  apply List.ext_getElem
  · simp [octPart]
  · intro i h1 h2; simp [octPart]
theorem octPart_succ (v : Int) (n k : Nat) : (octPart v n k).set k (octDig v n k) = octPart v n (k + 1) := by
  apply List.ext_getElem
  · simp [octPart]
  · intro i h1 h2
    rw [List.getElem_set]
    simp only [octPart, List.getElem_map, List.getElem_range]
    by_cases h : k = i
    · subst h; rw [if_pos rfl, if_pos (Nat.lt_succ_self _)]
    · rw [if_neg h]
      by_cases h3 : i < k
      · rw [if_pos h3, if_pos (by omega)]
      · rw [if_neg h3, if_neg (by omega)]
theorem octPart_full (v : Int) (n : Nat) (h : 1 ≤ n) : octPart v n (n - 1) = octStr v n := by
  apply List.ext_getElem
  · simp [octPart, octStr]; omega
  · intro i h1 h2
    simp only [octPart, octStr, List.getElem_map, List.getElem_range]
    rw [octPart_length] at h1
    by_cases h3 : i < n - 1
    · rw [if_pos h3, List.getElem_append_left (by simpa using h3)]; simp
    · rw [if_neg h3, List.getElem_append_right (by simp; omega)]; simp

theorem i64_and7 (x : Int) : bits .and .i64 x 7 = x % 8 := by
  have h7 : (BitVec.ofInt 64 7).toNat = 7 := by decide
  show IntKind.i64.wrap ((BitVec.ofInt 64 x &&& BitVec.ofInt 64 7).toNat : Int) = _
  rw [BitVec.toNat_and, h7, BitVec.toNat_ofInt]
  have h64 : ((2 ^ 64 : Nat) : Int) = 18446744073709551616 := by decide
  rw [h64]
  have hm : ∀ a : Nat, a &&& 7 = a % 8 := fun a => Nat.and_two_pow_sub_one_eq_mod a 3
  rw [hm, IntKind.wrap_i64]
  omega

theorem octDig_int (v : Int) (n k : Nat) : (UInt8.ofNat (48 + v / 2 ^ (3 * (n - 2 - k)) % 8).toNat) = octDig v n k := rfl

/-! ### Binary -/
/-- v, shifted to the right by so many bits. -/
def shr (v : Int) (c : Nat) : Int := v / 2 ^ min c 64
theorem shift_shr_nat (v c : Int) (h : 0 ≤ c) : Op.shift .shr .i64 v .i64 c = pure (.int .i64 (shr v c.toNat)) := shift_shr_any .i64 .i64 v c h
def binDig (v : Int) (n k : Nat) : UInt8 := UInt8.ofNat (shr v (8 * (n - 1 - k)) % 256).toNat
def binFirst (v : Int) : UInt8 := if v < 0 then 255 else 128
def binStr (v : Int) (n : Nat) : List UInt8 := (List.range n).map fun i => if i = 0 then binFirst v else binDig v n i
def binPart (v : Int) (n k : Nat) : List UInt8 := (List.range n).map fun i => if i = 0 then binFirst v else if i < k then binDig v n i else 0

theorem binPart_length (v : Int) (n k : Nat) : (binPart v n k).length = n := by simp [binPart]
theorem binPart_one (v : Int) (n : Nat) : (List.replicate n 0).set 0 (binFirst v) = binPart v n 1 := by
  apply List.ext_getElem
  · simp [binPart]
  · intro i h1 h2
    rw [List.getElem_set]
    simp only [binPart, List.getElem_map, List.getElem_range, List.getElem_replicate]
    by_cases h : i = 0
    · subst h; simp
    · rw [if_neg (by omega), if_neg h, if_neg (by omega)]
theorem binPart_succ (v : Int) (n k : Nat) (hk : 1 ≤ k) : (binPart v n k).set k (binDig v n k) = binPart v n (k + 1) := by
  apply List.ext_getElem
  · simp [binPart]
  · intro i h1 h2
    rw [List.getElem_set]
    simp only [binPart, List.getElem_map, List.getElem_range]
    by_cases h : k = i
    · subst h; rw [if_pos rfl, if_neg (by omega), if_pos (Nat.lt_succ_self _)]
    · rw [if_neg h]
      by_cases h0 : i = 0
      · rw [if_pos h0, if_pos h0]
      · rw [if_neg h0, if_neg h0]
        by_cases h3 : i < k
        · rw [if_pos h3, if_pos (by omega)]
        · rw [if_neg h3, if_neg (by omega)]
theorem binPart_full (v : Int) (n : Nat) : binPart v n n = binStr v n := by
  apply List.ext_getElem
  · simp [binPart, binStr]
  · intro i h1 h2
    simp only [binPart, binStr, List.getElem_map, List.getElem_range]
    rw [binPart_length] at h1
    by_cases h0 : i = 0
    · rw [if_pos h0, if_pos h0]
    · rw [if_neg h0, if_neg h0, if_pos h1]

/-- What stands above the bytes behind the first one. -/
def above (v : Int) (n : Nat) : Int := shr v (8 * (n - 1))
def binaryOf (v n : Int) : Option (List UInt8) := if isSize n = true ∧ (above v n.toNat = 0 ∨ above v n.toNat = -1) then some (binStr v n.toNat) else none

def octWrite (v n : Int) : List UInt8 × Int :=
  if isSize n = true then
    if inRange v = true then
      match octalOf v n with
      | some s => (s, 0)
      | none => match binaryOf v n with
        | some s => (s, 0)
        | none => ([], 6)
    else ([], 6)
  else ([], 1)
end Go.Proofs.YtjmmecokfijglaaGreatDoor
