/-
  Plain functions on lists of bytes: what package octal writes. No row of the program is read here.
-/
import Derived.Test.YtamenhkbmbaopaaGreatDoorOctP
namespace Go.Proofs.YtamenhkbmbaopaaGreatDoor
open Go.ChangeShapes Go.WideShapes Go.ChangeAt Go.RowKit

/-! ### Writing -/
def octDig (v : Int) (n k : Nat) : UInt8 := UInt8.ofNat (48 + v / 2 ^ (3 * (n - 2 - k)) % 8).toNat
def octStr (v : Int) (n : Nat) : List UInt8 := (List.range (n - 1)).map (octDig v n) ++ [0]
def octPart (v : Int) (n k : Nat) : List UInt8 := (List.range n).map fun i => if i < k then octDig v n i else 0

def octalOf (v n : Int) : Option (List UInt8) := if isSize n = true ∧ 0 ≤ v ∧ v / 2 ^ (3 * (n.toNat - 1)) = 0 then some (octStr v n.toNat) else none

theorem octPart_length (v : Int) (n k : Nat) : (octPart v n k).length = n := by simp [octPart]
theorem octPart_zero (v : Int) (n : Nat) : octPart v n 0 = List.replicate n 0 := by
  apply List.ext_getElem
  · simp [octPart]
  · intro i h1 h2; simp [octPart]
theorem octPart_succ (v : Int) (n k : Nat) : (octPart v n k).set k (octDig v n k) = octPart v n (k + 1) := by
  apply List.ext_getElem
  · simp [octPart]
  · intro i h1 h2
    rw [List.getElem_set]
    simp only [octPart, List.getElem_map, List.getElem_range]
    by_cases h : k = i
    · subst h; rw [if_pos rfl, if_pos (Nat.lt_succ_self _)]
    · rw [if_neg h]
      by_cases h3 : i < k
      · rw [if_pos h3, if_pos (by omega)]
      · rw [if_neg h3, if_neg (by omega)]
theorem octPart_full (v : Int) (n : Nat) (h : 1 ≤ n) : octPart v n (n - 1) = octStr v n := by
  apply List.ext_getElem
  · simp [octPart, octStr]; omega
  · intro i h1 h2
    simp only [octPart, octStr, List.getElem_map, List.getElem_range]
    rw [octPart_length] at h1
    by_cases h3 : i < n - 1
    · rw [if_pos h3, List.getElem_append_left (by simpa using h3)]; simp
    · rw [if_neg h3, List.getElem_append_right (by simp; omega)]; simp

theorem i64_and7 (x : Int) : bits .and .i64 x 7 = x % 8 := by
  have h7 : (BitVec.ofInt 64 7).toNat = 7 := by decide
  show IntKind.i64.wrap ((BitVec.ofInt 64 x &&& BitVec.ofInt 64 7).toNat : Int) = _
  rw [BitVec.toNat_and, h7, BitVec.toNat_ofInt]
  have h64 : ((2 ^ 64 : Nat) : Int) = 18446744073709551616 := by decide
  rw [h64]
  have hm : ∀ a : Nat, a &&& 7 = a % 8 := fun a => Nat.and_two_pow_sub_one_eq_mod a 3
  rw [hm, IntKind.wrap_i64]
  omega

theorem octDig_int (v : Int) (n k : Nat) : (UInt8.ofNat (48 + v / 2 ^ (3 * (n - 2 - k)) % 8).toNat) = octDig v n k := rfl

/-! ### Binary -/
/-- v, shifted to the right by so many bits. -/
def shr (v : Int) (c : Nat) : Int := v / 2 ^ min c 64
theorem shift_shr_nat (v c : Int) (h : 0 ≤ c) : Op.shift .shr .i64 v .i64 c = pure (.int .i64 (shr v c.toNat)) := shift_shr_any .i64 .i64 v c h
def binDig (v : Int) (n k : Nat) : UInt8 := UInt8.ofNat (shr v (8 * (n - 1 - k)) % 256).toNat
def binFirst (v : Int) : UInt8 := if v < 0 then 255 else 128
def binStr (v : Int) (n : Nat) : List UInt8 := (List.range n).map fun i => if i = 0 then binFirst v else binDig v n i
def binPart (v : Int) (n k : Nat) : List UInt8 := (List.range n).map fun i => if i = 0 then binFirst v else if i < k then binDig v n i else 0

theorem binPart_length (v : Int) (n k : Nat) : (binPart v n k).length = n := by simp [binPart]
theorem binPart_one (v : Int) (n : Nat) : (List.replicate n 0).set 0 (binFirst v) = binPart v n 1 := by
  apply List.ext_getElem
  · simp [binPart]
  · intro i h1 h2
    rw [List.getElem_set]
    simp only [binPart, List.getElem_map, List.getElem_range, List.getElem_replicate]
    by_cases h : i = 0
    · subst h; simp
    · rw [if_neg (by omega), if_neg h, if_neg (by omega)]
theorem binPart_succ (v : Int) (n k : Nat) (hk : 1 ≤ k) : (binPart v n k).set k (binDig v n k) = binPart v n (k + 1) := by
  apply List.ext_getElem
  · simp [binPart]
  · intro i h1 h2
    rw [List.getElem_set]
    simp only [binPart, List.getElem_map, List.getElem_range]
    by_cases h : k = i
    · subst h; rw [if_pos rfl, if_neg (by omega), if_pos (Nat.lt_succ_self _)]
    · rw [if_neg h]
      by_cases h0 : i = 0
      · rw [if_pos h0, if_pos h0]
      · rw [if_neg h0, if_neg h0]
        by_cases h3 : i < k
        · rw [if_pos h3, if_pos (by omega)]
        · rw [if_neg h3, if_neg (by omega)]
theorem binPart_full (v : Int) (n : Nat) : binPart v n n = binStr v n := by
  apply List.ext_getElem
  · simp [binPart, binStr]
  · intro i h1 h2
    simp only [binPart, binStr, List.getElem_map, List.getElem_range]
    rw [binPart_length] at h1
    by_cases h0 : i = 0
    · rw [if_pos h0, if_pos h0]
    · rw [if_neg h0, if_neg h0, if_pos h1]

/-- What stands above the bytes behind the first one. -/
def above (v : Int) (n : Nat) : Int := shr v (8 * (n - 1))
def binaryOf (v n : Int) : Option (List UInt8) := if isSize n = true ∧ (above v n.toNat = 0 ∨ above v n.toNat = -1) then some (binStr v n.toNat) else none

def octWrite (v n : Int) : List UInt8 × Int :=
  if isSize n = true then
    if inRange v = true then
      match octalOf v n with
      | some s => (s, 0)
      | none => match binaryOf v n with
        | some s => (s, 0)
        | none => ([], 6)
    else ([], 6)
  else ([], 1)
end Go.Proofs.YtamenhkbmbaopaaGreatDoor
