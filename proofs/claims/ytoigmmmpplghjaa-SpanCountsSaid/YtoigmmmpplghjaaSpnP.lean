/-
  Plain numbers of a payload in whole blocks. No row of the program is read here.
-/
import Derived.Test.YtoigmmmpplghjaaBase
import Derived.Lib.Repeat
namespace Go.Proofs.Ytoigmmmpplghjaa
open Go.ChangeShapes Go.WideShapes Go.ChangeAt Go.RowKit

/-- Bytes of padding, and blocks, of a payload of n bytes. -/
def padN (n : Nat) : Nat := (512 - n % 512) % 512
def blkN (n : Nat) : Nat := (n + padN n) / 512

theorem padN_lt (n : Nat) : padN n < 512 := Nat.mod_lt _ (by decide)
theorem blkN_eq (n : Nat) : 512 * blkN n = n + padN n := by unfold blkN padN; omega
theorem blkN_up (n : Nat) : blkN n = n / 512 + (if 0 < n % 512 then 1 else 0) := by unfold blkN padN; split <;> omega

def payMax : Int := 1099511627776
/-- May a payload have so many bytes? -/
def payOk (n : Int) : Bool := decide (0 ≤ n ∧ n ≤ payMax)

/-- The payload of whole blocks, and an error's number. -/
def unpadOf (l : List UInt8) (n : Int) : List UInt8 × Int :=
  if payOk n = true then
    if l.length < n.toNat + padN n.toNat then ([], 3)
    else if l.drop n.toNat = List.replicate (padN n.toNat) 0 then (l.take n.toNat, 0) else ([], 2)
  else ([], 6)

def padOf (l : List UInt8) : List UInt8 := l ++ List.replicate (padN l.length) 0

theorem padOf_length (l : List UInt8) : (padOf l).length = 512 * blkN l.length := by
  unfold padOf
  rw [List.length_append, List.length_replicate, blkN_eq]

theorem unpad_pad (l : List UInt8) (h : l.length ≤ 3000) : unpadOf (padOf l) l.length = (l, 0) := by
  unfold unpadOf padOf
  rw [if_pos (by unfold payOk payMax; exact decide_eq_true ⟨by omega, by omega⟩)]
  simp only [Int.toNat_natCast]
  rw [if_neg (by simp), if_pos (by simp)]
  simp

/-- A run of bytes that all are NUL. -/
theorem blank_rep (l : List UInt8) : l.all (· == 0) = true ↔ l = List.replicate l.length 0 := by
  rw [List.all_eq_true, List.eq_replicate_iff]
  simp

theorem repeat_nul1 (n : Nat) : Lib.repeatL [0] n = List.replicate n 0 := by
  have := Lib.repeatL_replicate 0 1 n
  simpa using this
end Go.Proofs.Ytoigmmmpplghjaa
