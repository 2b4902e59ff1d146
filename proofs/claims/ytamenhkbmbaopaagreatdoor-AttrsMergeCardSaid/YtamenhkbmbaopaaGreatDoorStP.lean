/-
  Plain functions: stamps. No row of the program is read here.
-/
import Derived.Test.YtamenhkbmbaopaaGreatDoorBase
namespace Go.Proofs.YtamenhkbmbaopaaGreatDoor
open Go.ChangeShapes Go.WideShapes Go.ChangeAt Go.RowKit

def stRight (s n : Int) : Bool := decide (-9007199254740991 ≤ s ∧ s ≤ 9007199254740991 ∧ 0 ≤ n ∧ n ≤ 999999999)
theorem stRight_true {s n : Int} (h : stRight s n = true) : -9007199254740991 ≤ s ∧ s ≤ 9007199254740991 ∧ 0 ≤ n ∧ n ≤ 999999999 := by simpa [stRight] using h
/-- The same number with the other sign. -/
def stOpp (s n : Int) : Int × Int := if n = 0 then (-s, 0) else (-s - 1, 1000000000 - n)
def stCmp (s n s' n' : Int) : Int := if s < s' then -1 else if s' < s then 1 else if n < n' then -1 else if n' < n then 1 else 0
theorem stCmp_neg (s n s' n' : Int) : stCmp s' n' s n = -stCmp s n s' n' := by unfold stCmp; split <;> split <;> (try split) <;> (try split) <;> omega

/-- So many nanoseconds later. -/
def stLater (s n d : Int) : Int × Int := (s + (n + d) / 1000000000, (n + d) % 1000000000)
def stAdd (s n d : Int) : (Int × Int) × Int := if stRight (stLater s n d).1 (stLater s n d).2 = true then (stLater s n d, 0) else ((0, 0), 6)

/-- Go's quotient and remainder by a second. -/
theorem tparts (x : Int) : ∃ q r : Int, x.tdiv 1000000000 = q ∧ x.tmod 1000000000 = r ∧ q * 1000000000 + r = x ∧ -999999999 ≤ r ∧ r ≤ 999999999 := by
  refine ⟨_, _, rfl, rfl, ?_⟩
  rcases Int.le_total 0 x with h | h
  · rw [Int.tdiv_eq_ediv_of_nonneg h, Int.tmod_eq_emod_of_nonneg h]
    omega
  · obtain ⟨y, rfl⟩ : ∃ y, x = -y := ⟨-x, by omega⟩
    rw [Int.neg_tdiv, Int.neg_tmod, Int.tdiv_eq_ediv_of_nonneg (by omega), Int.tmod_eq_emod_of_nonneg (by omega)]
    omega
theorem stLater_of {s n d q r : Int} (h : q * 1000000000 + r = n + d) (h0 : 0 ≤ r) (h1 : r ≤ 999999999) : stLater s n d = (s + q, r) := by
  unfold stLater
  rw [show (n + d) / 1000000000 = q by omega, show (n + d) % 1000000000 = r by omega]
theorem stLater_of' {s n d q r : Int} (h : q * 1000000000 + r = n + d) (h0 : r < 0) (h1 : -999999999 ≤ r) : stLater s n d = (s + (q - 1), r + 1000000000) := by
  unfold stLater
  rw [show (n + d) / 1000000000 = q - 1 by omega, show (n + d) % 1000000000 = r + 1000000000 by omega]
theorem stCmp_bd (s n s' n' : Int) : -1 ≤ stCmp s n s' n' ∧ stCmp s n s' n' ≤ 1 := by
  unfold stCmp
  split
  · omega
  · split
    · omega
    · split
      · omega
      · split <;> omega
theorem later_back {s n d : Int} (h0 : 0 ≤ n) (h1 : n ≤ 999999999) : stLater (stLater s n d).1 (stLater s n d).2 (-d) = (s, n) := by
  unfold stLater
  simp only
  refine Prod.ext ?_ ?_ <;> simp only <;> omega
theorem cmp_later {s n d : Int} (h0 : 0 ≤ n) (h1 : n ≤ 999999999) : decide (0 < stCmp (stLater s n d).1 (stLater s n d).2 s n) = decide (0 < d) := by
  rw [decide_eq_decide]
  unfold stCmp stLater
  simp only
  split
  · omega
  · split
    · omega
    · split
      · omega
      · split <;> omega
end Go.Proofs.YtamenhkbmbaopaaGreatDoor
