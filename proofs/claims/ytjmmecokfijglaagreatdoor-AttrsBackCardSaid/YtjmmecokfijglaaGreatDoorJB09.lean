/-
  Texts of this seat's proof, joined: their order is that of the build.
-/
import Derived.Test.YtjmmecokfijglaaGreatDoorJB08
import Derived.Lib.IndexBytes
import Derived.Lib.TrimByte
import Derived.Lib.Repeat
import Derived.Lib.ItoaNum
namespace Go.Proofs.YtjmmecokfijglaaGreatDoor
open Go.ChangeShapes Go.WideShapes Go.ChangeAt Go.RowKit

def isDig (b : UInt8) : Bool := decide (48 ≤ (b.toNat : Int) ∧ (b.toNat : Int) ≤ 57)
def allDig : List UInt8 → Bool
  | [] => true
  | b :: l => isDig b && allDig l
def numD : Int → List UInt8 → Int
  | v, [] => v
  | v, b :: l => numD (v * 10 + ((b.toNat : Int) - 48)) l
theorem numD_cons (v : Int) (b : UInt8) (l : List UInt8) : numD v (b :: l) = numD (v * 10 + ((b.toNat : Int) - 48)) l := rfl
theorem isDig_true {b : UInt8} (h : isDig b = true) : 48 ≤ (b.toNat : Int) ∧ (b.toNat : Int) ≤ 57 := by simpa [isDig] using h
theorem isDig_mk {b : UInt8} (h0 : 48 ≤ (b.toNat : Int)) (h1 : (b.toNat : Int) ≤ 57) : isDig b = true := by simp [isDig]; omega
theorem allDig_append (x y : List UInt8) : allDig (x ++ y) = (allDig x && allDig y) := by
  induction x with
  | nil => rfl
  | cons b x ih => rw [List.cons_append]; show (isDig b && allDig (x ++ y)) = ((isDig b && allDig x) && allDig y); rw [ih, Bool.and_assoc]
theorem numD_append (x y : List UInt8) : ∀ v, numD v (x ++ y) = numD (numD v x) y := by
  induction x with
  | nil => intro v; rfl
  | cons b x ih => intro v; rw [List.cons_append, numD_cons, ih, numD_cons]
theorem numD_bd (l : List UInt8) : ∀ v : Int, 0 ≤ v → allDig l = true → 0 ≤ numD v l ∧ numD v l < (v + 1) * 10 ^ l.length := by
  induction l with
  | nil => intro v h0 _; simp [numD]; omega
  | cons b l ih =>
    intro v h0 h
    have h1 : isDig b = true ∧ allDig l = true := by simpa [allDig] using h
    have hb := isDig_true h1.1
    have hi := ih (v * 10 + ((b.toNat : Int) - 48)) (by omega) h1.2
    refine ⟨hi.1, Int.lt_of_lt_of_le hi.2 ?_⟩
    rw [List.length_cons, Int.pow_succ]
    have hp : (0 : Int) ≤ 10 ^ l.length := Int.le_of_lt (Int.pow_pos (by decide))
    have hm : (v * 10 + ((b.toNat : Int) - 48) + 1) ≤ (v + 1) * 10 := by omega
    have := Int.mul_le_mul_of_nonneg_right hm hp
    rw [Int.mul_comm (10 ^ l.length) 10, ← Int.mul_assoc]
    exact this
theorem numD_bd16 (l : List UInt8) (h : allDig l = true) (hl : l.length ≤ 16) : 0 ≤ numD 0 l ∧ numD 0 l ≤ 9999999999999999 := by
  have h1 := numD_bd l 0 (by decide) h
  have h2 : (10 : Int) ^ l.length ≤ 10 ^ 16 := by
    have h : (10 : Nat) ^ l.length ≤ 10 ^ 16 := Nat.pow_le_pow_right (by decide) hl
    have e : (((10 : Nat) ^ l.length : Nat) : Int) = (10 : Int) ^ l.length := by simp
    have e2 : (10 : Nat) ^ 16 = 10000000000000000 := by decide
    have e3 : (10 : Int) ^ 16 = 10000000000000000 := by decide
    rw [e3]; omega
  have e3 : (10 : Int) ^ 16 = 10000000000000000 := by decide
  omega
theorem numD_bd9 (l : List UInt8) (h : allDig l = true) (hl : l.length = 9) : 0 ≤ numD 0 l ∧ numD 0 l ≤ 999999999 := by
  have h1 := numD_bd l 0 (by decide) h
  rw [hl] at h1
  have e3 : (10 : Int) ^ 9 = 1000000000 := by decide
  omega
theorem numD_noughts (k : Nat) : ∀ v : Int, numD v (List.replicate k 48) = v * 10 ^ k := by
  induction k with
  | zero => intro v; simp [numD]
  | succ k ih =>
    intro v
    rw [List.replicate_succ, numD_cons, ih]
    have : ((48 : UInt8).toNat : Int) = 48 := rfl
    rw [this, Int.pow_succ, show v * 10 + (48 - 48) = v * 10 by omega, Int.mul_assoc, Int.mul_comm 10 ((10 : Int) ^ k)]

/-- Digits, at least one, at most so many. -/
def areDig (l : List UInt8) (m : Int) : Bool := decide (l ≠ [] ∧ (l.length : Int) ≤ m) && allDig l

def minusOf (l : List UInt8) : Bool := [45].isPrefixOf l
def numOf (l : List UInt8) : List UInt8 := if minusOf l then l.drop 1 else l
def aheadOf (l : List UInt8) : List UInt8 := l.takeWhile (· != 46)
def behindOf (l : List UInt8) : List UInt8 := (l.dropWhile (· != 46)).drop 1
def hasDot (l : List UInt8) : Bool := decide (46 ∈ l)

def stTail (m : Bool) (t : Int × Int) : (Int × Int) × Int :=
  let u := if m then stOpp t.1 t.2 else t
  if stRight u.1 u.2 = true then (u, 0) else ((0, 0), 6)
def fracOf (l : List UInt8) : List UInt8 := (l ++ List.replicate 9 48).take 9
def stForm (l : List UInt8) : Bool := areDig (aheadOf l) 16 && (!hasDot l || areDig (behindOf l) 40)
/-- A text as a stamp, or its error. -/
def stParse (l : List UInt8) : (Int × Int) × Int :=
  if stForm (numOf l) = true then stTail (minusOf l) (numD 0 (aheadOf (numOf l)), numD 0 (fracOf (behindOf (numOf l)))) else ((0, 0), 2)

theorem fracOf_length (l : List UInt8) : (fracOf l).length = 9 := by simp [fracOf]
theorem allDig_take (l : List UInt8) : ∀ n, allDig l = true → allDig (l.take n) = true := by
  induction l with
  | nil => intro n h; simp [allDig]
  | cons b l ih =>
    intro n h
    have h1 : isDig b = true ∧ allDig l = true := by simpa [allDig] using h
    cases n with
    | zero => rfl
    | succ n => rw [List.take_succ_cons]; show (isDig b && allDig (l.take n)) = true; rw [h1.1, ih n h1.2]; rfl
theorem allDig_noughts (k : Nat) : allDig (List.replicate k 48) = true := by
  induction k with
  | zero => rfl
  | succ k ih => rw [List.replicate_succ]; show (isDig 48 && _) = true; rw [ih]; rfl
theorem fracOf_dig (l : List UInt8) (h : allDig l = true) : allDig (fracOf l) = true := allDig_take _ _ (by rw [allDig_append, h, allDig_noughts]; rfl)

theorem hasPrefix_minus (l : List UInt8) : Lib.hasPrefix l [45] = minusOf l := rfl
theorem trimPrefix_minus (l : List UInt8) : Lib.trimPrefix l [45] = numOf l := rfl

theorem index_dot (l : List UInt8) : (46 ∈ l → Lib.indexByte l 46 = (aheadOf l).length) ∧ (46 ∉ l → Lib.indexByte l 46 = -1) := by
  induction l with
  | nil => exact ⟨fun h => by simp at h, fun _ => rfl⟩
  | cons b l ih =>
    show (_ → (if b == 46 then (0 : Int) else if Lib.indexByte l 46 == -1 then -1 else Lib.indexByte l 46 + 1) = _) ∧ (_ → (if b == 46 then (0 : Int) else if Lib.indexByte l 46 == -1 then -1 else Lib.indexByte l 46 + 1) = _)
    by_cases hb : b = 46
    · subst hb
      exact ⟨fun _ => rfl, fun h => absurd List.mem_cons_self h⟩
    · have e : (b == 46) = false := by simpa using hb
      have hm : (46 ∈ b :: l) ↔ 46 ∈ l := by simp [Ne.symm hb]
      have ha : aheadOf (b :: l) = b :: aheadOf l := by unfold aheadOf; rw [List.takeWhile_cons_of_pos (by simpa using hb)]
      rw [e, ha]
      constructor
      · intro h
        rw [ih.1 (hm.1 h)]
        have : (((aheadOf l).length : Int) == -1) = false := by rw [beq_eq_false_iff_ne]; omega
        simp [this]
      · intro h
        rw [ih.2 (fun h2 => h (hm.2 h2))]; rfl
theorem take_ahead (l : List UInt8) : l.take (aheadOf l).length = aheadOf l := by
  unfold aheadOf
  conv => lhs; arg 2; rw [← List.takeWhile_append_dropWhile (p := fun b => b != 46) (l := l)]
  exact List.take_left
theorem drop_ahead (l : List UInt8) : l.drop ((aheadOf l).length + 1) = behindOf l := by
  unfold behindOf
  rw [← List.drop_drop]
  congr 1
  unfold aheadOf
  conv => lhs; arg 2; rw [← List.takeWhile_append_dropWhile (p := fun b => b != 46) (l := l)]
  exact List.drop_left
theorem ahead_none (l : List UInt8) (h : 46 ∉ l) : aheadOf l = l ∧ behindOf l = [] := by
  have h1 : aheadOf l = l := by
    unfold aheadOf
    induction l with
    | nil => rfl
    | cons b l ih =>
      have hb : b ≠ 46 := fun e => h (e ▸ List.mem_cons_self)
      rw [List.takeWhile_cons_of_pos (by simpa using hb), ih (fun hm => h (List.mem_cons_of_mem _ hm))]
  refine ⟨h1, ?_⟩
  have := drop_ahead l
  rw [h1] at this
  rw [← this, List.drop_of_length_le (by omega)]
theorem ahead_length (l : List UInt8) (h : 46 ∈ l) : (aheadOf l).length < l.length := by
  induction l with
  | nil => cases h
  | cons b l ih =>
    by_cases hb : b = 46
    · subst hb; simp [aheadOf]
    · have ha : aheadOf (b :: l) = b :: aheadOf l := by unfold aheadOf; rw [List.takeWhile_cons_of_pos (by simpa using hb)]
      have hm : 46 ∈ l := by rcases List.mem_cons.1 h with e | e; exact absurd e.symm hb; exact e
      rw [ha]; have := ih hm; simp; omega

/-! ### The document's own answer -/
def run17 : Nat → Int → List UInt8 → Int × Nat × List UInt8
  | n, v, [] => (v, n, [])
  | n, v, b :: l => if isDig b = true ∧ n < 17 then run17 (n + 1) (10 * v + b.toNat - 48) l else (v, n, b :: l)
theorem run17_cons (n : Nat) (v : Int) (b : UInt8) (l : List UInt8) : run17 n v (b :: l) = if isDig b = true ∧ n < 17 then run17 (n + 1) (10 * v + b.toNat - 48) l else (v, n, b :: l) := rfl
def run9 : Nat → Int → List UInt8 → Int × Nat × List UInt8
  | m, v, [] => (v, m, [])
  | m, v, b :: l => if isDig b = true then run9 (m + 1) (if m < 9 then 10 * v + b.toNat - 48 else v) l else (v, m, b :: l)
theorem run9_cons (m : Nat) (v : Int) (b : UInt8) (l : List UInt8) : run9 m v (b :: l) = if isDig b = true then run9 (m + 1) (if m < 9 then 10 * v + b.toNat - 48 else v) l else (v, m, b :: l) := rfl
/-- Noughts behind a number. -/
def pad10 : Nat → Int → Int
  | 0, v => v
  | k + 1, v => pad10 k (10 * v)
theorem pad10_succ (k : Nat) (v : Int) : pad10 (k + 1) v = pad10 k (10 * v) := rfl
theorem pad10_eq (k : Nat) : ∀ v : Int, pad10 k v = numD v (List.replicate k 48) := by
  induction k with
  | zero => intro v; rfl
  | succ k ih =>
    intro v
    rw [pad10_succ, ih, List.replicate_succ, numD_cons]
    have : ((48 : UInt8).toNat : Int) = 48 := rfl
    rw [this, show 10 * v = v * 10 + (48 - 48) by omega]
def refFrac : List UInt8 → Option Int
  | [] => some 0
  | b :: r => if b = 46 then (if (run9 0 0 r).2.1 < 1 ∨ 40 < (run9 0 0 r).2.1 ∨ (run9 0 0 r).2.2 ≠ [] then none else some (pad10 (9 - (run9 0 0 r).2.1) (run9 0 0 r).1)) else none
def refStParse (l : List UInt8) : (Int × Int) × Int :=
  if (run17 0 0 (numOf l)).2.1 < 1 ∨ 16 < (run17 0 0 (numOf l)).2.1 then ((0, 0), 2)
  else match refFrac (run17 0 0 (numOf l)).2.2 with
    | none => ((0, 0), 2)
    | some f => stTail (minusOf l) ((run17 0 0 (numOf l)).1, f)

/-- What stands ahead: digits; then nothing, or another byte. -/
theorem dig_parts (l : List UInt8) : ∃ A R, l = A ++ R ∧ allDig A = true ∧ (R = [] ∨ ∃ b r, R = b :: r ∧ isDig b = false) := by
  induction l with
  | nil => exact ⟨[], [], rfl, rfl, .inl rfl⟩
  | cons b l ih =>
    by_cases h : isDig b = true
    · obtain ⟨A, R, h1, h2, h3⟩ := ih
      exact ⟨b :: A, R, by rw [h1]; rfl, by show (isDig b && allDig A) = true; rw [h, h2]; rfl, h3⟩
    · exact ⟨[], b :: l, rfl, rfl, .inr ⟨b, l, rfl, by simpa using h⟩⟩

theorem run17_spec (A R : List UInt8) (hA : allDig A = true) (hR : R = [] ∨ ∃ b r, R = b :: r ∧ isDig b = false) :
    ∀ (n : Nat) (v : Int), n ≤ 17 → (n + A.length ≤ 17 → run17 n v (A ++ R) = (numD v A, n + A.length, R)) ∧ (17 ≤ n + A.length → (run17 n v (A ++ R)).2.1 = 17) := by
  induction A with
  | nil =>
    intro n v hn
    rcases hR with rfl | ⟨b, r, rfl, hb⟩
    · exact ⟨fun _ => rfl, fun h => by simp at h; show n = 17; omega⟩
    · have : run17 n v ([] ++ b :: r) = (v, n, b :: r) := by rw [List.nil_append, run17_cons, if_neg (by rw [hb]; simp)]
      rw [this]
      exact ⟨fun _ => rfl, fun h => by simp at h; show n = 17; omega⟩
  | cons b A ih =>
    intro n v hn
    have h1 : isDig b = true ∧ allDig A = true := by simpa [allDig] using hA
    rw [List.cons_append, run17_cons]
    by_cases h17 : n < 17
    · rw [if_pos ⟨h1.1, h17⟩]
      have hi := ih h1.2 (n + 1) (10 * v + b.toNat - 48) (by omega)
      rw [numD_cons, show v * 10 + ((b.toNat : Int) - 48) = 10 * v + b.toNat - 48 by omega, List.length_cons]
      exact ⟨fun h => by rw [hi.1 (by omega)]; simp; omega, fun h => hi.2 (by omega)⟩
    · rw [if_neg (fun e => h17 e.2)]
      exact ⟨fun h => by simp at h; omega, fun _ => by show n = 17; omega⟩

theorem run9_spec (A R : List UInt8) (hA : allDig A = true) (hR : R = [] ∨ ∃ b r, R = b :: r ∧ isDig b = false) :
    ∀ (m : Nat) (v : Int), run9 m v (A ++ R) = (numD v (A.take (9 - m)), m + A.length, R) := by
  induction A with
  | nil =>
    intro m v
    rw [List.take_nil]
    rcases hR with rfl | ⟨b, r, rfl, hb⟩
    · rfl
    · rw [List.nil_append, run9_cons, if_neg (by rw [hb]; simp)]; rfl
  | cons b A ih =>
    intro m v
    have h1 : isDig b = true ∧ allDig A = true := by simpa [allDig] using hA
    rw [List.cons_append, run9_cons, if_pos h1.1, ih h1.2, List.length_cons, show m + 1 + A.length = m + (A.length + 1) by omega]
    congr 1
    by_cases hm : m < 9
    · rw [if_pos hm, show 9 - m = (9 - (m + 1)) + 1 by omega, List.take_succ_cons, numD_cons, show v * 10 + ((b.toNat : Int) - 48) = 10 * v + b.toNat - 48 by omega]
    · rw [if_neg hm, show 9 - m = 0 by omega, show 9 - (m + 1) = 0 by omega]; rfl

theorem ahead_dig (A R : List UInt8) (hA : allDig A = true) : aheadOf (A ++ R) = A ++ aheadOf R ∧ behindOf (A ++ R) = behindOf R ∧ hasDot (A ++ R) = hasDot R := by
  induction A with
  | nil => exact ⟨rfl, rfl, rfl⟩
  | cons b A ih =>
    have h1 : isDig b = true ∧ allDig A = true := by simpa [allDig] using hA
    have hb := isDig_true h1.1
    have hne : b ≠ 46 := by intro e; rw [e] at hb; exact absurd hb.1 (by decide)
    obtain ⟨i1, i2, i3⟩ := ih h1.2
    refine ⟨?_, ?_, ?_⟩
    · rw [List.cons_append]; unfold aheadOf at *; rw [List.takeWhile_cons_of_pos (by simpa using hne), i1]; rfl
    · rw [List.cons_append]; unfold behindOf at *; rw [List.dropWhile_cons_of_pos (by simpa using hne), i2]
    · rw [List.cons_append, ← i3]; unfold hasDot; simp [Ne.symm hne]

theorem areDig_bad (A : List UInt8) (b : UInt8) (R : List UInt8) (hb : isDig b = false) (m : Int) : areDig (A ++ b :: R) m = false := by
  unfold areDig
  have : allDig (A ++ b :: R) = false := by rw [allDig_append]; show (_ && (isDig b && _)) = false; rw [hb]; simp
  rw [this, Bool.and_false]

theorem refStParse_eq (l : List UInt8) : refStParse l = stParse l := by
  unfold refStParse stParse stForm
  generalize numOf l = n
  generalize minusOf l = mi
  obtain ⟨A, R, rfl, hA, hR⟩ := dig_parts n
  obtain ⟨e1, e2, e3⟩ := ahead_dig A R hA
  have hs := run17_spec A R hA hR 0 0 (by decide)
  rw [e1, e2, e3]
  by_cases h17 : A.length ≤ 16
  · rw [hs.1 (by omega)]
    simp only [Nat.zero_add]
    by_cases h1 : A.length < 1
    · rw [if_pos (.inl h1)]
      obtain rfl : A = [] := List.eq_nil_of_length_eq_zero (by omega)
      rcases hR with rfl | ⟨b, r, rfl, hb⟩
      · rfl
      · have : areDig ([] ++ aheadOf (b :: r)) 16 = false := by
          by_cases h46 : b = 46
          · subst h46; rfl
          · have : aheadOf (b :: r) = b :: aheadOf r := by unfold aheadOf; rw [List.takeWhile_cons_of_pos (by simpa using h46)]
            rw [this]; exact areDig_bad [] b _ hb 16
        rw [this, Bool.false_and, if_neg (by simp)]
    · rw [if_neg (by omega)]
      have hAne : A ≠ [] := fun e => h1 (by rw [e]; decide)
      have hAd : areDig A 16 = true := by unfold areDig; rw [hA, decide_eq_true ⟨hAne, by omega⟩]; rfl
      rcases hR with rfl | ⟨b, r, rfl, hb⟩
      · have g1 : aheadOf ([] : List UInt8) = [] := rfl
        have g2 : hasDot [] = false := rfl
        rw [g1, List.append_nil, hAd, g2, if_pos (by rfl)]
        show stTail mi (numD 0 A, 0) = stTail mi (numD 0 A, numD 0 (fracOf (behindOf [])))
        congr 1
      · by_cases h46 : b = 46
        · subst h46
          have g1 : aheadOf (46 :: r) = [] := rfl
          have g2 : hasDot (46 :: r) = true := by unfold hasDot; simp
          have g3 : behindOf (46 :: r) = r := rfl
          rw [g1, List.append_nil, hAd, g2, g3]
          obtain ⟨D, Q, rfl, hD, hQ⟩ := dig_parts r
          have hr9 := run9_spec D Q hD hQ 0 0
          show (match (if (46 : UInt8) = 46 then (if (run9 0 0 (D ++ Q)).2.1 < 1 ∨ 40 < (run9 0 0 (D ++ Q)).2.1 ∨ (run9 0 0 (D ++ Q)).2.2 ≠ [] then none else some (pad10 (9 - (run9 0 0 (D ++ Q)).2.1) (run9 0 0 (D ++ Q)).1)) else none) with | none => _ | some f => _) = _
          rw [if_pos rfl, hr9]
          simp only [Nat.zero_add, Bool.true_and, Bool.not_true, Bool.false_or, Nat.sub_zero]
          rcases hQ with rfl | ⟨c, q, rfl, hc⟩
          · rw [List.append_nil]
            by_cases hlen : 1 ≤ D.length ∧ D.length ≤ 40
            · have hDne : D ≠ [] := fun e => by rw [e] at hlen; exact absurd hlen.1 (by decide)
              have hDd : areDig D 40 = true := by unfold areDig; rw [hD, decide_eq_true ⟨hDne, by omega⟩]; rfl
              rw [if_neg (by intro h; rcases h with h | h | h; omega; omega; exact h rfl), hDd, if_pos rfl]
              show stTail mi (numD 0 A, pad10 (9 - D.length) (numD 0 (D.take 9))) = _
              congr 2
              rw [pad10_eq, ← numD_append]
              congr 1
              unfold fracOf
              rw [List.take_append, List.take_replicate]
              congr 2
              omega
            · have hDd : areDig D 40 = false := by
                unfold areDig
                rw [decide_eq_false (by rintro ⟨h1, h2⟩; have : D.length ≠ 0 := fun e => h1 (List.eq_nil_of_length_eq_zero e); omega), Bool.false_and]
              rw [if_pos (by omega), hDd, if_neg (by simp)]
          · rw [areDig_bad D c q hc 40, if_pos (.inr (.inr (by simp))), if_neg (by simp)]
        · have g1 : aheadOf (b :: r) = b :: aheadOf r := by unfold aheadOf; rw [List.takeWhile_cons_of_pos (by simpa using h46)]
          rw [g1, areDig_bad A b _ hb 16, Bool.false_and, if_neg (by simp)]
          have gf : refFrac (b :: r) = none := if_neg h46
          simp only [gf]
  · have h2 := hs.2 (by omega)
    rw [h2, if_pos (.inr (by decide))]
    have : areDig (A ++ aheadOf R) 16 = false := by
      unfold areDig
      rw [decide_eq_false (by rintro ⟨_, h⟩; rw [List.length_append] at h; omega), Bool.false_and]
    rw [this, Bool.false_and, if_neg (by simp)]

/-! ### As it is written -/
/-- So many decimal digits, noughts ahead. -/
def digN : Nat → Nat → List UInt8
  | 0, _ => []
  | k + 1, v => UInt8.ofNat (48 + v / 10 ^ k % 10) :: digN k v
def trimN (l : List UInt8) : List UInt8 := Lib.trimRightB l 48
/-- Digits as far as they are needed. -/
def fracN : Nat → Nat → List UInt8
  | 0, _ => []
  | k + 1, v => if v = 0 then [] else UInt8.ofNat (48 + v / 10 ^ k) :: fracN k (v % 10 ^ k)

theorem digit_val (k : Nat) (h : k < 10) : (((UInt8.ofNat (48 + k)).toNat : Nat) : Int) = 48 + k := by
  rw [UInt8.toNat_ofNat']
  omega
theorem digN_length (k v : Nat) : (digN k v).length = k := by
  induction k with
  | zero => rfl
  | succ k ih => show (digN k v).length + 1 = k + 1; rw [ih]
theorem digN_mod (k : Nat) : ∀ j v, k ≤ j → digN k (v % 10 ^ j) = digN k v := by
  induction k with
  | zero => intro j v _; rfl
  | succ k ih =>
    intro j v h
    show UInt8.ofNat (48 + v % 10 ^ j / 10 ^ k % 10) :: digN k (v % 10 ^ j) = UInt8.ofNat (48 + v / 10 ^ k % 10) :: digN k v
    rw [ih j v (by omega)]
    congr 3
    rw [show j = k + (j - k) by omega, Nat.pow_add, Nat.mod_mul_right_div_self, show j - k = (j - k - 1) + 1 by omega, Nat.pow_succ, Nat.mod_mul_left_mod]
theorem trimN_cons (b : UInt8) (l : List UInt8) : trimN (b :: l) = if trimN l = [] ∧ b = 48 then [] else b :: trimN l := by
  unfold trimN Lib.trimRightB
  rw [List.reverse_cons, List.dropWhile_append]
  by_cases h : (l.reverse.dropWhile (· == 48)) = []
  · rw [h]
    by_cases hb : b = 48
    · subst hb; rfl
    · have e : (b == 48) = false := by simpa using hb
      simp [e, hb]
  · simp [h]
theorem trim_digN (k : Nat) : ∀ v, v < 10 ^ k → trimN (digN k v) = fracN k v := by
  induction k with
  | zero => intro v _; rfl
  | succ k ih =>
    intro v hv
    have hp : 0 < 10 ^ k := Nat.pow_pos (by decide)
    rw [Nat.pow_succ] at hv
    have hd : v / 10 ^ k < 10 := Nat.div_lt_of_lt_mul hv
    show trimN (UInt8.ofNat (48 + v / 10 ^ k % 10) :: digN k v) = if v = 0 then [] else UInt8.ofNat (48 + v / 10 ^ k) :: fracN k (v % 10 ^ k)
    rw [trimN_cons, ← digN_mod k k v (Nat.le_refl _), ih _ (Nat.mod_lt _ hp), Nat.mod_eq_of_lt hd]
    by_cases h0 : v = 0
    · subst h0
      have hz : fracN k (0 % 10 ^ k) = [] := by rw [Nat.zero_mod]; cases k <;> rfl
      rw [if_pos rfl, hz, if_pos ⟨rfl, by rw [Nat.zero_div]; rfl⟩]
    · rw [if_neg h0, if_neg]
      rintro ⟨h1, h2⟩
      have hq : v / 10 ^ k = 0 := by
        have := digit_val _ hd
        rw [h2] at this
        have h48 : ((48 : UInt8).toNat : Int) = 48 := rfl
        omega
      have hr : v % 10 ^ k = v := by rw [Nat.mod_eq_of_lt]; exact Nat.lt_of_div_eq_zero hp hq
      rw [hr] at h1
      cases k with
      | zero => simp at hv hq; omega
      | succ k => unfold fracN at h1; rw [if_neg h0] at h1; cases h1

/-- A stamp as it is written. -/
def dec2 (s n : Int) : List UInt8 := Lib.decDigits s.toNat ++ if n = 0 then [] else 46 :: trimN (digN 9 n.toNat)
def stText (s n : Int) : List UInt8 := if s < 0 then 45 :: dec2 (stOpp s n).1 (stOpp s n).2 else dec2 s n

theorem decDigits_dig (u : Nat) : allDig (Lib.decDigits u) = true ∧ Lib.decDigits u ≠ [] ∧ ∀ v : Int, numD v (Lib.decDigits u) = v * 10 ^ (Lib.decDigits u).length + u := by
  induction u using Nat.strongRecOn with
  | _ u ih =>
    rw [Lib.decDigits]
    by_cases h : u < 10
    · rw [dif_pos h]
      have hv := digit_val u h
      refine ⟨?_, by simp, fun v => ?_⟩
      · show (isDig _ && true) = true; rw [isDig_mk (by rw [hv]; omega) (by rw [hv]; omega)]; rfl
      · show v * 10 + (((UInt8.ofNat (48 + u)).toNat : Int) - 48) = _; rw [hv]; simp; omega
    · rw [dif_neg h]
      obtain ⟨i1, i2, i3⟩ := ih (u / 10) (by omega)
      have hv := digit_val (u % 10) (by omega)
      refine ⟨?_, by simp, fun v => ?_⟩
      · rw [allDig_append, i1]; show (isDig _ && true) = true; rw [isDig_mk (by rw [hv]; omega) (by rw [hv]; omega)]; rfl
      · rw [numD_append, i3]
        show (v * 10 ^ _ + _) * 10 + (((UInt8.ofNat (48 + u % 10)).toNat : Int) - 48) = _
        rw [hv, List.length_append, List.length_singleton, Int.pow_succ, ← Int.mul_assoc]
        generalize v * 10 ^ (Lib.decDigits (u / 10)).length = X
        omega

theorem fracN_dig (k : Nat) : ∀ v, v < 10 ^ k → allDig (fracN k v) = true ∧ (fracN k v).length ≤ k ∧ ∀ a : Int, numD a (fracN k v ++ List.replicate (k - (fracN k v).length) 48) = a * 10 ^ k + v := by
  induction k with
  | zero => intro v hv; refine ⟨rfl, by simp [fracN], fun a => ?_⟩; simp at hv; subst hv; simp [fracN, numD]
  | succ k ih =>
    intro v hv
    have hp : 0 < 10 ^ k := Nat.pow_pos (by decide)
    rw [Nat.pow_succ] at hv
    have hd : v / 10 ^ k < 10 := Nat.div_lt_of_lt_mul hv
    unfold fracN
    by_cases h0 : v = 0
    · rw [if_pos h0]
      refine ⟨rfl, by simp, fun a => ?_⟩
      rw [List.nil_append, numD_noughts, h0]; simp
    · rw [if_neg h0]
      obtain ⟨i1, i2, i3⟩ := ih (v % 10 ^ k) (Nat.mod_lt _ hp)
      have hv2 := digit_val _ hd
      have hdg : isDig (UInt8.ofNat (48 + v / 10 ^ k)) = true := by
        generalize v / 10 ^ k = q at *
        exact isDig_mk (by rw [hv2]; omega) (by rw [hv2]; omega)
      refine ⟨?_, by simp; exact i2, fun a => ?_⟩
      · show (isDig _ && _) = true; rw [hdg, i1]; rfl
      · rw [List.length_cons, show k + 1 - ((fracN k (v % 10 ^ k)).length + 1) = k - (fracN k (v % 10 ^ k)).length by omega, List.cons_append, numD_cons, hv2, i3]
        have hdm : (v : Int) = (10 ^ k : Nat) * ((v / 10 ^ k : Nat) : Int) + ((v % 10 ^ k : Nat) : Int) := by
          have := Nat.div_add_mod v (10 ^ k)
          exact_mod_cast this.symm
        have hc : (((10 : Nat) ^ k : Nat) : Int) = (10 : Int) ^ k := by simp
        rw [hdm, hc, Int.pow_succ]
        generalize ((v / 10 ^ k : Nat) : Int) = x
        generalize ((v % 10 ^ k : Nat) : Int) = y
        rw [show a * 10 + (48 + x - 48) = a * 10 + x by omega, Int.add_mul, Int.mul_assoc, Int.mul_comm 10 ((10 : Int) ^ k), Int.mul_comm x]
        omega
end Go.Proofs.YtjmmecokfijglaaGreatDoor
namespace Go.Proofs.YtjmmecokfijglaaGreatDoor
open Go.ChangeShapes Go.WideShapes Go.ChangeAt Go.RowKit

theorem digN_low (k : Nat) : ∀ v, digN (k + 1) v = digN k (v / 10) ++ [UInt8.ofNat (48 + v % 10)] := by
  induction k with
  | zero => intro v; show [UInt8.ofNat (48 + v / 10 ^ 0 % 10)] = _; simp [digN]
  | succ k ih =>
    intro v
    show UInt8.ofNat (48 + v / 10 ^ (k + 1) % 10) :: digN (k + 1) v = (UInt8.ofNat (48 + v / 10 / 10 ^ k % 10) :: digN k (v / 10)) ++ _
    rw [ih v, List.cons_append, Nat.div_div_eq_div_mul, Nat.pow_succ, Nat.mul_comm 10]
theorem decDigits_one (k : Nat) : ∀ v, v < 10 ^ k → Lib.decDigits (10 ^ k + v) = 49 :: digN k v := by
  induction k with
  | zero => intro v hv; simp at hv; subst hv; rw [Lib.decDigits, dif_pos (by decide)]; rfl
  | succ k ih =>
    intro v hv
    have hp : 0 < 10 ^ k := Nat.pow_pos (by decide)
    rw [Nat.pow_succ] at hv ⊢
    rw [Lib.decDigits, dif_neg (by omega), digN_low, show (10 ^ k * 10 + v) / 10 = 10 ^ k + v / 10 by omega, ih (v / 10) (by omega), show (10 ^ k * 10 + v) % 10 = v % 10 by omega]
    rfl
theorem part_digits (n : Int) (h0 : 0 ≤ n) (h1 : n ≤ 999999999) : (Lib.decDigits (1000000000 + n).toNat).drop 1 = digN 9 n.toNat := by
  have := decDigits_one 9 n.toNat (by have : (10 : Nat) ^ 9 = 1000000000 := by decide
                                      omega)
  rw [show (1000000000 + n).toNat = 10 ^ 9 + n.toNat by have : (10 : Nat) ^ 9 = 1000000000 := by decide
                                                        omega, this]
  rfl
theorem decDigits_length16 (u : Nat) (h : u ≤ 9007199254740991) : (Lib.decDigits u).length ≤ 16 := by
  rw [Lib.decDigits_length]
  rcases Nat.lt_or_ge (Lib.nDigits u) 17 with h1 | h1
  · omega
  · exfalso
    have key : ∀ k u, k < Lib.nDigits u → 10 ^ k ≤ u ∨ k = 0 := by
      intro k
      induction k with
      | zero => intro u _; exact .inr rfl
      | succ k ih =>
        intro u hk
        by_cases h : u < 10
        · rw [Lib.nDigits_small h] at hk; omega
        · rw [Lib.nDigits_big h] at hk
          left
          rw [Nat.pow_succ]
          rcases ih (u / 10) (by omega) with h2 | h2
          · omega
          · subst h2; simp; omega
    rcases key 16 u (by omega) with h2 | h2
    · have : (10 : Nat) ^ 16 = 10000000000000000 := by decide
      omega
    · cases h2

theorem first_digit (u : Nat) (l : List UInt8) : ∃ b t, Lib.decDigits u ++ l = b :: t ∧ isDig b = true := by
  obtain ⟨h1, h2, _⟩ := decDigits_dig u
  rcases hd : Lib.decDigits u with _ | ⟨b, t⟩
  · exact absurd hd h2
  · rw [hd] at h1
    have : isDig b = true ∧ allDig t = true := by simpa [allDig] using h1
    exact ⟨b, t ++ l, rfl, this.1⟩

theorem dec2_parse (s n : Int) (hs : 0 ≤ s ∧ s ≤ 9007199254740991) (hn : 0 ≤ n ∧ n ≤ 999999999) :
    stForm (dec2 s n) = true ∧ numD 0 (aheadOf (dec2 s n)) = s ∧ numD 0 (fracOf (behindOf (dec2 s n))) = n ∧ minusOf (dec2 s n) = false := by
  obtain ⟨h1, h2, h3⟩ := decDigits_dig s.toNat
  have hlen := decDigits_length16 s.toNat (by omega)
  have hv : numD 0 (Lib.decDigits s.toNat) = s := by rw [h3]; simp; omega
  have hA : areDig (Lib.decDigits s.toNat) 16 = true := by unfold areDig; rw [h1, decide_eq_true ⟨h2, by omega⟩]; rfl
  have hm : minusOf (dec2 s n) = false := by
    unfold dec2
    obtain ⟨b, t, e, hb⟩ := first_digit s.toNat (if n = 0 then [] else 46 :: trimN (digN 9 n.toNat))
    rw [e]
    have hbb := isDig_true hb
    show ((45 == b) && true) = false
    have : (45 == b) = false := by
      rw [beq_eq_false_iff_ne]
      intro e; rw [← e] at hbb; exact absurd hbb.1 (by decide)
    rw [this]; rfl
  refine ⟨?_, ?_, ?_, hm⟩
  all_goals unfold dec2
  all_goals obtain ⟨e1, e2, e3⟩ := ahead_dig (Lib.decDigits s.toNat) (if n = 0 then [] else 46 :: trimN (digN 9 n.toNat)) h1
  · unfold stForm
    rw [e1, e2, e3]
    by_cases h0 : n = 0
    · rw [if_pos h0]
      show (areDig (Lib.decDigits s.toNat ++ []) 16 && true) = true
      rw [List.append_nil, hA]; rfl
    · rw [if_neg h0, trim_digN 9 n.toNat (by have : (10 : Nat) ^ 9 = 1000000000 := by decide
                                             omega)]
      obtain ⟨f1, f2, _⟩ := fracN_dig 9 n.toNat (by have : (10 : Nat) ^ 9 = 1000000000 := by decide
                                                    omega)
      have hne : fracN 9 n.toNat ≠ [] := by unfold fracN; rw [if_neg (by omega)]; simp
      show (areDig (Lib.decDigits s.toNat ++ []) 16 && (!hasDot (46 :: fracN 9 n.toNat) || areDig (fracN 9 n.toNat) 40)) = true
      have hF : areDig (fracN 9 n.toNat) 40 = true := by unfold areDig; rw [f1, decide_eq_true ⟨hne, by omega⟩]; rfl
      rw [List.append_nil, hA, hF, Bool.or_true]; rfl
  · rw [e1]
    by_cases h0 : n = 0
    · rw [if_pos h0]
      show numD 0 (Lib.decDigits s.toNat ++ []) = s
      rw [List.append_nil, hv]
    · rw [if_neg h0]
      show numD 0 (Lib.decDigits s.toNat ++ []) = s
      rw [List.append_nil, hv]
  · rw [e2]
    by_cases h0 : n = 0
    · rw [if_pos h0, h0]; rfl
    · rw [if_neg h0, trim_digN 9 n.toNat (by have : (10 : Nat) ^ 9 = 1000000000 := by decide
                                             omega)]
      obtain ⟨f1, f2, f3⟩ := fracN_dig 9 n.toNat (by have : (10 : Nat) ^ 9 = 1000000000 := by decide
                                                     omega)
      show numD 0 (fracOf (fracN 9 n.toNat)) = n
      unfold fracOf
      rw [List.take_append, List.take_of_length_le f2, List.take_replicate, Nat.min_eq_left (by omega), f3]
      omega

theorem stOpp_stOpp (s n : Int) : stOpp (stOpp s n).1 (stOpp s n).2 = (s, n) ∨ n = 1000000000 := by
  unfold stOpp
  by_cases h : n = 0
  · left; rw [if_pos h]; simp [h]
  · rw [if_neg h]
    by_cases h2 : n = 1000000000
    · exact .inr h2
    · left
      simp only
      rw [if_neg (by omega)]
      congr 1 <;> omega

/-- What is written is read as it was. -/
theorem parse_text (s n : Int) (h : stRight s n = true) : stParse (stText s n) = ((s, n), 0) := by
  obtain ⟨h1, h2, h3, h4⟩ := stRight_true h
  unfold stText
  by_cases hs : s < 0
  · rw [if_pos hs]
    have hb : 0 ≤ (stOpp s n).1 ∧ (stOpp s n).1 ≤ 9007199254740991 ∧ 0 ≤ (stOpp s n).2 ∧ (stOpp s n).2 ≤ 999999999 := by
      unfold stOpp; split <;> simp only <;> omega
    obtain ⟨p1, p2, p3, p4⟩ := dec2_parse (stOpp s n).1 (stOpp s n).2 ⟨hb.1, hb.2.1⟩ hb.2.2
    have hm : minusOf (45 :: dec2 (stOpp s n).1 (stOpp s n).2) = true := rfl
    have hnu : numOf (45 :: dec2 (stOpp s n).1 (stOpp s n).2) = dec2 (stOpp s n).1 (stOpp s n).2 := rfl
    unfold stParse
    rw [hnu, hm, if_pos p1, p2, p3]
    show (if stRight (stOpp (stOpp s n).1 (stOpp s n).2).1 (stOpp (stOpp s n).1 (stOpp s n).2).2 = true then (stOpp (stOpp s n).1 (stOpp s n).2, (0 : Int)) else ((0, 0), 6)) = _
    rw [(stOpp_stOpp s n).resolve_right (by omega), if_pos h]
  · rw [if_neg hs]
    obtain ⟨p1, p2, p3, p4⟩ := dec2_parse s n ⟨by omega, h2⟩ ⟨h3, h4⟩
    have hnu : numOf (dec2 s n) = dec2 s n := by unfold numOf; rw [p4]; rfl
    unfold stParse
    rw [hnu, p4, if_pos p1, p2, p3]
    show (if stRight s n = true then ((s, n), (0 : Int)) else ((0, 0), 6)) = _
    rw [if_pos h]

theorem tail_right (m : Bool) (u : Int × Int) (h : (stTail m u).2 = 0) : stRight (stTail m u).1.1 (stTail m u).1.2 = true := by
  unfold stTail at *
  generalize (if m then stOpp u.1 u.2 else u) = x at *
  by_cases h2 : stRight x.1 x.2 = true
  · simp only [h2, if_true]
  · simp [h2] at h

/-- Every stamp that is told is right. -/
theorem parse_right (l : List UInt8) (h : (stParse l).2 = 0) : stRight (stParse l).1.1 (stParse l).1.2 = true := by
  unfold stParse at *
  by_cases h1 : stForm (numOf l) = true
  · rw [if_pos h1] at *
    exact tail_right _ _ h
  · rw [if_neg h1] at h
    exact absurd h (by decide)

/-- Longer than any number with a sign, a stop, and all digits. -/
theorem parse_long (l : List UInt8) (h : 100 < l.length) : stParse l = ((0, 0), 2) := by
  unfold stParse
  rw [if_neg]
  intro hf
  have hn : 100 ≤ (numOf l).length := by unfold numOf; split <;> (try rw [List.length_drop]) <;> omega
  unfold stForm at hf
  rw [Bool.and_eq_true] at hf
  obtain ⟨f1, f2⟩ := hf
  have a16 : (aheadOf (numOf l)).length ≤ 16 := by
    unfold areDig at f1
    rw [Bool.and_eq_true, decide_eq_true_eq] at f1
    have := f1.1.2; omega
  by_cases hd : 46 ∈ numOf l
  · have f3 : areDig (behindOf (numOf l)) 40 = true := by
      unfold hasDot at f2
      rw [decide_eq_true hd] at f2
      simpa using f2
    unfold areDig at f3
    rw [Bool.and_eq_true, decide_eq_true_eq] at f3
    have h40 := f3.1.2
    have := drop_ahead (numOf l)
    rw [← this, List.length_drop] at h40
    omega
  · rw [(ahead_none _ hd).1] at a16
    omega
end Go.Proofs.YtjmmecokfijglaaGreatDoor
