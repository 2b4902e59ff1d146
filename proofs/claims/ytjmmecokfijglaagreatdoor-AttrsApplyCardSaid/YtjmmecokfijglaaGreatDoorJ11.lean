/-
  Texts of this seat's proof, joined: their order is that of the build.
-/
import Derived.Test.YtjmmecokfijglaaGreatDoorJ01
import Derived.Test.YtjmmecokfijglaaGreatDoorRows
import Derived.Laws.StructEq
import Derived.Deep.QuietTactic
import Derived.BigQuiet
import Derived.Lib.IndexBytes
import Derived.Lib.TrimByte
import Derived.Lib.Repeat
import Derived.Lib.ItoaNum
namespace Go.Proofs.YtjmmecokfijglaaGreatDoor
open Go.ChangeShapes Go.WideShapes Go.ChangeAt Go.RowKit

def stRight (s n : Int) : Bool := decide (-9007199254740991 ≤ s ∧ s ≤ 9007199254740991 ∧ 0 ≤ n ∧ n ≤ 999999999)
theorem stRight_true {s n : Int} (h : stRight s n = true) : -9007199254740991 ≤ s ∧ s ≤ 9007199254740991 ∧ 0 ≤ n ∧ n ≤ 999999999 := by simpa [stRight] using h
/-- The same number with the other sign. -/
def stOpp (s n : Int) : Int × Int := if n = 0 then (-s, 0) else (-s - 1, 1000000000 - n)
def stCmp (s n s' n' : Int) : Int := if s < s' then -1 else if s' < s then 1 else if n < n' then -1 else if n' < n then 1 else 0
theorem stCmp_neg (s n s' n' : Int) : stCmp s' n' s n = -stCmp s n s' n' := by unfold stCmp; split <;> split <;> (try split) <;> (try split) <;> omega

/-- So many nanoseconds later. -/
def stLater (s n d : Int) : Int × Int := (s + (n + d) / 1000000000, (n + d) % 1000000000)
def stAdd (s n d : Int) : (Int × Int) × Int := if stRight (stLater s n d).1 (stLater s n d).2 = true then (stLater s n d, 0) else ((0, 0), 6)

/-- Go's quotient and remainder by a second. -/
theorem tparts (x : Int) : ∃ q r : Int, x.tdiv 1000000000 = q ∧ x.tmod 1000000000 = r ∧ q * 1000000000 + r = x ∧ -999999999 ≤ r ∧ r ≤ 999999999 := by
  refine ⟨_, _, rfl, rfl, ?_⟩
  rcases Int.le_total 0 x with h | h
  · rw [Int.tdiv_eq_ediv_of_nonneg h, Int.tmod_eq_emod_of_nonneg h]
    omega
  · obtain ⟨y, rfl⟩ : ∃ y, x = -y := ⟨-x, by omega⟩
    rw [Int.neg_tdiv, Int.neg_tmod, Int.tdiv_eq_ediv_of_nonneg (by omega), Int.tmod_eq_emod_of_nonneg (by omega)]
    omega
theorem stLater_of {s n d q r : Int} (h : q * 1000000000 + r = n + d) (h0 : 0 ≤ r) (h1 : r ≤ 999999999) : stLater s n d = (s + q, r) := by
  unfold stLater
  rw [show (n + d) / 1000000000 = q by omega, show (n + d) % 1000000000 = r by omega]
theorem stLater_of' {s n d q r : Int} (h : q * 1000000000 + r = n + d) (h0 : r < 0) (h1 : -999999999 ≤ r) : stLater s n d = (s + (q - 1), r + 1000000000) := by
  unfold stLater
  rw [show (n + d) / 1000000000 = q - 1 by omega, show (n + d) % 1000000000 = r + 1000000000 by omega]
theorem stCmp_bd (s n s' n' : Int) : -1 ≤ stCmp s n s' n' ∧ stCmp s n s' n' ≤ 1 := by
  unfold stCmp
  split
  · omega
  · split
    · omega
    · split
      · omega
      · split <;> omega
theorem later_back {s n d : Int} (h0 : 0 ≤ n) (h1 : n ≤ 999999999) : stLater (stLater s n d).1 (stLater s n d).2 (-d) = (s, n) := by
  unfold stLater
  simp only
  refine Prod.ext ?_ ?_ <;> simp only <;> omega
theorem cmp_later {s n d : Int} (h0 : 0 ≤ n) (h1 : n ≤ 999999999) : decide (0 < stCmp (stLater s n d).1 (stLater s n d).2 s n) = decide (0 < d) := by
  rw [decide_eq_decide]
  unfold stCmp stLater
  simp only
  split
  · omega
  · split
    · omega
    · split
      · omega
      · split <;> omega
end Go.Proofs.YtjmmecokfijglaaGreatDoor
namespace Go.Proofs.YtjmmecokfijglaaGreatDoor
open Go.ChangeShapes Go.WideShapes Go.ChangeAt Go.RowKit


/-- A block of two cells, as the walk asks for it. -/
theorem two_cells {w : World} {g : Nat} {t : TypeId} {a b : Value} (h : Holds w g t [a, b]) :
    w.cell? ⟨g, 0, none⟩ = some a ∧ w.cell? ⟨g, 1, none⟩ = some b ∧ w.frozen? ⟨g, 0, none⟩ = false ∧ w.frozen? ⟨g, 1, none⟩ = false :=
  ⟨h.cell (i := 0) (by simp), h.cell (i := 1) (by simp), h.frozen 0, h.frozen 1⟩
/-- Behind a call: one box, two boxes. -/
theorem box1 {w w1 : World} {a b : Value} {t : TypeId} (hb : Below (w.alloc (.cells #[a, b] t)).heap.size (w.alloc (.cells #[a, b] t)) w1) :
    Holds w1 w.heap.size t [a, b] ∧ Below w.heap.size w w1 ∧ w.heap.size < w1.heap.size :=
  ⟨(Holds.new w t [a, b]).under hb (by simp), ((Below.refl w.heap.size w).alloc (Nat.le_refl _) _).trans (hb.mono (by simp)), by have := hb.size; simp at this; omega⟩
theorem box2 {w w1 : World} {a b c d : Value} {t : TypeId}
    (hb : Below ((w.alloc (.cells #[a, b] t)).alloc (.cells #[c, d] t)).heap.size ((w.alloc (.cells #[a, b] t)).alloc (.cells #[c, d] t)) w1) :
    Holds w1 w.heap.size t [a, b] ∧ Holds w1 (w.heap.size + 1) t [c, d] ∧ Below w.heap.size w w1 ∧ w.heap.size + 1 < w1.heap.size := by
  have h2 := Holds.new (w.alloc (.cells #[a, b] t)) t [c, d]
  rw [World.size_alloc] at h2
  exact ⟨((Holds.new w t [a, b]).behind _).under hb (by simp; omega), h2.under hb (by simp), (((Below.refl w.heap.size w).alloc (Nat.le_refl _) _).alloc (by simp) _).trans (hb.mono (by simp; omega)), by have := hb.size; simp at this; omega⟩

theorem stRight_any (s n : Int) (w : World) :
    Calls Tryz.prog 184 #[.agg #[.int .i64 s, .int .i64 n]] w fun e w' => Below w.heap.size w w' ∧ e = .returned (.bool (stRight s n)) := by
  unfold stRight
  by_cases h1 : -9007199254740991 ≤ s
  · have d1 : decide (-9007199254740991 ≤ s) = true := decide_eq_true h1
    by_cases h2 : s ≤ 9007199254740991
    · have d2 : decide (s ≤ 9007199254740991) = true := decide_eq_true h2
      by_cases h3 : 0 ≤ n
      · have d3 : decide (0 ≤ n) = true := decide_eq_true h3
        have Hq := Lib.hid (show decide (n < 1000000000) = decide (-9007199254740991 ≤ s ∧ s ≤ 9007199254740991 ∧ 0 ≤ n ∧ n ≤ 999999999) by rw [decide_eq_decide]; omega)
        clear h1 h2 h3
        go_enter Tryz.func184, Tryz.ntmps184
        go_wp2
        go_ret
        rw [← Hq.out]
        exact ⟨(Below.refl _ _).alloc (Nat.le_refl _) _, rfl⟩
      · have d3 : decide (0 ≤ n) = false := decide_eq_false h3
        have Hq := Lib.hid (show decide (-9007199254740991 ≤ s ∧ s ≤ 9007199254740991 ∧ 0 ≤ n ∧ n ≤ 999999999) = false from decide_eq_false (by omega))
        clear h1 h2 h3
        go_enter Tryz.func184, Tryz.ntmps184
        go_wp2
        go_ret
        rw [Hq.out]
        exact ⟨(Below.refl _ _).alloc (Nat.le_refl _) _, rfl⟩
    · have d2 : decide (s ≤ 9007199254740991) = false := decide_eq_false h2
      have Hq := Lib.hid (show decide (-9007199254740991 ≤ s ∧ s ≤ 9007199254740991 ∧ 0 ≤ n ∧ n ≤ 999999999) = false from decide_eq_false (by omega))
      clear h1 h2
      go_enter Tryz.func184, Tryz.ntmps184
      go_wp2
      go_ret
      rw [Hq.out]
      exact ⟨(Below.refl _ _).alloc (Nat.le_refl _) _, rfl⟩
  · have d1 : decide (-9007199254740991 ≤ s) = false := decide_eq_false h1
    have Hq := Lib.hid (show decide (-9007199254740991 ≤ s ∧ s ≤ 9007199254740991 ∧ 0 ≤ n ∧ n ≤ 999999999) = false from decide_eq_false (by omega))
    clear h1
    go_enter Tryz.func184, Tryz.ntmps184
    go_wp2
    go_ret
    rw [Hq.out]
    exact ⟨(Below.refl _ _).alloc (Nat.le_refl _) _, rfl⟩

theorem stOpp_any (s n : Int) (w : World) (hs : -9007199254740991 ≤ s ∧ s ≤ 9999999999999999) (hn : 0 ≤ n ∧ n ≤ 999999999) :
    Calls Tryz.prog 183 #[.agg #[.int .i64 s, .int .i64 n]] w fun e w' => Below w.heap.size w w' ∧ e = .returned (.agg #[.int .i64 (stOpp s n).1, .int .i64 (stOpp s n).2]) := by
  obtain ⟨hs0, hs1⟩ := hs
  obtain ⟨hn0, hn1⟩ := hn
  by_cases h : n = 0
  · have Hq := Lib.hid (show stOpp s n = (-s, 0) from if_pos h)
    subst h
    go_enter Tryz.func183, Tryz.ntmps183
    go_wp2
    rw [Hq.out]
    exact bodyPost_ret (v := .agg #[.int .i64 (-s), .int .i64 0]) (by simp [results, Tryz.results183, go_sem]) rfl ⟨((Below.refl _ _).alloc (Nat.le_refl _) _).alloc (by simp) _, rfl⟩
  · have Hq := Lib.hid (show stOpp s n = (-s - 1, 1000000000 - n) from if_neg h)
    have e1 : (n == 0) = false := by simpa using h
    clear h
    go_enter Tryz.func183, Tryz.ntmps183
    go_wp2
    rw [Hq.out]
    exact bodyPost_ret (v := .agg #[.int .i64 (-s - 1), .int .i64 (1000000000 - n)]) (by simp [results, Tryz.results183, go_sem]) rfl ⟨((Below.refl _ _).alloc (Nat.le_refl _) _).alloc (by simp) _, rfl⟩
end Go.Proofs.YtjmmecokfijglaaGreatDoor
namespace Go.Proofs.YtjmmecokfijglaaGreatDoor
open Go.ChangeShapes Go.WideShapes Go.ChangeAt Go.RowKit

def isDig (b : UInt8) : Bool := decide (48 ≤ (b.toNat : Int) ∧ (b.toNat : Int) ≤ 57)
def allDig : List UInt8 → Bool
  | [] => true
  | b :: l => isDig b && allDig l
def numD : Int → List UInt8 → Int
  | v, [] => v
  | v, b :: l => numD (v * 10 + ((b.toNat : Int) - 48)) l
theorem numD_cons (v : Int) (b : UInt8) (l : List UInt8) : numD v (b :: l) = numD (v * 10 + ((b.toNat : Int) - 48)) l := rfl
theorem isDig_true {b : UInt8} (h : isDig b = true) : 48 ≤ (b.toNat : Int) ∧ (b.toNat : Int) ≤ 57 := by simpa [isDig] using h
theorem isDig_mk {b : UInt8} (h0 : 48 ≤ (b.toNat : Int)) (h1 : (b.toNat : Int) ≤ 57) : isDig b = true := by simp [isDig]; omega
theorem allDig_append (x y : List UInt8) : allDig (x ++ y) = (allDig x && allDig y) := by
  induction x with
  | nil => rfl
  | cons b x ih => rw [List.cons_append]; show (isDig b && allDig (x ++ y)) = ((isDig b && allDig x) && allDig y); rw [ih, Bool.and_assoc]
theorem numD_append (x y : List UInt8) : ∀ v, numD v (x ++ y) = numD (numD v x) y := by
  induction x with
  | nil => intro v; rfl
  | cons b x ih => intro v; rw [List.cons_append, numD_cons, ih, numD_cons]
theorem numD_bd (l : List UInt8) : ∀ v : Int, 0 ≤ v → allDig l = true → 0 ≤ numD v l ∧ numD v l < (v + 1) * 10 ^ l.length := by
  induction l with
  | nil => intro v h0 _; simp [numD]; omega
  | cons b l ih =>
    intro v h0 h
    have h1 : isDig b = true ∧ allDig l = true := by simpa [allDig] using h
    have hb := isDig_true h1.1
    have hi := ih (v * 10 + ((b.toNat : Int) - 48)) (by omega) h1.2
    refine ⟨hi.1, Int.lt_of_lt_of_le hi.2 ?_⟩
    rw [List.length_cons, Int.pow_succ]
    have hp : (0 : Int) ≤ 10 ^ l.length := Int.le_of_lt (Int.pow_pos (by decide))
    have hm : (v * 10 + ((b.toNat : Int) - 48) + 1) ≤ (v + 1) * 10 := by omega
    have := Int.mul_le_mul_of_nonneg_right hm hp
    rw [Int.mul_comm (10 ^ l.length) 10, ← Int.mul_assoc]
    exact this
theorem numD_bd16 (l : List UInt8) (h : allDig l = true) (hl : l.length ≤ 16) : 0 ≤ numD 0 l ∧ numD 0 l ≤ 9999999999999999 := by
  have h1 := numD_bd l 0 (by decide) h
  have h2 : (10 : Int) ^ l.length ≤ 10 ^ 16 := by
    have h : (10 : Nat) ^ l.length ≤ 10 ^ 16 := Nat.pow_le_pow_right (by decide) hl
    have e : (((10 : Nat) ^ l.length : Nat) : Int) = (10 : Int) ^ l.length := by simp
    have e2 : (10 : Nat) ^ 16 = 10000000000000000 := by decide
    have e3 : (10 : Int) ^ 16 = 10000000000000000 := by decide
    rw [e3]; omega
  have e3 : (10 : Int) ^ 16 = 10000000000000000 := by decide
  omega
theorem numD_bd9 (l : List UInt8) (h : allDig l = true) (hl : l.length = 9) : 0 ≤ numD 0 l ∧ numD 0 l ≤ 999999999 := by
  have h1 := numD_bd l 0 (by decide) h
  rw [hl] at h1
  have e3 : (10 : Int) ^ 9 = 1000000000 := by decide
  omega
theorem numD_noughts (k : Nat) : ∀ v : Int, numD v (List.replicate k 48) = v * 10 ^ k := by
  induction k with
  | zero => intro v; simp [numD]
  | succ k ih =>
    intro v
    rw [List.replicate_succ, numD_cons, ih]
    have : ((48 : UInt8).toNat : Int) = 48 := rfl
    rw [this, Int.pow_succ, show v * 10 + (48 - 48) = v * 10 by omega, Int.mul_assoc, Int.mul_comm 10 ((10 : Int) ^ k)]

/-- Digits, at least one, at most so many. -/
def areDig (l : List UInt8) (m : Int) : Bool := decide (l ≠ [] ∧ (l.length : Int) ≤ m) && allDig l

def minusOf (l : List UInt8) : Bool := [45].isPrefixOf l
def numOf (l : List UInt8) : List UInt8 := if minusOf l then l.drop 1 else l
def aheadOf (l : List UInt8) : List UInt8 := l.takeWhile (· != 46)
def behindOf (l : List UInt8) : List UInt8 := (l.dropWhile (· != 46)).drop 1
def hasDot (l : List UInt8) : Bool := decide (46 ∈ l)

def stTail (m : Bool) (t : Int × Int) : (Int × Int) × Int :=
  let u := if m then stOpp t.1 t.2 else t
  if stRight u.1 u.2 = true then (u, 0) else ((0, 0), 6)
def fracOf (l : List UInt8) : List UInt8 := (l ++ List.replicate 9 48).take 9
def stForm (l : List UInt8) : Bool := areDig (aheadOf l) 16 && (!hasDot l || areDig (behindOf l) 40)
/-- A text as a stamp, or its error. -/
def stParse (l : List UInt8) : (Int × Int) × Int :=
  if stForm (numOf l) = true then stTail (minusOf l) (numD 0 (aheadOf (numOf l)), numD 0 (fracOf (behindOf (numOf l)))) else ((0, 0), 2)

theorem fracOf_length (l : List UInt8) : (fracOf l).length = 9 := by simp [fracOf]
theorem allDig_take (l : List UInt8) : ∀ n, allDig l = true → allDig (l.take n) = true := by
  induction l with
  | nil => intro n h; simp [allDig]
  | cons b l ih =>
    intro n h
    have h1 : isDig b = true ∧ allDig l = true := by simpa [allDig] using h
    cases n with
    | zero => rfl
    | succ n => rw [List.take_succ_cons]; show (isDig b && allDig (l.take n)) = true; rw [h1.1, ih n h1.2]; rfl
theorem allDig_noughts (k : Nat) : allDig (List.replicate k 48) = true := by
  induction k with
  | zero => rfl
  | succ k ih => rw [List.replicate_succ]; show (isDig 48 && _) = true; rw [ih]; rfl
theorem fracOf_dig (l : List UInt8) (h : allDig l = true) : allDig (fracOf l) = true := allDig_take _ _ (by rw [allDig_append, h, allDig_noughts]; rfl)

theorem hasPrefix_minus (l : List UInt8) : Lib.hasPrefix l [45] = minusOf l := rfl
theorem trimPrefix_minus (l : List UInt8) : Lib.trimPrefix l [45] = numOf l := rfl

theorem index_dot (l : List UInt8) : (46 ∈ l → Lib.indexByte l 46 = (aheadOf l).length) ∧ (46 ∉ l → Lib.indexByte l 46 = -1) := by
  induction l with
  | nil => exact ⟨fun h => by simp at h, fun _ => rfl⟩
  | cons b l ih =>
    show (_ → (if b == 46 then (0 : Int) else if Lib.indexByte l 46 == -1 then -1 else Lib.indexByte l 46 + 1) = _) ∧ (_ → (if b == 46 then (0 : Int) else if Lib.indexByte l 46 == -1 then -1 else Lib.indexByte l 46 + 1) = _)
    by_cases hb : b = 46
    · subst hb
      exact ⟨fun _ => rfl, fun h => absurd List.mem_cons_self h⟩
    · have e : (b == 46) = false := by simpa using hb
      have hm : (46 ∈ b :: l) ↔ 46 ∈ l := by simp [Ne.symm hb]
      have ha : aheadOf (b :: l) = b :: aheadOf l := by unfold aheadOf; rw [List.takeWhile_cons_of_pos (by simpa using hb)]
      rw [e, ha]
      constructor
      · intro h
        rw [ih.1 (hm.1 h)]
        have : (((aheadOf l).length : Int) == -1) = false := by rw [beq_eq_false_iff_ne]; omega
        simp [this]
      · intro h
        rw [ih.2 (fun h2 => h (hm.2 h2))]; rfl
theorem take_ahead (l : List UInt8) : l.take (aheadOf l).length = aheadOf l := by
  unfold aheadOf
  conv => lhs; arg 2; rw [← List.takeWhile_append_dropWhile (p := fun b => b != 46) (l := l)]
  exact List.take_left
theorem drop_ahead (l : List UInt8) : l.drop ((aheadOf l).length + 1) = behindOf l := by
  unfold behindOf
  rw [← List.drop_drop]
  congr 1
  unfold aheadOf
  conv => lhs; arg 2; rw [← List.takeWhile_append_dropWhile (p := fun b => b != 46) (l := l)]
  exact List.drop_left
theorem ahead_none (l : List UInt8) (h : 46 ∉ l) : aheadOf l = l ∧ behindOf l = [] := by
  have h1 : aheadOf l = l := by
    unfold aheadOf
    induction l with
    | nil => rfl
    | cons b l ih =>
      have hb : b ≠ 46 := fun e => h (e ▸ List.mem_cons_self)
      rw [List.takeWhile_cons_of_pos (by simpa using hb), ih (fun hm => h (List.mem_cons_of_mem _ hm))]
  refine ⟨h1, ?_⟩
  have := drop_ahead l
  rw [h1] at this
  rw [← this, List.drop_of_length_le (by omega)]
theorem ahead_length (l : List UInt8) (h : 46 ∈ l) : (aheadOf l).length < l.length := by
  induction l with
  | nil => cases h
  | cons b l ih =>
    by_cases hb : b = 46
    · subst hb; simp [aheadOf]
    · have ha : aheadOf (b :: l) = b :: aheadOf l := by unfold aheadOf; rw [List.takeWhile_cons_of_pos (by simpa using hb)]
      have hm : 46 ∈ l := by rcases List.mem_cons.1 h with e | e; exact absurd e.symm hb; exact e
      rw [ha]; have := ih hm; simp; omega

/-! ### The document's own answer -/
def run17 : Nat → Int → List UInt8 → Int × Nat × List UInt8
  | n, v, [] => (v, n, [])
  | n, v, b :: l => if isDig b = true ∧ n < 17 then run17 (n + 1) (10 * v + b.toNat - 48) l else (v, n, b :: l)
theorem run17_cons (n : Nat) (v : Int) (b : UInt8) (l : List UInt8) : run17 n v (b :: l) = if isDig b = true ∧ n < 17 then run17 (n + 1) (10 * v + b.toNat - 48) l else (v, n, b :: l) := rfl
def run9 : Nat → Int → List UInt8 → Int × Nat × List UInt8
  | m, v, [] => (v, m, [])
  | m, v, b :: l => if isDig b = true then run9 (m + 1) (if m < 9 then 10 * v + b.toNat - 48 else v) l else (v, m, b :: l)
theorem run9_cons (m : Nat) (v : Int) (b : UInt8) (l : List UInt8) : run9 m v (b :: l) = if isDig b = true then run9 (m + 1) (if m < 9 then 10 * v + b.toNat - 48 else v) l else (v, m, b :: l) := rfl
/-- Noughts behind a number. -/
def pad10 : Nat → Int → Int
  | 0, v => v
  | k + 1, v => pad10 k (10 * v)
theorem pad10_succ (k : Nat) (v : Int) : pad10 (k + 1) v = pad10 k (10 * v) := rfl
theorem pad10_eq (k : Nat) : ∀ v : Int, pad10 k v = numD v (List.replicate k 48) := by
  induction k with
  | zero => intro v; rfl
  | succ k ih =>
    intro v
    rw [pad10_succ, ih, List.replicate_succ, numD_cons]
    have : ((48 : UInt8).toNat : Int) = 48 := rfl
    rw [this, show 10 * v = v * 10 + (48 - 48) by omega]
def refFrac : List UInt8 → Option Int
  | [] => some 0
  | b :: r => if b = 46 then (if (run9 0 0 r).2.1 < 1 ∨ 40 < (run9 0 0 r).2.1 ∨ (run9 0 0 r).2.2 ≠ [] then none else some (pad10 (9 - (run9 0 0 r).2.1) (run9 0 0 r).1)) else none
def refStParse (l : List UInt8) : (Int × Int) × Int :=
  if (run17 0 0 (numOf l)).2.1 < 1 ∨ 16 < (run17 0 0 (numOf l)).2.1 then ((0, 0), 2)
  else match refFrac (run17 0 0 (numOf l)).2.2 with
    | none => ((0, 0), 2)
    | some f => stTail (minusOf l) ((run17 0 0 (numOf l)).1, f)

/-- What stands ahead: digits; then nothing, or another byte. -/
theorem dig_parts (l : List UInt8) : ∃ A R, l = A ++ R ∧ allDig A = true ∧ (R = [] ∨ ∃ b r, R = b :: r ∧ isDig b = false) := by
  induction l with
  | nil => exact ⟨[], [], rfl, rfl, .inl rfl⟩
  | cons b l ih =>
    by_cases h : isDig b = true
    · obtain ⟨A, R, h1, h2, h3⟩ := ih
      exact ⟨b :: A, R, by rw [h1]; rfl, by show (isDig b && allDig A) = true; rw [h, h2]; rfl, h3⟩
    · exact ⟨[], b :: l, rfl, rfl, .inr ⟨b, l, rfl, by simpa using h⟩⟩

theorem run17_spec (A R : List UInt8) (hA : allDig A = true) (hR : R = [] ∨ ∃ b r, R = b :: r ∧ isDig b = false) :
    ∀ (n : Nat) (v : Int), n ≤ 17 → (n + A.length ≤ 17 → run17 n v (A ++ R) = (numD v A, n + A.length, R)) ∧ (17 ≤ n + A.length → (run17 n v (A ++ R)).2.1 = 17) := by
  induction A with
  | nil =>
    intro n v hn
    rcases hR with rfl | ⟨b, r, rfl, hb⟩
    · exact ⟨fun _ => rfl, fun h => by simp at h; show n = 17; omega⟩
    · have : run17 n v ([] ++ b :: r) = (v, n, b :: r) := by rw [List.nil_append, run17_cons, if_neg (by rw [hb]; simp)]
      rw [this]
      exact ⟨fun _ => rfl, fun h => by simp at h; show n = 17; omega⟩
  | cons b A ih =>
    intro n v hn
    have h1 : isDig b = true ∧ allDig A = true := by simpa [allDig] using hA
    rw [List.cons_append, run17_cons]
    by_cases h17 : n < 17
    · rw [if_pos ⟨h1.1, h17⟩]
      have hi := ih h1.2 (n + 1) (10 * v + b.toNat - 48) (by omega)
      rw [numD_cons, show v * 10 + ((b.toNat : Int) - 48) = 10 * v + b.toNat - 48 by omega, List.length_cons]
      exact ⟨fun h => by rw [hi.1 (by omega)]; simp; omega, fun h => hi.2 (by omega)⟩
    · rw [if_neg (fun e => h17 e.2)]
      exact ⟨fun h => by simp at h; omega, fun _ => by show n = 17; omega⟩

theorem run9_spec (A R : List UInt8) (hA : allDig A = true) (hR : R = [] ∨ ∃ b r, R = b :: r ∧ isDig b = false) :
    ∀ (m : Nat) (v : Int), run9 m v (A ++ R) = (numD v (A.take (9 - m)), m + A.length, R) := by
  induction A with
  | nil =>
    intro m v
    rw [List.take_nil]
    rcases hR with rfl | ⟨b, r, rfl, hb⟩
    · rfl
    · rw [List.nil_append, run9_cons, if_neg (by rw [hb]; simp)]; rfl
  | cons b A ih =>
    intro m v
    have h1 : isDig b = true ∧ allDig A = true := by simpa [allDig] using hA
    rw [List.cons_append, run9_cons, if_pos h1.1, ih h1.2, List.length_cons, show m + 1 + A.length = m + (A.length + 1) by omega]
    congr 1
    by_cases hm : m < 9
    · rw [if_pos hm, show 9 - m = (9 - (m + 1)) + 1 by omega, List.take_succ_cons, numD_cons, show v * 10 + ((b.toNat : Int) - 48) = 10 * v + b.toNat - 48 by omega]
    · rw [if_neg hm, show 9 - m = 0 by omega, show 9 - (m + 1) = 0 by omega]; rfl

theorem ahead_dig (A R : List UInt8) (hA : allDig A = true) : aheadOf (A ++ R) = A ++ aheadOf R ∧ behindOf (A ++ R) = behindOf R ∧ hasDot (A ++ R) = hasDot R := by
  induction A with
  | nil => exact ⟨rfl, rfl, rfl⟩
  | cons b A ih =>
    have h1 : isDig b = true ∧ allDig A = true := by simpa [allDig] using hA
    have hb := isDig_true h1.1
    have hne : b ≠ 46 := by intro e; rw [e] at hb; exact absurd hb.1 (by decide)
    obtain ⟨i1, i2, i3⟩ := ih h1.2
    refine ⟨?_, ?_, ?_⟩
    · rw [List.cons_append]; unfold aheadOf at *; rw [List.takeWhile_cons_of_pos (by simpa using hne), i1]; rfl
    · rw [List.cons_append]; unfold behindOf at *; rw [List.dropWhile_cons_of_pos (by simpa using hne), i2]
    · rw [List.cons_append, ← i3]; unfold hasDot; simp [Ne.symm hne]

theorem areDig_bad (A : List UInt8) (b : UInt8) (R : List UInt8) (hb : isDig b = false) (m : Int) : areDig (A ++ b :: R) m = false := by
  unfold areDig
  have : allDig (A ++ b :: R) = false := by rw [allDig_append]; show (_ && (isDig b && _)) = false; rw [hb]; simp
  rw [this, Bool.and_false]

theorem refStParse_eq (l : List UInt8) : refStParse l = stParse l := by
  unfold refStParse stParse stForm
  generalize numOf l = n
  generalize minusOf l = mi
  obtain ⟨A, R, rfl, hA, hR⟩ := dig_parts n
  obtain ⟨e1, e2, e3⟩ := ahead_dig A R hA
  have hs := run17_spec A R hA hR 0 0 (by decide)
  rw [e1, e2, e3]
  by_cases h17 : A.length ≤ 16
  · rw [hs.1 (by omega)]
    simp only [Nat.zero_add]
    by_cases h1 : A.length < 1
    · rw [if_pos (.inl h1)]
      obtain rfl : A = [] := List.eq_nil_of_length_eq_zero (by omega)
      rcases hR with rfl | ⟨b, r, rfl, hb⟩
      · rfl
      · have : areDig ([] ++ aheadOf (b :: r)) 16 = false := by
          by_cases h46 : b = 46
          · subst h46; rfl
          · have : aheadOf (b :: r) = b :: aheadOf r := by unfold aheadOf; rw [List.takeWhile_cons_of_pos (by simpa using h46)]
            rw [this]; exact areDig_bad [] b _ hb 16
        rw [this, Bool.false_and, if_neg (by simp)]
    · rw [if_neg (by omega)]
      have hAne : A ≠ [] := fun e => h1 (by rw [e]; decide)
      have hAd : areDig A 16 = true := by unfold areDig; rw [hA, decide_eq_true ⟨hAne, by omega⟩]; rfl
      rcases hR with rfl | ⟨b, r, rfl, hb⟩
      · have g1 : aheadOf ([] : List UInt8) = [] := rfl
        have g2 : hasDot [] = false := rfl
        rw [g1, List.append_nil, hAd, g2, if_pos (by rfl)]
        show stTail mi (numD 0 A, 0) = stTail mi (numD 0 A, numD 0 (fracOf (behindOf [])))
        congr 1
      · by_cases h46 : b = 46
        · subst h46
          have g1 : aheadOf (46 :: r) = [] := rfl
          have g2 : hasDot (46 :: r) = true := by unfold hasDot; simp
          have g3 : behindOf (46 :: r) = r := rfl
          rw [g1, List.append_nil, hAd, g2, g3]
          obtain ⟨D, Q, rfl, hD, hQ⟩ := dig_parts r
          have hr9 := run9_spec D Q hD hQ 0 0
          show (match (if (46 : UInt8) = 46 then (if (run9 0 0 (D ++ Q)).2.1 < 1 ∨ 40 < (run9 0 0 (D ++ Q)).2.1 ∨ (run9 0 0 (D ++ Q)).2.2 ≠ [] then none else some (pad10 (9 - (run9 0 0 (D ++ Q)).2.1) (run9 0 0 (D ++ Q)).1)) else none) with | none => _ | some f => _) = _
          rw [if_pos rfl, hr9]
          simp only [Nat.zero_add, Bool.true_and, Bool.not_true, Bool.false_or, Nat.sub_zero]
          rcases hQ with rfl | ⟨c, q, rfl, hc⟩
          · rw [List.append_nil]
            by_cases hlen : 1 ≤ D.length ∧ D.length ≤ 40
            · have hDne : D ≠ [] := fun e => by rw [e] at hlen; exact absurd hlen.1 (by decide)
              have hDd : areDig D 40 = true := by unfold areDig; rw [hD, decide_eq_true ⟨hDne, by omega⟩]; rfl
              rw [if_neg (by intro h; rcases h with h | h | h; omega; omega; exact h rfl), hDd, if_pos rfl]
              show stTail mi (numD 0 A, pad10 (9 - D.length) (numD 0 (D.take 9))) = _
              congr 2
              rw [pad10_eq, ← numD_append]
              congr 1
              unfold fracOf
              rw [List.take_append, List.take_replicate]
              congr 2
              omega
            · have hDd : areDig D 40 = false := by
                unfold areDig
                rw [decide_eq_false (by rintro ⟨h1, h2⟩; have : D.length ≠ 0 := fun e => h1 (List.eq_nil_of_length_eq_zero e); omega), Bool.false_and]
              rw [if_pos (by omega), hDd, if_neg (by simp)]
          · rw [areDig_bad D c q hc 40, if_pos (.inr (.inr (by simp))), if_neg (by simp)]
        · have g1 : aheadOf (b :: r) = b :: aheadOf r := by unfold aheadOf; rw [List.takeWhile_cons_of_pos (by simpa using h46)]
          rw [g1, areDig_bad A b _ hb 16, Bool.false_and, if_neg (by simp)]
          have gf : refFrac (b :: r) = none := if_neg h46
          simp only [gf]
  · have h2 := hs.2 (by omega)
    rw [h2, if_pos (.inr (by decide))]
    have : areDig (A ++ aheadOf R) 16 = false := by
      unfold areDig
      rw [decide_eq_false (by rintro ⟨_, h⟩; rw [List.length_append] at h; omega), Bool.false_and]
    rw [this, Bool.false_and, if_neg (by simp)]

/-! ### As it is written -/
/-- So many decimal digits, noughts ahead. -/
def digN : Nat → Nat → List UInt8
  | 0, _ => []
  | k + 1, v => UInt8.ofNat (48 + v / 10 ^ k % 10) :: digN k v
def trimN (l : List UInt8) : List UInt8 := Lib.trimRightB l 48
/-- Digits as far as they are needed. -/
def fracN : Nat → Nat → List UInt8
  | 0, _ => []
  | k + 1, v => if v = 0 then [] else UInt8.ofNat (48 + v / 10 ^ k) :: fracN k (v % 10 ^ k)

theorem digit_val (k : Nat) (h : k < 10) : (((UInt8.ofNat (48 + k)).toNat : Nat) : Int) = 48 + k := by
  rw [UInt8.toNat_ofNat']
  omega
theorem digN_length (k v : Nat) : (digN k v).length = k := by
  induction k with
  | zero => rfl
  | succ k ih => show (digN k v).length + 1 = k + 1; rw [ih]
theorem digN_mod (k : Nat) : ∀ j v, k ≤ j → digN k (v % 10 ^ j) = digN k v := by
  induction k with
  | zero => intro j v _; rfl
  | succ k ih =>
    intro j v h
    show UInt8.ofNat (48 + v % 10 ^ j / 10 ^ k % 10) :: digN k (v % 10 ^ j) = UInt8.ofNat (48 + v / 10 ^ k % 10) :: digN k v
    rw [ih j v (by omega)]
    congr 3
    rw [show j = k + (j - k) by omega, Nat.pow_add, Nat.mod_mul_right_div_self, show j - k = (j - k - 1) + 1 by omega, Nat.pow_succ, Nat.mod_mul_left_mod]
theorem trimN_cons (b : UInt8) (l : List UInt8) : trimN (b :: l) = if trimN l = [] ∧ b = 48 then [] else b :: trimN l := by
  unfold trimN Lib.trimRightB
  rw [List.reverse_cons, List.dropWhile_append]
  by_cases h : (l.reverse.dropWhile (· == 48)) = []
  · rw [h]
    by_cases hb : b = 48
    · subst hb; rfl
    · have e : (b == 48) = false := by simpa using hb
      simp [e, hb]
  · simp [h]
theorem trim_digN (k : Nat) : ∀ v, v < 10 ^ k → trimN (digN k v) = fracN k v := by
  induction k with
  | zero => intro v _; rfl
  | succ k ih =>
    intro v hv
    have hp : 0 < 10 ^ k := Nat.pow_pos (by decide)
    rw [Nat.pow_succ] at hv
    have hd : v / 10 ^ k < 10 := Nat.div_lt_of_lt_mul hv
    show trimN (UInt8.ofNat (48 + v / 10 ^ k % 10) :: digN k v) = if v = 0 then [] else UInt8.ofNat (48 + v / 10 ^ k) :: fracN k (v % 10 ^ k)
    rw [trimN_cons, ← digN_mod k k v (Nat.le_refl _), ih _ (Nat.mod_lt _ hp), Nat.mod_eq_of_lt hd]
    by_cases h0 : v = 0
    · subst h0
      have hz : fracN k (0 % 10 ^ k) = [] := by rw [Nat.zero_mod]; cases k <;> rfl
      rw [if_pos rfl, hz, if_pos ⟨rfl, by rw [Nat.zero_div]; rfl⟩]
    · rw [if_neg h0, if_neg]
      rintro ⟨h1, h2⟩
      have hq : v / 10 ^ k = 0 := by
        have := digit_val _ hd
        rw [h2] at this
        have h48 : ((48 : UInt8).toNat : Int) = 48 := rfl
        omega
      have hr : v % 10 ^ k = v := by rw [Nat.mod_eq_of_lt]; exact Nat.lt_of_div_eq_zero hp hq
      rw [hr] at h1
      cases k with
      | zero => simp at hv hq; omega
      | succ k => unfold fracN at h1; rw [if_neg h0] at h1; cases h1

/-- A stamp as it is written. -/
def dec2 (s n : Int) : List UInt8 := Lib.decDigits s.toNat ++ if n = 0 then [] else 46 :: trimN (digN 9 n.toNat)
def stText (s n : Int) : List UInt8 := if s < 0 then 45 :: dec2 (stOpp s n).1 (stOpp s n).2 else dec2 s n

theorem decDigits_dig (u : Nat) : allDig (Lib.decDigits u) = true ∧ Lib.decDigits u ≠ [] ∧ ∀ v : Int, numD v (Lib.decDigits u) = v * 10 ^ (Lib.decDigits u).length + u := by
  induction u using Nat.strongRecOn with
  | _ u ih =>
    rw [Lib.decDigits]
    by_cases h : u < 10
    · rw [dif_pos h]
      have hv := digit_val u h
      refine ⟨?_, by simp, fun v => ?_⟩
      · show (isDig _ && true) = true; rw [isDig_mk (by rw [hv]; omega) (by rw [hv]; omega)]; rfl
      · show v * 10 + (((UInt8.ofNat (48 + u)).toNat : Int) - 48) = _; rw [hv]; simp; omega
    · rw [dif_neg h]
      obtain ⟨i1, i2, i3⟩ := ih (u / 10) (by omega)
      have hv := digit_val (u % 10) (by omega)
      refine ⟨?_, by simp, fun v => ?_⟩
      · rw [allDig_append, i1]; show (isDig _ && true) = true; rw [isDig_mk (by rw [hv]; omega) (by rw [hv]; omega)]; rfl
      · rw [numD_append, i3]
        show (v * 10 ^ _ + _) * 10 + (((UInt8.ofNat (48 + u % 10)).toNat : Int) - 48) = _
        rw [hv, List.length_append, List.length_singleton, Int.pow_succ, ← Int.mul_assoc]
        generalize v * 10 ^ (Lib.decDigits (u / 10)).length = X
        omega

theorem fracN_dig (k : Nat) : ∀ v, v < 10 ^ k → allDig (fracN k v) = true ∧ (fracN k v).length ≤ k ∧ ∀ a : Int, numD a (fracN k v ++ List.replicate (k - (fracN k v).length) 48) = a * 10 ^ k + v := by
  induction k with
  | zero => intro v hv; refine ⟨rfl, by simp [fracN], fun a => ?_⟩; simp at hv; subst hv; simp [fracN, numD]
  | succ k ih =>
    intro v hv
    have hp : 0 < 10 ^ k := Nat.pow_pos (by decide)
    rw [Nat.pow_succ] at hv
    have hd : v / 10 ^ k < 10 := Nat.div_lt_of_lt_mul hv
    unfold fracN
    by_cases h0 : v = 0
    · rw [if_pos h0]
      refine ⟨rfl, by simp, fun a => ?_⟩
      rw [List.nil_append, numD_noughts, h0]; simp
    · rw [if_neg h0]
      obtain ⟨i1, i2, i3⟩ := ih (v % 10 ^ k) (Nat.mod_lt _ hp)
      have hv2 := digit_val _ hd
      have hdg : isDig (UInt8.ofNat (48 + v / 10 ^ k)) = true := by
        generalize v / 10 ^ k = q at *
        exact isDig_mk (by rw [hv2]; omega) (by rw [hv2]; omega)
      refine ⟨?_, by simp; exact i2, fun a => ?_⟩
      · show (isDig _ && _) = true; rw [hdg, i1]; rfl
      · rw [List.length_cons, show k + 1 - ((fracN k (v % 10 ^ k)).length + 1) = k - (fracN k (v % 10 ^ k)).length by omega, List.cons_append, numD_cons, hv2, i3]
        have hdm : (v : Int) = (10 ^ k : Nat) * ((v / 10 ^ k : Nat) : Int) + ((v % 10 ^ k : Nat) : Int) := by
          have := Nat.div_add_mod v (10 ^ k)
          exact_mod_cast this.symm
        have hc : (((10 : Nat) ^ k : Nat) : Int) = (10 : Int) ^ k := by simp
        rw [hdm, hc, Int.pow_succ]
        generalize ((v / 10 ^ k : Nat) : Int) = x
        generalize ((v % 10 ^ k : Nat) : Int) = y
        rw [show a * 10 + (48 + x - 48) = a * 10 + x by omega, Int.add_mul, Int.mul_assoc, Int.mul_comm 10 ((10 : Int) ^ k), Int.mul_comm x]
        omega
end Go.Proofs.YtjmmecokfijglaaGreatDoor
