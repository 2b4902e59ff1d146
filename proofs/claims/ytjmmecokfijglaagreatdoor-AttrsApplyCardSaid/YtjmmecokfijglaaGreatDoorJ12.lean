/-
  Texts of this seat's proof, joined: their order is that of the build.
-/
import Derived.Test.YtjmmecokfijglaaGreatDoorJ11
import Derived.Test.YtjmmecokfijglaaGreatDoorJ01
import Derived.Test.YtjmmecokfijglaaGreatDoorRows
import Derived.Test.YtjmmecokfijglaaGreatDoorJ06
import Derived.WalkSmall
import Derived.Laws.Rows
namespace Go.Proofs.YtjmmecokfijglaaGreatDoor
open Go.ChangeShapes Go.WideShapes Go.ChangeAt Go.RowKit

theorem digN_low (k : Nat) : ∀ v, digN (k + 1) v = digN k (v / 10) ++ [UInt8.ofNat (48 + v % 10)] := by
  induction k with
  | zero => intro v; show [UInt8.ofNat (48 + v / 10 ^ 0 % 10)] = _; simp [digN]
  | succ k ih =>
    intro v
    show UInt8.ofNat (48 + v / 10 ^ (k + 1) % 10) :: digN (k + 1) v = (UInt8.ofNat (48 + v / 10 / 10 ^ k % 10) :: digN k (v / 10)) ++ _
    rw [ih v, List.cons_append, Nat.div_div_eq_div_mul, Nat.pow_succ, Nat.mul_comm 10]
theorem decDigits_one (k : Nat) : ∀ v, v < 10 ^ k → Lib.decDigits (10 ^ k + v) = 49 :: digN k v := by
  induction k with
  | zero => intro v hv; simp at hv; subst hv; rw [Lib.decDigits, dif_pos (by decide)]; rfl
  | succ k ih =>
    intro v hv
    have hp : 0 < 10 ^ k := Nat.pow_pos (by decide)
    rw [Nat.pow_succ] at hv ⊢
    rw [Lib.decDigits, dif_neg (by omega), digN_low, show (10 ^ k * 10 + v) / 10 = 10 ^ k + v / 10 by omega, ih (v / 10) (by omega), show (10 ^ k * 10 + v) % 10 = v % 10 by omega]
    rfl
theorem part_digits (n : Int) (h0 : 0 ≤ n) (h1 : n ≤ 999999999) : (Lib.decDigits (1000000000 + n).toNat).drop 1 = digN 9 n.toNat := by
  have := decDigits_one 9 n.toNat (by have : (10 : Nat) ^ 9 = 1000000000 := by decide
                                      omega)
  rw [show (1000000000 + n).toNat = 10 ^ 9 + n.toNat by have : (10 : Nat) ^ 9 = 1000000000 := by decide
                                                        omega, this]
  rfl
theorem decDigits_length16 (u : Nat) (h : u ≤ 9007199254740991) : (Lib.decDigits u).length ≤ 16 := by
  rw [Lib.decDigits_length]
  rcases Nat.lt_or_ge (Lib.nDigits u) 17 with h1 | h1
  · omega
  · exfalso
    have key : ∀ k u, k < Lib.nDigits u → 10 ^ k ≤ u ∨ k = 0 := by
      intro k
      induction k with
      | zero => intro u _; exact .inr rfl
      | succ k ih =>
        intro u hk
        by_cases h : u < 10
        · rw [Lib.nDigits_small h] at hk; omega
        · rw [Lib.nDigits_big h] at hk
          left
          rw [Nat.pow_succ]
          rcases ih (u / 10) (by omega) with h2 | h2
          · omega
          · subst h2; simp; omega
    rcases key 16 u (by omega) with h2 | h2
    · have : (10 : Nat) ^ 16 = 10000000000000000 := by decide
      omega
    · cases h2

theorem first_digit (u : Nat) (l : List UInt8) : ∃ b t, Lib.decDigits u ++ l = b :: t ∧ isDig b = true := by
  obtain ⟨h1, h2, _⟩ := decDigits_dig u
  rcases hd : Lib.decDigits u with _ | ⟨b, t⟩
  · exact absurd hd h2
  · rw [hd] at h1
    have : isDig b = true ∧ allDig t = true := by simpa [allDig] using h1
    exact ⟨b, t ++ l, rfl, this.1⟩

theorem dec2_parse (s n : Int) (hs : 0 ≤ s ∧ s ≤ 9007199254740991) (hn : 0 ≤ n ∧ n ≤ 999999999) :
    stForm (dec2 s n) = true ∧ numD 0 (aheadOf (dec2 s n)) = s ∧ numD 0 (fracOf (behindOf (dec2 s n))) = n ∧ minusOf (dec2 s n) = false := by
  obtain ⟨h1, h2, h3⟩ := decDigits_dig s.toNat
  have hlen := decDigits_length16 s.toNat (by omega)
  have hv : numD 0 (Lib.decDigits s.toNat) = s := by rw [h3]; simp; omega
  have hA : areDig (Lib.decDigits s.toNat) 16 = true := by unfold areDig; rw [h1, decide_eq_true ⟨h2, by omega⟩]; rfl
  have hm : minusOf (dec2 s n) = false := by
    unfold dec2
    obtain ⟨b, t, e, hb⟩ := first_digit s.toNat (if n = 0 then [] else 46 :: trimN (digN 9 n.toNat))
    rw [e]
    have hbb := isDig_true hb
    show ((45 == b) && true) = false
    have : (45 == b) = false := by
      rw [beq_eq_false_iff_ne]
      intro e; rw [← e] at hbb; exact absurd hbb.1 (by decide)
    rw [this]; rfl
  refine ⟨?_, ?_, ?_, hm⟩
  all_goals unfold dec2
  all_goals obtain ⟨e1, e2, e3⟩ := ahead_dig (Lib.decDigits s.toNat) (if n = 0 then [] else 46 :: trimN (digN 9 n.toNat)) h1
  · unfold stForm
    rw [e1, e2, e3]
    by_cases h0 : n = 0
    · rw [if_pos h0]
      show (areDig (Lib.decDigits s.toNat ++ []) 16 && true) = true
      rw [List.append_nil, hA]; rfl
    · rw [if_neg h0, trim_digN 9 n.toNat (by have : (10 : Nat) ^ 9 = 1000000000 := by decide
                                             omega)]
      obtain ⟨f1, f2, _⟩ := fracN_dig 9 n.toNat (by have : (10 : Nat) ^ 9 = 1000000000 := by decide
                                                    omega)
      have hne : fracN 9 n.toNat ≠ [] := by unfold fracN; rw [if_neg (by omega)]; simp
      show (areDig (Lib.decDigits s.toNat ++ []) 16 && (!hasDot (46 :: fracN 9 n.toNat) || areDig (fracN 9 n.toNat) 40)) = true
      have hF : areDig (fracN 9 n.toNat) 40 = true := by unfold areDig; rw [f1, decide_eq_true ⟨hne, by omega⟩]; rfl
      rw [List.append_nil, hA, hF, Bool.or_true]; rfl
  · rw [e1]
    by_cases h0 : n = 0
    · rw [if_pos h0]
      show numD 0 (Lib.decDigits s.toNat ++ []) = s
      rw [List.append_nil, hv]
    · rw [if_neg h0]
      show numD 0 (Lib.decDigits s.toNat ++ []) = s
      rw [List.append_nil, hv]
  · rw [e2]
    by_cases h0 : n = 0
    · rw [if_pos h0, h0]; rfl
    · rw [if_neg h0, trim_digN 9 n.toNat (by have : (10 : Nat) ^ 9 = 1000000000 := by decide
                                             omega)]
      obtain ⟨f1, f2, f3⟩ := fracN_dig 9 n.toNat (by have : (10 : Nat) ^ 9 = 1000000000 := by decide
                                                     omega)
      show numD 0 (fracOf (fracN 9 n.toNat)) = n
      unfold fracOf
      rw [List.take_append, List.take_of_length_le f2, List.take_replicate, Nat.min_eq_left (by omega), f3]
      omega

theorem stOpp_stOpp (s n : Int) : stOpp (stOpp s n).1 (stOpp s n).2 = (s, n) ∨ n = 1000000000 := by
  unfold stOpp
  by_cases h : n = 0
  · left; rw [if_pos h]; simp [h]
  · rw [if_neg h]
    by_cases h2 : n = 1000000000
    · exact .inr h2
    · left
      simp only
      rw [if_neg (by omega)]
      congr 1 <;> omega

/-- What is written is read as it was. -/
theorem parse_text (s n : Int) (h : stRight s n = true) : stParse (stText s n) = ((s, n), 0) := by
  obtain ⟨h1, h2, h3, h4⟩ := stRight_true h
  unfold stText
  by_cases hs : s < 0
  · rw [if_pos hs]
    have hb : 0 ≤ (stOpp s n).1 ∧ (stOpp s n).1 ≤ 9007199254740991 ∧ 0 ≤ (stOpp s n).2 ∧ (stOpp s n).2 ≤ 999999999 := by
      unfold stOpp; split <;> simp only <;> omega
    obtain ⟨p1, p2, p3, p4⟩ := dec2_parse (stOpp s n).1 (stOpp s n).2 ⟨hb.1, hb.2.1⟩ hb.2.2
    have hm : minusOf (45 :: dec2 (stOpp s n).1 (stOpp s n).2) = true := rfl
    have hnu : numOf (45 :: dec2 (stOpp s n).1 (stOpp s n).2) = dec2 (stOpp s n).1 (stOpp s n).2 := rfl
    unfold stParse
    rw [hnu, hm, if_pos p1, p2, p3]
    show (if stRight (stOpp (stOpp s n).1 (stOpp s n).2).1 (stOpp (stOpp s n).1 (stOpp s n).2).2 = true then (stOpp (stOpp s n).1 (stOpp s n).2, (0 : Int)) else ((0, 0), 6)) = _
    rw [(stOpp_stOpp s n).resolve_right (by omega), if_pos h]
  · rw [if_neg hs]
    obtain ⟨p1, p2, p3, p4⟩ := dec2_parse s n ⟨by omega, h2⟩ ⟨h3, h4⟩
    have hnu : numOf (dec2 s n) = dec2 s n := by unfold numOf; rw [p4]; rfl
    unfold stParse
    rw [hnu, p4, if_pos p1, p2, p3]
    show (if stRight s n = true then ((s, n), (0 : Int)) else ((0, 0), 6)) = _
    rw [if_pos h]

theorem tail_right (m : Bool) (u : Int × Int) (h : (stTail m u).2 = 0) : stRight (stTail m u).1.1 (stTail m u).1.2 = true := by
  unfold stTail at *
  generalize (if m then stOpp u.1 u.2 else u) = x at *
  by_cases h2 : stRight x.1 x.2 = true
  · simp only [h2, if_true]
  · simp [h2] at h

/-- Every stamp that is told is right. -/
theorem parse_right (l : List UInt8) (h : (stParse l).2 = 0) : stRight (stParse l).1.1 (stParse l).1.2 = true := by
  unfold stParse at *
  by_cases h1 : stForm (numOf l) = true
  · rw [if_pos h1] at *
    exact tail_right _ _ h
  · rw [if_neg h1] at h
    exact absurd h (by decide)

/-- Longer than any number with a sign, a stop, and all digits. -/
theorem parse_long (l : List UInt8) (h : 100 < l.length) : stParse l = ((0, 0), 2) := by
  unfold stParse
  rw [if_neg]
  intro hf
  have hn : 100 ≤ (numOf l).length := by unfold numOf; split <;> (try rw [List.length_drop]) <;> omega
  unfold stForm at hf
  rw [Bool.and_eq_true] at hf
  obtain ⟨f1, f2⟩ := hf
  have a16 : (aheadOf (numOf l)).length ≤ 16 := by
    unfold areDig at f1
    rw [Bool.and_eq_true, decide_eq_true_eq] at f1
    have := f1.1.2; omega
  by_cases hd : 46 ∈ numOf l
  · have f3 : areDig (behindOf (numOf l)) 40 = true := by
      unfold hasDot at f2
      rw [decide_eq_true hd] at f2
      simpa using f2
    unfold areDig at f3
    rw [Bool.and_eq_true, decide_eq_true_eq] at f3
    have h40 := f3.1.2
    have := drop_ahead (numOf l)
    rw [← this, List.length_drop] at h40
    omega
  · rw [(ahead_none _ hd).1] at a16
    omega
end Go.Proofs.YtjmmecokfijglaaGreatDoor
namespace Go.Proofs.YtjmmecokfijglaaGreatDoor
open Go.ChangeShapes Go.WideShapes Go.ChangeAt Go.RowKit

/-- The library's table of powers of ten is as its text lays it. -/
def TabOk (w : World) : Prop := Lib.TabIs Tryz.prog w "internal/strconv.uint64pow10" .u64 Lib.pow10Tab
theorem tab_named : Tryz.prog.globalNamed "internal/strconv.uint64pow10" = some 1 := by kernel_rfl
theorem TabOk.lt {w : World} (h : TabOk w) : 1 < w.heap.size := by
  rcases Nat.lt_or_ge 1 w.heap.size with hl | hl
  · exact hl
  · exfalso
    unfold TabOk Lib.TabIs World.var? at h
    rw [tab_named] at h
    simp only [Option.bind_some] at h
    rw [Array.getElem?_eq_none hl] at h
    cases h
theorem TabOk.below {B : Nat} {w w' : World} (h : TabOk w) (hb : Below B w w') (hB : w.heap.size ≤ B) : TabOk w' :=
  var?_below hb tab_named (Nat.lt_of_lt_of_le h.lt hB) h

theorem below_grow (w : World) (k : Nat) (os : Array Obj) : Below w.heap.size w (Go.Sort.grow (w.drewN k) os) :=
  ⟨rfl, rfl, rfl, by show _ ≤ (w.heap ++ os).size; simp, fun i hi => by show (w.heap ++ os)[i]? = w.heap[i]?; rw [Array.getElem?_append_left hi]⟩

theorem itoa_any (n : Int) (w : World) (h0 : 0 ≤ n) (h1 : n ≤ 9223372036854775807) (ht : TabOk w) :
    Calls Tryz.prog 131 #[.int .i64 n] w fun e w' => Below w.heap.size w w' ∧ e = .returned (.string ⟨(Lib.decDigits n.toNat).toArray⟩) :=
  (Tryz.strconv_Itoa n (by omega) h1 w ht).mono fun e w' ⟨he, k, os, hw⟩ => ⟨by rw [hw]; exact below_grow w k os, by rw [he]; unfold Lib.itoa; rw [if_neg (by omega)]⟩
end Go.Proofs.YtjmmecokfijglaaGreatDoor
