/-
  Plain functions on lists of bytes: what package text and the document's answer compute, and that they are one. No row of the program is read here.
-/
import Derived.Test.YtamenhkbmbaopaaGreatDoorBase
import Derived.Lib.IndexMore
import Derived.Lib.LastIndexLaws
import Derived.Lib.Repeat
namespace Go.Proofs.YtamenhkbmbaopaaGreatDoor
open Go.ChangeShapes Go.WideShapes Go.ChangeAt Go.RowKit

/-- What stands ahead of the first NUL. -/
def txtRead (l : List UInt8) : List UInt8 := l.takeWhile (fun b => b != 0)

theorem index_nul (l : List UInt8) : (0 ∈ l → Lib.index l [0] = (txtRead l).length) ∧ (0 ∉ l → Lib.index l [0] = -1) := by
  induction l with
  | nil => exact ⟨fun h => by simp at h, fun _ => by rfl⟩
  | cons b l ih =>
    unfold Lib.index txtRead
    by_cases hb : b = 0
    · subst hb
      refine ⟨fun _ => ?_, fun h => absurd List.mem_cons_self h⟩
      rw [if_pos (by rfl)]; rfl
    · have hp : ([0] : List UInt8).isPrefixOf (b :: l) = false := by simp [List.isPrefixOf, Ne.symm hb]
      rw [hp]
      have hm : (0 ∈ b :: l) ↔ 0 ∈ l := by simp [Ne.symm hb]
      rw [List.takeWhile_cons_of_pos (by simpa using hb)]
      constructor
      · intro h
        rw [ih.1 (hm.1 h)]
        have : (((txtRead l).length : Int) == -1) = false := by rw [beq_eq_false_iff_ne]; omega
        rw [this]; simp [txtRead]
      · intro h
        rw [ih.2 (fun h2 => h (hm.2 h2))]; rfl

theorem take_txtRead (l : List UInt8) : l.take (txtRead l).length = txtRead l := by
  unfold txtRead
  conv => lhs; arg 2; rw [← List.takeWhile_append_dropWhile (p := fun b => b != 0) (l := l)]
  exact List.take_left

theorem txtRead_cons (b : UInt8) (l : List UInt8) : txtRead (b :: l) = if b = 0 then [] else b :: txtRead l := by
  unfold txtRead
  by_cases h : b = 0
  · rw [if_pos h, List.takeWhile_cons_of_neg (by simp [h])]
  · rw [if_neg h, List.takeWhile_cons_of_pos (by simpa using h)]

theorem txtRead_all (l : List UInt8) (h : 0 ∉ l) : txtRead l = l := by
  induction l with
  | nil => rfl
  | cons b l ih =>
    rw [txtRead_cons, if_neg (fun e : b = 0 => h (e ▸ List.mem_cons_self)), ih (fun hm => h (List.mem_cons_of_mem _ hm))]

theorem txtRead_free (l : List UInt8) : 0 ∉ txtRead l := by
  induction l with
  | nil => simp [txtRead]
  | cons b l ih =>
    rw [txtRead_cons]
    by_cases h : b = 0
    · rw [if_pos h]; simp
    · rw [if_neg h]
      intro hm
      rcases List.mem_cons.1 hm with h2 | h2
      · exact h h2.symm
      · exact ih h2

theorem txtRead_eq_iff (l : List UInt8) : txtRead l = l ↔ 0 ∉ l :=
  ⟨fun h => h ▸ txtRead_free l, txtRead_all l⟩

theorem cut_nul (l : List UInt8) : (Lib.cut l [0]).1 = txtRead l := by
  unfold Lib.cut
  by_cases h : 0 ∈ l
  · rw [(index_nul l).1 h, if_pos (by omega)]
    show l.take (((txtRead l).length : Int)).toNat = _
    rw [Int.toNat_natCast, take_txtRead]
  · rw [(index_nul l).2 h, if_neg (by decide)]
    exact (txtRead_all l h).symm

theorem indexByte_nul (l : List UInt8) : Lib.contains l [0] = decide (0 ∈ l) := by
  unfold Lib.contains
  by_cases h : 0 ∈ l
  · rw [(index_nul l).1 h, decide_eq_true h]; exact decide_eq_true (by omega)
  · rw [(index_nul l).2 h, decide_eq_false h]; rfl

theorem repeat_nul (n : Nat) : Lib.repeatL [0] n = List.replicate n 0 := by
  induction n with
  | zero => rfl
  | succ n ih => show [0] ++ Lib.repeatL [0] n = _; rw [ih]; rfl

/-- A text in so many bytes. -/
def txtWrite (l : List UInt8) (n : Int) : Option (List UInt8) :=
  if 0 ≤ n ∧ n ≤ 512 ∧ (l.length : Int) ≤ n ∧ 0 ∉ l then some (l ++ List.replicate (n.toNat - l.length) 0) else none

theorem txtRead_write (l : List UInt8) (m : Nat) (h : 0 ∉ l) : txtRead (l ++ List.replicate m 0) = l := by
  unfold txtRead
  rw [List.takeWhile_append, if_pos (by
    have := txtRead_all l h
    unfold txtRead at this
    rw [this])]
  cases m with
  | zero => simp
  | succ m => rw [List.replicate_succ]; simp

/-- A slash at i that parts a name: both fields fit, and the base isn't empty. -/
def parts (l : List UInt8) (i : Nat) : Prop := l[i]? = some 47 ∧ 1 ≤ i ∧ i ≤ 155 ∧ 1 ≤ l.length - i - 1 ∧ l.length - i - 1 ≤ 100 ∧ i < l.length

instance (l : List UInt8) (i : Nat) : Decidable (parts l i) := by unfold parts; infer_instance

/-- The last such place below k, or -1. -/
def lastPart (l : List UInt8) : Nat → Int
  | 0 => -1
  | k + 1 => if parts l k then k else lastPart l k

theorem lastPart_succ (l : List UInt8) (k : Nat) : lastPart l (k + 1) = if parts l k then (k : Int) else lastPart l k := rfl

theorem lastPart_spec (l : List UInt8) (k : Nat) : (lastPart l k = -1 ∧ ∀ j, j < k → ¬ parts l j) ∨ (∃ i : Nat, i < k ∧ lastPart l k = i ∧ parts l i ∧ ∀ j, i < j → j < k → ¬ parts l j) := by
  induction k with
  | zero => exact .inl ⟨rfl, fun j hj => absurd hj (by omega)⟩
  | succ k ih =>
    rw [lastPart_succ]
    by_cases h : parts l k
    · rw [if_pos h]
      exact .inr ⟨k, by omega, rfl, h, fun j h1 h2 => absurd h1 (by omega)⟩
    · rw [if_neg h]
      rcases ih with ⟨h1, h2⟩ | ⟨i, h1, h2, h3, h4⟩
      · refine .inl ⟨h1, fun j hj => ?_⟩
        by_cases hjk : j = k
        · subst hjk; exact h
        · exact h2 j (by omega)
      · refine .inr ⟨i, by omega, h2, h3, fun j h5 h6 => ?_⟩
        by_cases hjk : j = k
        · subst hjk; exact h
        · exact h4 j h5 (by omega)

theorem lastPart_uniq (l : List UInt8) (k i : Nat) (hi : i < k) (hp : parts l i) (hno : ∀ j, i < j → j < k → ¬ parts l j) : lastPart l k = i := by
  rcases lastPart_spec l k with ⟨_, h2⟩ | ⟨i', h1, h2, h3, h4⟩
  · exact absurd hp (h2 i hi)
  · rw [h2]
    rcases Nat.lt_trichotomy i i' with h | h | h
    · exact absurd h3 (hno i' h h1)
    · rw [h]
    · exact absurd hp (h4 i h hi)

theorem lastPart_none (l : List UInt8) (k : Nat) (hno : ∀ j, j < k → ¬ parts l j) : lastPart l k = -1 := by
  rcases lastPart_spec l k with ⟨h1, _⟩ | ⟨i, h1, _, h3, _⟩
  · exact h1
  · exact absurd h3 (hno i h1)

/-- A name in two fields. -/
def txtPart (l : List UInt8) : Option (List UInt8 × List UInt8) :=
  if l.length ≤ 100 then some ([], l)
  else if lastPart l l.length < 0 then none else some (l.take (lastPart l l.length).toNat, l.drop ((lastPart l l.length).toNat + 1))

theorem occ_slash (l : List UInt8) (i : Nat) : Lib.occAt l [47] i = true ↔ l[i]? = some 47 := by
  unfold Lib.occAt
  rw [← List.head?_drop]
  cases l.drop i with
  | nil => simp
  | cons b t =>
    constructor
    · intro h
      have : (47 : UInt8) = b := by simpa [List.isPrefixOf] using h
      rw [← this]; rfl
    · intro h
      have : b = 47 := by simpa using h
      rw [this]; rfl

/-- What the program looks for is what the document says. -/
theorem lastIndex_part (l : List UInt8) (h : 100 < l.length) :
    let s := Lib.lastIndex (l.take (min (l.length - 1) 156)) [47]
    (1 ≤ s ∧ (l.length : Int) - s - 1 ≤ 100 → lastPart l l.length = s) ∧ (¬ (1 ≤ s ∧ (l.length : Int) - s - 1 ≤ 100) → lastPart l l.length < 0) ∧ s < l.length ∧ -1 ≤ s := by
  intro s
  have hlen : (l.take (min (l.length - 1) 156)).length = min (l.length - 1) 156 := by rw [List.length_take]; omega
  have hs : s = Lib.lastOcc (l.take (min (l.length - 1) 156)) [47] (min (l.length - 1) 156) := by
    show Lib.lastIndex _ _ = _
    unfold Lib.lastIndex
    rw [hlen, if_pos (by simp; omega)]
    congr 1
    simp; omega
  have hocc : ∀ j, j < min (l.length - 1) 156 → (Lib.occAt (l.take (min (l.length - 1) 156)) [47] j = true ↔ l[j]? = some 47) := by
    intro j hj
    rw [occ_slash, List.getElem?_take_of_lt hj]
  rcases Lib.lastOcc_spec (l.take (min (l.length - 1) 156)) [47] (min (l.length - 1) 156) with ⟨h1, h2⟩ | ⟨i, h1, h2, h3, h4⟩
  · rw [← hs] at h1
    refine ⟨fun h5 => by omega, fun _ => ?_, by omega, by omega⟩
    rw [lastPart_none l l.length]
    · decide
    · rintro j hj ⟨p1, p2, p3, p4, p5, p6⟩
      have hjm : j < min (l.length - 1) 156 := by omega
      have := (hocc j hjm).2 p1
      rw [h2 j hjm] at this; cases this
  · rw [← hs] at h2
    have p1 := (hocc i h1).1 h3
    have later : ∀ j, i < j → j < l.length → ¬ parts l j := by
      rintro j hj1 hj2 ⟨q1, q2, q3, q4, q5, q6⟩
      have hjm : j < min (l.length - 1) 156 := by omega
      have := (hocc j hjm).2 q1
      rw [h4 j hj1 hjm] at this; cases this
    refine ⟨fun h5 => ?_, fun h5 => ?_, by omega, by omega⟩
    · rw [h2]
      exact lastPart_uniq l l.length i (by omega) ⟨p1, by omega, by omega, by omega, by omega, by omega⟩ later
    · rw [lastPart_none l l.length]
      · decide
      · intro j hj
        rcases Nat.lt_trichotomy i j with hij | hij | hij
        · exact later j hij hj
        · subst hij
          rintro ⟨q1, q2, q3, q4, q5, q6⟩
          apply h5; omega
        · rintro ⟨q1, q2, q3, q4, q5, q6⟩
          apply h5; omega

theorem part_join (l p b : List UInt8) (h : txtPart l = some (p, b)) : (if p = [] then b else p ++ 47 :: b) = l ∧ p.length ≤ 155 ∧ b.length ≤ 100 := by
  unfold txtPart at h
  by_cases h1 : l.length ≤ 100
  · rw [if_pos h1] at h
    cases h
    exact ⟨by simp, by simp, h1⟩
  · rw [if_neg h1] at h
    rcases lastPart_spec l l.length with ⟨h2, _⟩ | ⟨i, h2, h3, ⟨p1, p2, p3, p4, p5, p6⟩, _⟩
    · rw [h2, if_pos (by decide)] at h; cases h
    · rw [h3, if_neg (by omega), Int.toNat_natCast] at h
      cases h
      have hi : i < l.length := h2
      have he : l[i] = 47 := by rw [List.getElem?_eq_getElem hi] at p1; simpa using p1
      have hne : l.take i ≠ [] := by
        intro e
        have : (l.take i).length = 0 := by rw [e]; rfl
        rw [List.length_take] at this; omega
      refine ⟨?_, by rw [List.length_take]; omega, by rw [List.length_drop]; omega⟩
      rw [if_neg hne, ← he, ← drop_at hi, List.take_append_drop]
end Go.Proofs.YtamenhkbmbaopaaGreatDoor
