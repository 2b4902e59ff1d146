/-
  Texts of this seat's proof, joined: their order is that of the build.
-/
import Derived.Test.YtjmmecokfijglaaGreatDoorJB01
import Derived.Lib.IndexMore
import Derived.Lib.LastIndexLaws
import Derived.Lib.Repeat
import Derived.Test.YtjmmecokfijglaaGreatDoorJB02
namespace Go.Proofs.YtjmmecokfijglaaGreatDoor
open Go.ChangeShapes Go.WideShapes Go.ChangeAt Go.RowKit

/-- What stands ahead of the first NUL. -/
def txtRead (l : List UInt8) : List UInt8 := l.takeWhile (fun b => b != 0)

theorem index_nul (l : List UInt8) : (0 ∈ l → Lib.index l [0] = (txtRead l).length) ∧ (0 ∉ l → Lib.index l [0] = -1) := by
  induction l with
  | nil => exact ⟨fun h => by simp at h, fun _ => by rfl⟩
  | cons b l ih =>
    unfold Lib.index txtRead
    by_cases hb : b = 0
    · subst hb
      refine ⟨fun _ => ?_, fun h => absurd List.mem_cons_self h⟩
      rw [if_pos (by rfl)]; rfl
    · have hp : ([0] : List UInt8).isPrefixOf (b :: l) = false := by simp [List.isPrefixOf, Ne.symm hb]
      rw [hp]
      have hm : (0 ∈ b :: l) ↔ 0 ∈ l := by simp [Ne.symm hb]
      rw [List.takeWhile_cons_of_pos (by simpa using hb)]
      constructor
      · intro h
        rw [ih.1 (hm.1 h)]
        have : (((txtRead l).length : Int) == -1) = false := by rw [beq_eq_false_iff_ne]; omega
        rw [this]; simp [txtRead]
      · intro h
        rw [ih.2 (fun h2 => h (hm.2 h2))]; rfl

theorem take_txtRead (l : List UInt8) : l.take (txtRead l).length = txtRead l := by
  unfold txtRead
  conv => lhs; arg 2; rw [← List.takeWhile_append_dropWhile (p := fun b => b != 0) (l := l)]
  exact List.take_left

theorem txtRead_cons (b : UInt8) (l : List UInt8) : txtRead (b :: l) = if b = 0 then [] else b :: txtRead l := by
  unfold txtRead
  by_cases h : b = 0
  · rw [if_pos h, List.takeWhile_cons_of_neg (by simp [h])]
  · rw [if_neg h, List.takeWhile_cons_of_pos (by simpa using h)]

theorem txtRead_all (l : List UInt8) (h : 0 ∉ l) : txtRead l = l := by
  induction l with
  | nil => rfl
  | cons b l ih =>
    rw [txtRead_cons, if_neg (fun e : b = 0 => h (e ▸ List.mem_cons_self)), ih (fun hm => h (List.mem_cons_of_mem _ hm))]

theorem txtRead_free (l : List UInt8) : 0 ∉ txtRead l := by
  induction l with
  | nil => simp [txtRead]
  | cons b l ih =>
    rw [txtRead_cons]
    by_cases h : b = 0
    · rw [if_pos h]; simp
    · rw [if_neg h]
      intro hm
      rcases List.mem_cons.1 hm with h2 | h2
      · exact h h2.symm
      · exact ih h2

theorem txtRead_eq_iff (l : List UInt8) : txtRead l = l ↔ 0 ∉ l :=
  ⟨fun h => h ▸ txtRead_free l, txtRead_all l⟩

theorem cut_nul (l : List UInt8) : (Lib.cut l [0]).1 = txtRead l := by
  unfold Lib.cut
  by_cases h : 0 ∈ l
  · rw [(index_nul l).1 h, if_pos (by omega)]
    show l.take (((txtRead l).length : Int)).toNat = _
    rw [Int.toNat_natCast, take_txtRead]
  · rw [(index_nul l).2 h, if_neg (by decide)]
    exact (txtRead_all l h).symm

theorem indexByte_nul (l : List UInt8) : Lib.contains l [0] = decide (0 ∈ l) := by
  unfold Lib.contains
  by_cases h : 0 ∈ l
  · rw [(index_nul l).1 h, decide_eq_true h]; exact decide_eq_true (by omega)
  · rw [(index_nul l).2 h, decide_eq_false h]; rfl

theorem repeat_nul (n : Nat) : Lib.repeatL [0] n = List.replicate n 0 := by
  induction n with
  | zero => rfl
  | succ n ih => show [0] ++ Lib.repeatL [0] n = _; rw [ih]; rfl

/-- A text in so many bytes. -/
def txtWrite (l : List UInt8) (n : Int) : Option (List UInt8) :=
  if 0 ≤ n ∧ n ≤ 512 ∧ (l.length : Int) ≤ n ∧ 0 ∉ l then some (l ++ List.replicate (n.toNat - l.length) 0) else none

theorem txtRead_write (l : List UInt8) (m : Nat) (h : 0 ∉ l) : txtRead (l ++ List.replicate m 0) = l := by
  unfold txtRead
  rw [List.takeWhile_append, if_pos (by
    have := txtRead_all l h
    unfold txtRead at this
    rw [this])]
  cases m with
  | zero => simp
  | succ m => rw [List.replicate_succ]; simp

/-- A slash at i that parts a name: both fields fit, and the base isn't empty. -/
def parts (l : List UInt8) (i : Nat) : Prop := l[i]? = some 47 ∧ 1 ≤ i ∧ i ≤ 155 ∧ 1 ≤ l.length - i - 1 ∧ l.length - i - 1 ≤ 100 ∧ i < l.length

instance (l : List UInt8) (i : Nat) : Decidable (parts l i) := by unfold parts; infer_instance

/-- The last such place below k, or -1. -/
def lastPart (l : List UInt8) : Nat → Int
  | 0 => -1
  | k + 1 => if parts l k then k else lastPart l k

theorem lastPart_succ (l : List UInt8) (k : Nat) : lastPart l (k + 1) = if parts l k then (k : Int) else lastPart l k := rfl

theorem lastPart_spec (l : List UInt8) (k : Nat) : (lastPart l k = -1 ∧ ∀ j, j < k → ¬ parts l j) ∨ (∃ i : Nat, i < k ∧ lastPart l k = i ∧ parts l i ∧ ∀ j, i < j → j < k → ¬ parts l j) := by
  induction k with
  | zero => exact .inl ⟨rfl, fun j hj => absurd hj (by omega)⟩
  | succ k ih =>
    rw [lastPart_succ]
    by_cases h : parts l k
    · rw [if_pos h]
      exact .inr ⟨k, by omega, rfl, h, fun j h1 h2 => absurd h1 (by omega)⟩
    · rw [if_neg h]
      rcases ih with ⟨h1, h2⟩ | ⟨i, h1, h2, h3, h4⟩
      · refine .inl ⟨h1, fun j hj => ?_⟩
        by_cases hjk : j = k
        · subst hjk; exact h
        · exact h2 j (by omega)
      · refine .inr ⟨i, by omega, h2, h3, fun j h5 h6 => ?_⟩
        by_cases hjk : j = k
        · subst hjk; exact h
        · exact h4 j h5 (by omega)

theorem lastPart_uniq (l : List UInt8) (k i : Nat) (hi : i < k) (hp : parts l i) (hno : ∀ j, i < j → j < k → ¬ parts l j) : lastPart l k = i := by
  rcases lastPart_spec l k with ⟨_, h2⟩ | ⟨i', h1, h2, h3, h4⟩
  · exact absurd hp (h2 i hi)
  · rw [h2]
    rcases Nat.lt_trichotomy i i' with h | h | h
    · exact absurd h3 (hno i' h h1)
    · rw [h]
    · exact absurd hp (h4 i h hi)

theorem lastPart_none (l : List UInt8) (k : Nat) (hno : ∀ j, j < k → ¬ parts l j) : lastPart l k = -1 := by
  rcases lastPart_spec l k with ⟨h1, _⟩ | ⟨i, h1, _, h3, _⟩
  · exact h1
  · exact absurd h3 (hno i h1)

/-- A name in two fields. -/
def txtPart (l : List UInt8) : Option (List UInt8 × List UInt8) :=
  if l.length ≤ 100 then some ([], l)
  else if lastPart l l.length < 0 then none else some (l.take (lastPart l l.length).toNat, l.drop ((lastPart l l.length).toNat + 1))

theorem occ_slash (l : List UInt8) (i : Nat) : Lib.occAt l [47] i = true ↔ l[i]? = some 47 := by
  unfold Lib.occAt
  rw [← List.head?_drop]
  cases l.drop i with
  | nil => simp
  | cons b t =>
    constructor
    · intro h
      have : (47 : UInt8) = b := by simpa [List.isPrefixOf] using h
      rw [← this]; rfl
    · intro h
      have : b = 47 := by simpa using h
      rw [this]; rfl

/-- What the program looks for is what the document says. -/
theorem lastIndex_part (l : List UInt8) (h : 100 < l.length) :
    let s := Lib.lastIndex (l.take (min (l.length - 1) 156)) [47]
    (1 ≤ s ∧ (l.length : Int) - s - 1 ≤ 100 → lastPart l l.length = s) ∧ (¬ (1 ≤ s ∧ (l.length : Int) - s - 1 ≤ 100) → lastPart l l.length < 0) ∧ s < l.length ∧ -1 ≤ s := by
  intro s
  have hlen : (l.take (min (l.length - 1) 156)).length = min (l.length - 1) 156 := by rw [List.length_take]; omega
  have hs : s = Lib.lastOcc (l.take (min (l.length - 1) 156)) [47] (min (l.length - 1) 156) := by
    show Lib.lastIndex _ _ = _
    unfold Lib.lastIndex
    rw [hlen, if_pos (by simp; omega)]
    congr 1
    simp; omega
  have hocc : ∀ j, j < min (l.length - 1) 156 → (Lib.occAt (l.take (min (l.length - 1) 156)) [47] j = true ↔ l[j]? = some 47) := by
    intro j hj
    rw [occ_slash, List.getElem?_take_of_lt hj]
  rcases Lib.lastOcc_spec (l.take (min (l.length - 1) 156)) [47] (min (l.length - 1) 156) with ⟨h1, h2⟩ | ⟨i, h1, h2, h3, h4⟩
  · rw [← hs] at h1
    refine ⟨fun h5 => by omega, fun _ => ?_, by omega, by omega⟩
    rw [lastPart_none l l.length]
    · decide
    · rintro j hj ⟨p1, p2, p3, p4, p5, p6⟩
      have hjm : j < min (l.length - 1) 156 := by omega
      have := (hocc j hjm).2 p1
      rw [h2 j hjm] at this; cases this
  · rw [← hs] at h2
    have p1 := (hocc i h1).1 h3
    have later : ∀ j, i < j → j < l.length → ¬ parts l j := by
      rintro j hj1 hj2 ⟨q1, q2, q3, q4, q5, q6⟩
      have hjm : j < min (l.length - 1) 156 := by omega
      have := (hocc j hjm).2 q1
      rw [h4 j hj1 hjm] at this; cases this
    refine ⟨fun h5 => ?_, fun h5 => ?_, by omega, by omega⟩
    · rw [h2]
      exact lastPart_uniq l l.length i (by omega) ⟨p1, by omega, by omega, by omega, by omega, by omega⟩ later
    · rw [lastPart_none l l.length]
      · decide
      · intro j hj
        rcases Nat.lt_trichotomy i j with hij | hij | hij
        · exact later j hij hj
        · subst hij
          rintro ⟨q1, q2, q3, q4, q5, q6⟩
          apply h5; omega
        · rintro ⟨q1, q2, q3, q4, q5, q6⟩
          apply h5; omega

theorem part_join (l p b : List UInt8) (h : txtPart l = some (p, b)) : (if p = [] then b else p ++ 47 :: b) = l ∧ p.length ≤ 155 ∧ b.length ≤ 100 := by
  unfold txtPart at h
  by_cases h1 : l.length ≤ 100
  · rw [if_pos h1] at h
    cases h
    exact ⟨by simp, by simp, h1⟩
  · rw [if_neg h1] at h
    rcases lastPart_spec l l.length with ⟨h2, _⟩ | ⟨i, h2, h3, ⟨p1, p2, p3, p4, p5, p6⟩, _⟩
    · rw [h2, if_pos (by decide)] at h; cases h
    · rw [h3, if_neg (by omega), Int.toNat_natCast] at h
      cases h
      have hi : i < l.length := h2
      have he : l[i] = 47 := by rw [List.getElem?_eq_getElem hi] at p1; simpa using p1
      have hne : l.take i ≠ [] := by
        intro e
        have : (l.take i).length = 0 := by rw [e]; rfl
        rw [List.length_take] at this; omega
      refine ⟨?_, by rw [List.length_take]; omega, by rw [List.length_drop]; omega⟩
      rw [if_neg hne, ← he, ← drop_at hi, List.take_append_drop]
end Go.Proofs.YtjmmecokfijglaaGreatDoor
namespace Go.Proofs.YtjmmecokfijglaaGreatDoor
open Go.ChangeShapes Go.WideShapes Go.ChangeAt Go.RowKit

def plS : Nat → Nat
  | 0 => 0 | 1 => 100 | 2 => 108 | 3 => 116 | 4 => 124 | 5 => 136 | 6 => 148 | 7 => 156 | 8 => 157 | 9 => 257 | 10 => 265 | 11 => 297 | 12 => 329 | 13 => 337 | _ => 345
def plN : Nat → Nat
  | 0 => 100 | 1 => 8 | 2 => 8 | 3 => 8 | 4 => 12 | 5 => 12 | 6 => 8 | 7 => 1 | 8 => 100 | 9 => 8 | 10 => 32 | 11 => 32 | 12 => 8 | 13 => 8 | _ => 155
theorem pl_bd : ∀ f : Nat, f < 15 → plS f + plN f ≤ 500 ∧ 1 ≤ plN f ∧ plN f ≤ 155 := by decide
def fldAt (l : List UInt8) (s n : Nat) : List UInt8 := (l.drop s).take n
def fld (l : List UInt8) (f : Nat) : List UInt8 := fldAt l (plS f) (plN f)
theorem fldAt_length (l : List UInt8) (s n : Nat) (h : s + n ≤ l.length) : (fldAt l s n).length = n := by simp [fldAt]; omega
theorem fld_length (l : List UInt8) (h : l.length = 512) (f : Nat) (hf : f < 15) : (fld l f).length = plN f := by
  have := pl_bd f hf
  exact fldAt_length l _ _ (by omega)

/-- The table of the fields' places, as cells. -/
def tabCells : List Value := [.int .i64 0, .int .i64 100, .int .i64 100, .int .i64 8, .int .i64 108, .int .i64 8, .int .i64 116, .int .i64 8, .int .i64 124, .int .i64 12, .int .i64 136, .int .i64 12, .int .i64 148, .int .i64 8, .int .i64 156, .int .i64 1, .int .i64 157, .int .i64 100, .int .i64 257, .int .i64 8, .int .i64 265, .int .i64 32, .int .i64 297, .int .i64 32, .int .i64 329, .int .i64 8, .int .i64 337, .int .i64 8, .int .i64 345, .int .i64 155]
theorem tab_start (f : Nat) (h : f < 15) : tabCells[f * 2]? = some (.int .i64 (plS f)) := by
  have : f = 0 ∨ f = 1 ∨ f = 2 ∨ f = 3 ∨ f = 4 ∨ f = 5 ∨ f = 6 ∨ f = 7 ∨ f = 8 ∨ f = 9 ∨ f = 10 ∨ f = 11 ∨ f = 12 ∨ f = 13 ∨ f = 14 := by omega
  rcases this with rfl | rfl | rfl | rfl | rfl | rfl | rfl | rfl | rfl | rfl | rfl | rfl | rfl | rfl | rfl <;> rfl
theorem tab_size (f : Nat) (h : f < 15) : tabCells[f * 2 + 1]? = some (.int .i64 (plN f)) := by
  have : f = 0 ∨ f = 1 ∨ f = 2 ∨ f = 3 ∨ f = 4 ∨ f = 5 ∨ f = 6 ∨ f = 7 ∨ f = 8 ∨ f = 9 ∨ f = 10 ∨ f = 11 ∨ f = 12 ∨ f = 13 ∨ f = 14 := by omega
  rcases this with rfl | rfl | rfl | rfl | rfl | rfl | rfl | rfl | rfl | rfl | rfl | rfl | rfl | rfl | rfl <;> rfl

/-- A head. -/
structure Hd where
  name : List UInt8
  link : List UInt8
  kind : Int
  mode : Int
  uid : Int
  gid : Int
  size : Int
  time : Int
  uname : List UInt8
  gname : List UInt8
  major : Int
  minor : Int
  form : Int
def Hd.cells (h : Hd) : List Value := [.string ⟨h.name.toArray⟩, .string ⟨h.link.toArray⟩, .int .u8 h.kind, .int .i64 h.mode, .int .i64 h.uid, .int .i64 h.gid, .int .i64 h.size, .int .i64 h.time, .string ⟨h.uname.toArray⟩, .string ⟨h.gname.toArray⟩, .int .i64 h.major, .int .i64 h.minor, .int .i64 h.form]
def Hd.val (h : Hd) : Value := .agg h.cells.toArray
def Hd.zero : Hd := ⟨[], [], 0, 0, 0, 0, 0, 0, [], [], 0, 0, 0⟩
theorem Hd.cells_length (h : Hd) : h.cells.length = 13 := rfl
theorem Hd.cells_one (h : Hd) : h.cells.toArray.all (·.oneCell') = true := by simp [Hd.cells, Value.oneCell']

/-- The words and the numbers of a head, by their rows. -/
def wt (h : Hd) : Nat → List UInt8
  | 0 => h.link | 1 => h.uname | _ => h.gname
def wordF : Nat → Nat
  | 0 => 8 | 1 => 10 | _ => 11
def wordI : Nat → Nat
  | 0 => 1 | 1 => 8 | _ => 9
def nv (h : Hd) : Nat → Int
  | 0 => h.mode | 1 => h.uid | 2 => h.gid | 3 => h.size | 4 => h.time | 5 => h.major | _ => h.minor
def numF : Nat → Nat
  | 0 => 1 | 1 => 2 | 2 => 3 | 3 => 4 | 4 => 5 | 5 => 12 | _ => 13
def numI : Nat → Nat
  | 0 => 3 | 1 => 4 | 2 => 5 | 3 => 6 | 4 => 7 | 5 => 10 | _ => 11
theorem lt3 {k : Nat} (h : k < 3) : k = 0 ∨ k = 1 ∨ k = 2 := by omega
theorem lt7 {k : Nat} (h : k < 7) : k = 0 ∨ k = 1 ∨ k = 2 ∨ k = 3 ∨ k = 4 ∨ k = 5 ∨ k = 6 := by omega
theorem cells_word (h : Hd) (k : Nat) (hk : k < 3) : h.cells[wordI k]? = some (.string ⟨(wt h k).toArray⟩) := by
  rcases lt3 hk with rfl | rfl | rfl <;> rfl
theorem cells_num (h : Hd) (k : Nat) (hk : k < 7) : h.cells[numI k]? = some (.int .i64 (nv h k)) := by
  rcases lt7 hk with rfl | rfl | rfl | rfl | rfl | rfl | rfl <;> rfl
theorem cells_name (h : Hd) : h.cells[0]? = some (.string ⟨h.name.toArray⟩) := rfl

/-- The rows that words and numbers make of the head in block hb. -/
def wordCells (hb : Nat) : List Value := [.int .i64 8, .pointer (some ⟨hb, 1, none⟩), .int .i64 10, .pointer (some ⟨hb, 8, none⟩), .int .i64 11, .pointer (some ⟨hb, 9, none⟩)]
def numCells (hb : Nat) : List Value := [.int .i64 1, .pointer (some ⟨hb, 3, none⟩), .int .i64 2, .pointer (some ⟨hb, 4, none⟩), .int .i64 3, .pointer (some ⟨hb, 5, none⟩), .int .i64 4, .pointer (some ⟨hb, 6, none⟩), .int .i64 5, .pointer (some ⟨hb, 7, none⟩), .int .i64 12, .pointer (some ⟨hb, 10, none⟩), .int .i64 13, .pointer (some ⟨hb, 11, none⟩)]
theorem word_row (hb k : Nat) (hk : k < 3) : (wordCells hb)[k * 2]? = some (.int .i64 (wordF k)) ∧ (wordCells hb)[k * 2 + 1]? = some (.pointer (some ⟨hb, wordI k, none⟩)) := by
  rcases lt3 hk with rfl | rfl | rfl <;> exact ⟨rfl, rfl⟩
theorem num_row (hb k : Nat) (hk : k < 7) : (numCells hb)[k * 2]? = some (.int .i64 (numF k)) ∧ (numCells hb)[k * 2 + 1]? = some (.pointer (some ⟨hb, numI k, none⟩)) := by
  rcases lt7 hk with rfl | rfl | rfl | rfl | rfl | rfl | rfl <;> exact ⟨rfl, rfl⟩
theorem Holds.at {w : World} {g : Nat} {t : TypeId} {cs : List Value} (h : Holds w g t cs) {i : Nat} {v : Value} (hi : cs[i]? = some v) : w.cell? ⟨g, i, none⟩ = some v := by
  obtain ⟨hl, he⟩ := List.getElem?_eq_some_iff.1 hi
  rw [h.cell hl, he]

def Hd.okN (h : Hd) : Prop := ∀ k, k < 7 → -9223372036854775808 ≤ nv h k ∧ nv h k ≤ 9223372036854775807
/-- Has one of the texts a NUL? -/
def hdNul (h : Hd) : Bool := decide (0 ∈ h.link ∨ 0 ∈ h.uname ∨ 0 ∈ h.gname ∨ 0 ∈ h.name)
theorem hdNul_word (h : Hd) (k : Nat) (hk : k < 3) (h0 : 0 ∈ wt h k) : hdNul h = true := by
  rcases lt3 hk with rfl | rfl | rfl <;> simp_all [hdNul, wt]
theorem hdNul_rest (h : Hd) (h0 : ∀ j, j < 3 → 0 ∉ wt h j) : hdNul h = decide (0 ∈ h.name) := by
  have a := h0 0 (by omega)
  have b := h0 1 (by omega)
  have c := h0 2 (by omega)
  simp_all [hdNul, wt]
/-- Do the texts fit? -/
def hdTexts (h : Hd) : Bool := decide (h.link.length ≤ 100 ∧ h.uname.length ≤ 32 ∧ h.gname.length ≤ 32 ∧ (txtPart h.name).isSome = true)
theorem hdTexts_word (h : Hd) (k : Nat) (hk : k < 3) (h0 : plN (wordF k) < (wt h k).length) : hdTexts h = false := by
  rcases lt3 hk with rfl | rfl | rfl <;> simp only [wt, wordF, plN] at h0 <;> exact decide_eq_false (by omega)
theorem hdTexts_rest (h : Hd) (h0 : ∀ j, j < 3 → (wt h j).length ≤ plN (wordF j)) : hdTexts h = (txtPart h.name).isSome := by
  have a : h.link.length ≤ 100 := h0 0 (by omega)
  have b : h.uname.length ≤ 32 := h0 1 (by omega)
  have c : h.gname.length ≤ 32 := h0 2 (by omega)
  unfold hdTexts
  cases hq : (txtPart h.name).isSome
  · exact decide_eq_false (by simp)
  · exact decide_eq_true ⟨a, b, c, rfl⟩
/-- Do the numbers fit? -/
def hdNums (h : Hd) : Bool := (List.range 7).all fun k => (octalOf (nv h k) (plN (numF k))).isSome
theorem hdNums_no (h : Hd) (k : Nat) (hk : k < 7) (h0 : (octalOf (nv h k) (plN (numF k))).isSome = false) : hdNums h = false := by
  unfold hdNums
  rw [List.all_eq_false]
  exact ⟨k, List.mem_range.2 hk, by rw [h0]; simp⟩
theorem hdNums_yes (h : Hd) (h0 : ∀ k, k < 7 → (octalOf (nv h k) (plN (numF k))).isSome = true) : hdNums h = true := by
  unfold hdNums
  rw [List.all_eq_true]
  exact fun k hk => h0 k (List.mem_range.1 hk)
def hdFits (h : Hd) : Int := if hdNul h then 2 else if hdTexts h then (if hdNums h then 0 else 6) else 12
end Go.Proofs.YtjmmecokfijglaaGreatDoor
