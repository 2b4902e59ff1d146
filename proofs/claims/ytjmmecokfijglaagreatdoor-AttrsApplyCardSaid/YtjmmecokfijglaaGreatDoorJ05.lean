/-
  Texts of this seat's proof, joined: their order is that of the build.
-/
import Derived.Test.YtjmmecokfijglaaGreatDoorJ04
namespace Go.Proofs.YtjmmecokfijglaaGreatDoor
open Go.ChangeShapes Go.WideShapes Go.ChangeAt Go.RowKit

def plS : Nat → Nat
  | 0 => 0 | 1 => 100 | 2 => 108 | 3 => 116 | 4 => 124 | 5 => 136 | 6 => 148 | 7 => 156 | 8 => 157 | 9 => 257 | 10 => 265 | 11 => 297 | 12 => 329 | 13 => 337 | _ => 345
def plN : Nat → Nat
  | 0 => 100 | 1 => 8 | 2 => 8 | 3 => 8 | 4 => 12 | 5 => 12 | 6 => 8 | 7 => 1 | 8 => 100 | 9 => 8 | 10 => 32 | 11 => 32 | 12 => 8 | 13 => 8 | _ => 155
theorem pl_bd : ∀ f : Nat, f < 15 → plS f + plN f ≤ 500 ∧ 1 ≤ plN f ∧ plN f ≤ 155 := by decide
def fldAt (l : List UInt8) (s n : Nat) : List UInt8 := (l.drop s).take n
def fld (l : List UInt8) (f : Nat) : List UInt8 := fldAt l (plS f) (plN f)
theorem fldAt_length (l : List UInt8) (s n : Nat) (h : s + n ≤ l.length) : (fldAt l s n).length = n := by simp [fldAt]; omega
theorem fld_length (l : List UInt8) (h : l.length = 512) (f : Nat) (hf : f < 15) : (fld l f).length = plN f := by
  have := pl_bd f hf
  exact fldAt_length l _ _ (by omega)

/-- The table of the fields' places, as cells. -/
def tabCells : List Value := [.int .i64 0, .int .i64 100, .int .i64 100, .int .i64 8, .int .i64 108, .int .i64 8, .int .i64 116, .int .i64 8, .int .i64 124, .int .i64 12, .int .i64 136, .int .i64 12, .int .i64 148, .int .i64 8, .int .i64 156, .int .i64 1, .int .i64 157, .int .i64 100, .int .i64 257, .int .i64 8, .int .i64 265, .int .i64 32, .int .i64 297, .int .i64 32, .int .i64 329, .int .i64 8, .int .i64 337, .int .i64 8, .int .i64 345, .int .i64 155]
theorem tab_start (f : Nat) (h : f < 15) : tabCells[f * 2]? = some (.int .i64 (plS f)) := by
  have : f = 0 ∨ f = 1 ∨ f = 2 ∨ f = 3 ∨ f = 4 ∨ f = 5 ∨ f = 6 ∨ f = 7 ∨ f = 8 ∨ f = 9 ∨ f = 10 ∨ f = 11 ∨ f = 12 ∨ f = 13 ∨ f = 14 := by omega
  rcases this with rfl | rfl | rfl | rfl | rfl | rfl | rfl | rfl | rfl | rfl | rfl | rfl | rfl | rfl | rfl <;> rfl
theorem tab_size (f : Nat) (h : f < 15) : tabCells[f * 2 + 1]? = some (.int .i64 (plN f)) := by
  have : f = 0 ∨ f = 1 ∨ f = 2 ∨ f = 3 ∨ f = 4 ∨ f = 5 ∨ f = 6 ∨ f = 7 ∨ f = 8 ∨ f = 9 ∨ f = 10 ∨ f = 11 ∨ f = 12 ∨ f = 13 ∨ f = 14 := by omega
  rcases this with rfl | rfl | rfl | rfl | rfl | rfl | rfl | rfl | rfl | rfl | rfl | rfl | rfl | rfl | rfl <;> rfl

/-- A head. -/
structure Hd where
  name : List UInt8
  link : List UInt8
  kind : Int
  mode : Int
  uid : Int
  gid : Int
  size : Int
  time : Int
  uname : List UInt8
  gname : List UInt8
  major : Int
  minor : Int
  form : Int
def Hd.cells (h : Hd) : List Value := [.string ⟨h.name.toArray⟩, .string ⟨h.link.toArray⟩, .int .u8 h.kind, .int .i64 h.mode, .int .i64 h.uid, .int .i64 h.gid, .int .i64 h.size, .int .i64 h.time, .string ⟨h.uname.toArray⟩, .string ⟨h.gname.toArray⟩, .int .i64 h.major, .int .i64 h.minor, .int .i64 h.form]
def Hd.val (h : Hd) : Value := .agg h.cells.toArray
def Hd.zero : Hd := ⟨[], [], 0, 0, 0, 0, 0, 0, [], [], 0, 0, 0⟩
theorem Hd.cells_length (h : Hd) : h.cells.length = 13 := rfl
theorem Hd.cells_one (h : Hd) : h.cells.toArray.all (·.oneCell') = true := by simp [Hd.cells, Value.oneCell']

/-- The words and the numbers of a head, by their rows. -/
def wt (h : Hd) : Nat → List UInt8
  | 0 => h.link | 1 => h.uname | _ => h.gname
def wordF : Nat → Nat
  | 0 => 8 | 1 => 10 | _ => 11
def wordI : Nat → Nat
  | 0 => 1 | 1 => 8 | _ => 9
def nv (h : Hd) : Nat → Int
  | 0 => h.mode | 1 => h.uid | 2 => h.gid | 3 => h.size | 4 => h.time | 5 => h.major | _ => h.minor
def numF : Nat → Nat
  | 0 => 1 | 1 => 2 | 2 => 3 | 3 => 4 | 4 => 5 | 5 => 12 | _ => 13
def numI : Nat → Nat
  | 0 => 3 | 1 => 4 | 2 => 5 | 3 => 6 | 4 => 7 | 5 => 10 | _ => 11
theorem lt3 {k : Nat} (h : k < 3) : k = 0 ∨ k = 1 ∨ k = 2 := by omega
theorem lt7 {k : Nat} (h : k < 7) : k = 0 ∨ k = 1 ∨ k = 2 ∨ k = 3 ∨ k = 4 ∨ k = 5 ∨ k = 6 := by omega
theorem cells_word (h : Hd) (k : Nat) (hk : k < 3) : h.cells[wordI k]? = some (.string ⟨(wt h k).toArray⟩) := by
  rcases lt3 hk with rfl | rfl | rfl <;> rfl
theorem cells_num (h : Hd) (k : Nat) (hk : k < 7) : h.cells[numI k]? = some (.int .i64 (nv h k)) := by
  rcases lt7 hk with rfl | rfl | rfl | rfl | rfl | rfl | rfl <;> rfl
theorem cells_name (h : Hd) : h.cells[0]? = some (.string ⟨h.name.toArray⟩) := rfl

/-- The rows that words and numbers make of the head in block hb. -/
def wordCells (hb : Nat) : List Value := [.int .i64 8, .pointer (some ⟨hb, 1, none⟩), .int .i64 10, .pointer (some ⟨hb, 8, none⟩), .int .i64 11, .pointer (some ⟨hb, 9, none⟩)]
def numCells (hb : Nat) : List Value := [.int .i64 1, .pointer (some ⟨hb, 3, none⟩), .int .i64 2, .pointer (some ⟨hb, 4, none⟩), .int .i64 3, .pointer (some ⟨hb, 5, none⟩), .int .i64 4, .pointer (some ⟨hb, 6, none⟩), .int .i64 5, .pointer (some ⟨hb, 7, none⟩), .int .i64 12, .pointer (some ⟨hb, 10, none⟩), .int .i64 13, .pointer (some ⟨hb, 11, none⟩)]
theorem word_row (hb k : Nat) (hk : k < 3) : (wordCells hb)[k * 2]? = some (.int .i64 (wordF k)) ∧ (wordCells hb)[k * 2 + 1]? = some (.pointer (some ⟨hb, wordI k, none⟩)) := by
  rcases lt3 hk with rfl | rfl | rfl <;> exact ⟨rfl, rfl⟩
theorem num_row (hb k : Nat) (hk : k < 7) : (numCells hb)[k * 2]? = some (.int .i64 (numF k)) ∧ (numCells hb)[k * 2 + 1]? = some (.pointer (some ⟨hb, numI k, none⟩)) := by
  rcases lt7 hk with rfl | rfl | rfl | rfl | rfl | rfl | rfl <;> exact ⟨rfl, rfl⟩
theorem Holds.at {w : World} {g : Nat} {t : TypeId} {cs : List Value} (h : Holds w g t cs) {i : Nat} {v : Value} (hi : cs[i]? = some v) : w.cell? ⟨g, i, none⟩ = some v := by
  obtain ⟨hl, he⟩ := List.getElem?_eq_some_iff.1 hi
  rw [h.cell hl, he]

def Hd.okN (h : Hd) : Prop := ∀ k, k < 7 → -9223372036854775808 ≤ nv h k ∧ nv h k ≤ 9223372036854775807
/-- Has one of the texts a NUL? -/
def hdNul (h : Hd) : Bool := decide (0 ∈ h.link ∨ 0 ∈ h.uname ∨ 0 ∈ h.gname ∨ 0 ∈ h.name)
theorem hdNul_word (h : Hd) (k : Nat) (hk : k < 3) (h0 : 0 ∈ wt h k) : hdNul h = true := by
  rcases lt3 hk with rfl | rfl | rfl <;> simp_all [hdNul, wt]
theorem hdNul_rest (h : Hd) (h0 : ∀ j, j < 3 → 0 ∉ wt h j) : hdNul h = decide (0 ∈ h.name) := by
  have a := h0 0 (by omega)
  have b := h0 1 (by omega)
  have c := h0 2 (by omega)
  simp_all [hdNul, wt]
/-- Do the texts fit? -/
def hdTexts (h : Hd) : Bool := decide (h.link.length ≤ 100 ∧ h.uname.length ≤ 32 ∧ h.gname.length ≤ 32 ∧ (txtPart h.name).isSome = true)
theorem hdTexts_word (h : Hd) (k : Nat) (hk : k < 3) (h0 : plN (wordF k) < (wt h k).length) : hdTexts h = false := by
  rcases lt3 hk with rfl | rfl | rfl <;> simp only [wt, wordF, plN] at h0 <;> exact decide_eq_false (by omega)
theorem hdTexts_rest (h : Hd) (h0 : ∀ j, j < 3 → (wt h j).length ≤ plN (wordF j)) : hdTexts h = (txtPart h.name).isSome := by
  have a : h.link.length ≤ 100 := h0 0 (by omega)
  have b : h.uname.length ≤ 32 := h0 1 (by omega)
  have c : h.gname.length ≤ 32 := h0 2 (by omega)
  unfold hdTexts
  cases hq : (txtPart h.name).isSome
  · exact decide_eq_false (by simp)
  · exact decide_eq_true ⟨a, b, c, rfl⟩
/-- Do the numbers fit? -/
def hdNums (h : Hd) : Bool := (List.range 7).all fun k => (octalOf (nv h k) (plN (numF k))).isSome
theorem hdNums_no (h : Hd) (k : Nat) (hk : k < 7) (h0 : (octalOf (nv h k) (plN (numF k))).isSome = false) : hdNums h = false := by
  unfold hdNums
  rw [List.all_eq_false]
  exact ⟨k, List.mem_range.2 hk, by rw [h0]; simp⟩
theorem hdNums_yes (h : Hd) (h0 : ∀ k, k < 7 → (octalOf (nv h k) (plN (numF k))).isSome = true) : hdNums h = true := by
  unfold hdNums
  rw [List.all_eq_true]
  exact fun k hk => h0 k (List.mem_range.1 hk)
def hdFits (h : Hd) : Int := if hdNul h then 2 else if hdTexts h then (if hdNums h then 0 else 6) else 12
end Go.Proofs.YtjmmecokfijglaaGreatDoor
