/-
  What a block's head is, in plain words. No row of the program is read here.
-/
import Derived.Test.YtlloaalaldomkaaDoorHdA
import Derived.Test.YtlloaalaldomkaaDoorHdQ
namespace Go.Proofs.YtlloaalaldomkaaDoor
open Go.ChangeShapes Go.WideShapes Go.ChangeAt Go.RowKit

def Hd.setN (h : Hd) (k : Nat) (v : Int) : Hd :=
  match k with
  | 0 => { h with mode := v } | 1 => { h with uid := v } | 2 => { h with gid := v } | 3 => { h with size := v } | 4 => { h with time := v } | 5 => { h with major := v } | _ => { h with minor := v }
theorem setN_cells (h : Hd) (k : Nat) (v : Int) (hk : k < 7) : (h.setN k v).cells = h.cells.set (numI k) (.int .i64 v) := by
  rcases lt7 hk with rfl | rfl | rfl | rfl | rfl | rfl | rfl <;> rfl
theorem setN_form (h : Hd) (k : Nat) (v : Int) : (h.setN k v).form = h.form := by
  unfold Hd.setN; split <;> rfl
/-- A number's field as it is read, and its error. -/
def rv (l : List UInt8) (k : Nat) : Int × Int := hdNum (decide (k = 4)) (fld l (numF k))
/-- The error of number k in a block of that form; the head behind k numbers. -/
def rE (l : List UInt8) (form : Int) (k : Nat) : Int := if hdIn form (numF k) then (rv l k).2 else 0
def rH (l : List UInt8) (h : Hd) : Nat → Hd
  | 0 => h
  | k + 1 => if hdIn h.form (numF k) then (rH l h k).setN k (rv l k).1 else rH l h k
theorem rH_form (l : List UInt8) (h : Hd) : ∀ k, (rH l h k).form = h.form := by
  intro k
  induction k with
  | zero => rfl
  | succ k ih =>
    unfold rH
    split
    · rw [setN_form, ih]
    · exact ih
/-- The first error among those of number k and of n - 1 behind it. -/
def firstE (e : Nat → Int) : Nat → Nat → Int
  | 0, _ => 0
  | n + 1, k => if e k = 0 then firstE e n (k + 1) else e k
theorem firstE_step (e : Nat → Int) (k : Nat) (hk : k < 7) : firstE e (7 - k) k = if e k = 0 then firstE e (7 - (k + 1)) (k + 1) else e k := by
  rw [show 7 - k = (7 - (k + 1)) + 1 by omega]
  rfl

def Hd.setW (h : Hd) (k : Nat) (s : List UInt8) : Hd :=
  match k with
  | 0 => { h with link := s } | 1 => { h with uname := s } | _ => { h with gname := s }
theorem setW_cells (h : Hd) (k : Nat) (s : List UInt8) (hk : k < 3) : (h.setW k s).cells = h.cells.set (wordI k) (.string ⟨s.toArray⟩) := by
  rcases lt3 hk with rfl | rfl | rfl <;> rfl
theorem setW_form (h : Hd) (k : Nat) (s : List UInt8) : (h.setW k s).form = h.form := by
  unfold Hd.setW; split <;> rfl
/-- The head behind k words. -/
def rW (l : List UInt8) (h : Hd) : Nat → Hd
  | 0 => h
  | k + 1 => if hdIn h.form (wordF k) then (rW l h k).setW k (txtRead (fld l (wordF k))) else rW l h k
theorem rW_form (l : List UInt8) (h : Hd) : ∀ k, (rW l h k).form = h.form := by
  intro k
  induction k with
  | zero => rfl
  | succ k ih =>
    unfold rW
    split
    · rw [setW_form, ih]
    · exact ih
/-- A head of that form with nothing in it. -/
def Hd.ofForm (F : Int) : Hd := { Hd.zero with form := F }
def hdPre (l : List UInt8) (F : Int) : List UInt8 := if hdIn F 14 then txtRead (fld l 14) else []
def hdName (l : List UInt8) (F : Int) : List UInt8 := if hdPre l F = [] then txtRead (fld l 0) else hdPre l F ++ 47 :: txtRead (fld l 0)
def Hd.named (h : Hd) (s : List UInt8) : Hd := { h with name := s }
/-- A right block's head, if its numbers have no error. -/
def hdHead (l : List UInt8) (F : Int) : Hd := { rW l ((rH l (Hd.ofForm F) 7).named (hdName l F)) 3 with kind := hdKind (l.getD 156 0).toNat }
/-- What Parse answers. -/
def hdParse (l : List UInt8) : Hd × Int :=
  if l.length = 512 then
    if sRight l = true then
      if hdForm (fld l 9) = 0 then (Hd.zero, 2)
      else if firstE (rE l (hdForm (fld l 9))) 7 0 = 0 then (hdHead l (hdForm (fld l 9)), 0) else (Hd.zero, firstE (rE l (hdForm (fld l 9))) 7 0)
    else (Hd.zero, 4)
  else (Hd.zero, 1)
end Go.Proofs.YtlloaalaldomkaaDoor
