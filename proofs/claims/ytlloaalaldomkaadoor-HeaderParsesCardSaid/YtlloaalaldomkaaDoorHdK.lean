/-
  A head's block by its fields, and what Parse says of it. No row of the program is read here.
-/
import Derived.Test.YtlloaalaldomkaaDoorHdJ
import Derived.Test.YtlloaalaldomkaaDoorHdS
namespace Go.Proofs.YtlloaalaldomkaaDoor
open Go.ChangeShapes Go.WideShapes Go.ChangeAt Go.RowKit

def lnN (j : Nat) : Nat := if j < 15 then plN j else 12
def offs : Nat → Nat
  | 15 => 500 | 16 => 512 | n => plS n
def catN (S : Nat → List UInt8) : Nat → List UInt8
  | 0 => []
  | n + 1 => catN S n ++ S n
def upd (S : Nat → List UInt8) (i : Nat) (x : List UInt8) : Nat → List UInt8 := fun j => if j = i then x else S j
/-- All fields have their widths. -/
def Wide (S : Nat → List UInt8) : Prop := ∀ j, j < 16 → (S j).length = lnN j
theorem offs_succ : ∀ n, n < 16 → offs (n + 1) = offs n + lnN n := by decide
theorem offs_mono : ∀ n, n < 17 → ∀ i, i < n → offs i + lnN i ≤ offs n := by decide
theorem offs_pl : ∀ f, f < 15 → offs f = plS f ∧ lnN f = plN f := by decide
theorem catN_length (S : Nat → List UInt8) (hS : Wide S) : ∀ n, n ≤ 16 → (catN S n).length = offs n := by
  intro n
  induction n with
  | zero => intro _; rfl
  | succ n ih =>
    intro hn
    show (catN S n ++ S n).length = _
    rw [List.length_append, ih (by omega), hS n (by omega), offs_succ n (by omega)]
theorem catN_congr (S S' : Nat → List UInt8) : ∀ n, (∀ j, j < n → S j = S' j) → catN S n = catN S' n := by
  intro n
  induction n with
  | zero => intro _; rfl
  | succ n ih =>
    intro h
    show catN S n ++ S n = catN S' n ++ S' n
    rw [ih (fun j hj => h j (by omega)), h n (by omega)]
theorem over_left (A B : List UInt8) (o : Nat) (s : List UInt8) (h : o + s.length ≤ A.length) : over (A ++ B) o s = over A o s ++ B := by
  unfold over
  rw [List.take_append_of_le_length (by omega), List.drop_append_of_le_length h]
  simp
theorem over_at (A B s : List UInt8) : over (A ++ B) A.length s = A ++ (s ++ B.drop s.length) := by
  unfold over
  rw [List.take_left', List.drop_append]
  · simp
  · rfl
theorem over_cat (S : Nat → List UInt8) (hS : Wide S) (i : Nat) (s : List UInt8) (hs : s.length ≤ lnN i) : ∀ n, n ≤ 16 → i < n → over (catN S n) (offs i) s = catN (upd S i (s ++ (S i).drop s.length)) n := by
  intro n
  induction n with
  | zero => intro _ h; omega
  | succ n ih =>
    intro hn hi
    show over (catN S n ++ S n) (offs i) s = catN (upd S i _) n ++ upd S i _ n
    by_cases he : i = n
    · subst he
      have hl := catN_length S hS i (by omega)
      rw [← hl, over_at]
      congr 1
      · exact catN_congr _ _ _ (fun j hj => by unfold upd; rw [if_neg (by omega)])
      · unfold upd; rw [if_pos rfl]
    · have hl := catN_length S hS n (by omega)
      have hm := offs_mono n (by omega) i (by omega)
      rw [over_left _ _ _ _ (by omega), ih (by omega) (by omega)]
      congr 1
      unfold upd; rw [if_neg (by omega)]
theorem fldAt_left (A B : List UInt8) (o n : Nat) (h : o + n ≤ A.length) : fldAt (A ++ B) o n = fldAt A o n := by
  unfold fldAt
  rw [List.drop_append_of_le_length (by omega), List.take_append_of_le_length (by rw [List.length_drop]; omega)]
theorem fldAt_at (A B : List UInt8) : fldAt (A ++ B) A.length B.length = B := by
  unfold fldAt
  rw [List.drop_left', List.take_of_length_le (Nat.le_refl _)]
  rfl
theorem cut_cat (S : Nat → List UInt8) (hS : Wide S) (i : Nat) : ∀ n, n ≤ 16 → i < n → fldAt (catN S n) (offs i) (lnN i) = S i := by
  intro n
  induction n with
  | zero => intro _ h; omega
  | succ n ih =>
    intro hn hi
    show fldAt (catN S n ++ S n) (offs i) (lnN i) = _
    have hl := catN_length S hS n (by omega)
    by_cases he : i = n
    · subst he
      rw [← hl, ← hS i (by omega), fldAt_at]
    · have hm := offs_mono n (by omega) i (by omega)
      rw [fldAt_left _ _ _ _ (by omega), ih (by omega) (by omega)]
theorem fld_cat (S : Nat → List UInt8) (hS : Wide S) (f : Nat) (hf : f < 15) : fld (catN S 16) f = S f := by
  have h := cut_cat S hS f 16 (by omega) (by omega)
  rw [(offs_pl f hf).1, (offs_pl f hf).2] at h
  exact h
theorem wide_upd (S : Nat → List UInt8) (hS : Wide S) (i : Nat) (x : List UInt8) (hx : x.length = lnN i) : Wide (upd S i x) := by
  intro j hj
  unfold upd
  split
  · rename_i h; rw [h]; exact hx
  · exact hS j hj
theorem cat512 (S : Nat → List UInt8) (hS : Wide S) : (catN S 16).length = 512 := catN_length S hS 16 (Nat.le_refl _)
theorem cat_zeros : ∀ n, n ≤ 16 → catN (fun j => List.replicate (lnN j) 0) n = List.replicate (offs n) 0 := by
  intro n
  induction n with
  | zero => intro _; rfl
  | succ n ih =>
    intro hn
    show catN _ n ++ List.replicate (lnN n) 0 = _
    rw [ih (by omega), List.replicate_append_replicate, offs_succ n (by omega)]

/-- Sealing, by fields. -/
theorem seal_over (l : List UInt8) : sealOf l = over l 148 (sealField (bSum false l)) := by
  unfold sealOf over
  rw [sealField_length]
theorem blanked_over (l : List UInt8) : blanked l = over l 148 (List.replicate 8 32) := by
  unfold blanked over
  rw [List.length_replicate]
theorem seal_cat (S : Nat → List UInt8) (hS : Wide S) : sealOf (catN S 16) = catN (upd S 6 (sealField (bSum false (catN S 16)))) 16 := by
  rw [seal_over]
  have h := over_cat S hS 6 (sealField (bSum false (catN S 16))) (by rw [sealField_length]; decide) 16 (by omega) (by omega)
  rw [show (S 6).drop (sealField (bSum false (catN S 16))).length = [] from List.drop_of_length_le (by rw [sealField_length, hS 6 (by omega)]; decide), List.append_nil] at h
  exact h
theorem blanked_cat (S : Nat → List UInt8) (hS : Wide S) : blanked (catN S 16) = catN (upd S 6 (List.replicate 8 32)) 16 := by
  rw [blanked_over]
  have h := over_cat S hS 6 (List.replicate 8 32) (by decide) 16 (by omega) (by omega)
  rw [show (S 6).drop (List.replicate 8 (32 : UInt8)).length = [] from List.drop_of_length_le (by rw [List.length_replicate, hS 6 (by omega)]; decide), List.append_nil] at h
  exact h
theorem upd_upd (S : Nat → List UInt8) (i : Nat) (x y : List UInt8) : upd (upd S i x) i y = upd S i y := by
  funext j; unfold upd; split <;> rfl
theorem seal_six (S : Nat → List UInt8) (hS : Wide S) (x : List UInt8) (hx : x.length = 8) : sealOf (catN (upd S 6 x) 16) = sealOf (catN S 16) := by
  have hw := wide_upd S hS 6 x hx
  have hb : bSum false (catN (upd S 6 x) 16) = bSum false (catN S 16) := by
    unfold bSum
    rw [blanked_cat _ hw, blanked_cat S hS, upd_upd]
  rw [seal_cat _ hw, seal_cat S hS, hb, upd_upd]
theorem fld_seal (S : Nat → List UInt8) (hS : Wide S) (f : Nat) (hf : f < 15) (h6 : f ≠ 6) : fld (sealOf (catN S 16)) f = S f := by
  rw [seal_cat S hS, fld_cat _ (wide_upd S hS 6 _ (by rw [sealField_length]; decide)) f hf]
  unfold upd
  rw [if_neg h6]

/-- The fields of a head's block. -/
def hdS (h : Hd) (p b : List UInt8) : Nat → List UInt8
  | 0 => padF b 100 | 1 => octStr h.mode 8 | 2 => octStr h.uid 8 | 3 => octStr h.gid 8 | 4 => octStr h.size 12 | 5 => octStr h.time 12 | 6 => List.replicate 8 0
  | 7 => [UInt8.ofNat (hdKind h.kind).toNat] | 8 => padF h.link 100 | 9 => hdMark | 10 => padF h.uname 32 | 11 => padF h.gname 32 | 12 => octStr h.major 8 | 13 => octStr h.minor 8 | 14 => padF p 155 | _ => List.replicate 12 0
theorem hdS_wide (h : Hd) (p b : List UInt8) (hp : p.length ≤ 155) (hb : b.length ≤ 100) (hl : h.link.length ≤ 100) (hu : h.uname.length ≤ 32) (hg : h.gname.length ≤ 32) : Wide (hdS h p b) := by
  intro j hj
  have : j = 0 ∨ j = 1 ∨ j = 2 ∨ j = 3 ∨ j = 4 ∨ j = 5 ∨ j = 6 ∨ j = 7 ∨ j = 8 ∨ j = 9 ∨ j = 10 ∨ j = 11 ∨ j = 12 ∨ j = 13 ∨ j = 14 ∨ j = 15 := by omega
  rcases this with rfl | rfl | rfl | rfl | rfl | rfl | rfl | rfl | rfl | rfl | rfl | rfl | rfl | rfl | rfl | rfl
  · exact padF_length _ _ hb
  · exact octStr_length _ _ (by decide)
  · exact octStr_length _ _ (by decide)
  · exact octStr_length _ _ (by decide)
  · exact octStr_length _ _ (by decide)
  · exact octStr_length _ _ (by decide)
  · rfl
  · rfl
  · exact padF_length _ _ hl
  · rfl
  · exact padF_length _ _ hu
  · exact padF_length _ _ hg
  · exact octStr_length _ _ (by decide)
  · exact octStr_length _ _ (by decide)
  · exact padF_length _ _ hp
  · rfl
theorem refRaw_cat (h : Hd) (p b : List UInt8) : refRaw h p b = catN (upd (hdS h p b) 6 [32, 32, 32, 32, 32, 32, 32, 32]) 16 := by
  have : padF [] 12 = List.replicate 12 0 := rfl
  simp [refRaw, catN, upd, hdS, this]
end Go.Proofs.YtlloaalaldomkaaDoor
