/-
  Lists of one record, many times.
-/
import Derived.Test.YtafglickbaeoeaaDoorRecA
import Derived.Laws.MakeOwn
namespace Go.Proofs.YtafglickbaeoeaaDoor
open Go.ChangeShapes Go.WideShapes Go.ChangeAt Go.RowKit

theorem Holds.pairs {w : World} {g cap : Nat} {l : List Pr} (h : Holds w g 25 (pairCells l)) : PairsIn w (.slice (some ⟨g, 0, none⟩) l.length cap) l := by
  refine ⟨_, cap, rfl, .inr ⟨g, 0, rfl, h.lt, ?_⟩⟩
  intro i hi
  obtain ⟨p1, p2⟩ := pairCells_get l i hi
  have hl := pairCells_length l
  have c1 := h.cell (i := i * 2) (by omega)
  have c2 := h.cell (i := i * 2 + 1) (by omega)
  rw [List.getElem?_eq_getElem (by omega)] at p1 p2
  injection p1 with p1
  injection p2 with p2
  rw [p1] at c1
  rw [p2] at c2
  rw [Nat.zero_add]
  exact ⟨c1, c2⟩
theorem pairCells_set (l : List Pr) (p : Pr) : ∀ i, i < l.length → ((pairCells l).set (i * 2) (.string ⟨p.1.toArray⟩)).set (i * 2 + 1) (.string ⟨p.2.toArray⟩) = pairCells (l.set i p) := by
  induction l with
  | nil => intro i h; simp at h
  | cons q l ih =>
    intro i h
    rcases i with _ | i
    · rfl
    · have := ih i (by simpa using h)
      rw [show (i + 1) * 2 = i * 2 + 1 + 1 by omega]
      show _ :: _ :: _ = _
      rw [List.set_cons_succ] at *
      show (Value.string _) :: (Value.string _) :: (((pairCells l).set (i * 2) _).set (i * 2 + 1) _) = (Value.string _) :: (Value.string _) :: pairCells (l.set i p)
      rw [this]
theorem pairCells_empty (k : Nat) : pairCells (List.replicate k (([], []) : Pr)) = List.replicate (k * 2) (.string ⟨#[]⟩) := by
  induction k with
  | zero => rfl
  | succ k ih =>
    rw [List.replicate_succ, show (k + 1) * 2 = k * 2 + 1 + 1 by omega, List.replicate_succ, List.replicate_succ, ← ih]
    rfl
theorem run_make_pairs (n : Nat) (hn : n ≤ 1000000) (w : World) :
    (Instr.makeSlice 22 (.int .i64 (n : Int)) (.int .i64 (n : Int))).run Tryd.prog w = .ok (.slice (some ⟨w.heap.size, 0, none⟩) n n) (w.alloc (.cells (pairCells (List.replicate n (([], []) : Pr))).toArray 25)) := by
  obtain ⟨i0, hi, hz, hs, hb⟩ := info_parts zero_pair
  have h := run_make (P := Tryd.prog) w 22 25 i0 _ Tryd.underlying22 hi hz .i64 .i64 n n (by omega) (by omega) (by rw [hb]; omega) (by omega)
  rw [h]
  simp only [Int.toNat_natCast]
  congr 2
  rw [hs, pairCells_empty]
  congr 1
  apply Array.ext
  · rw [size_madeCells]; simp
  · intro i h1 h2
    simp only [madeCells, Value.cells, List.getElem_toArray, List.getElem_replicate, Array.getElem_map]
    have : i % 2 = 0 ∨ i % 2 = 1 := by omega
    rcases this with h | h
    · simp [h]
    · simp [h]

/-- The record of key "k" and no value. -/
def kP : Pr := ([107], [])
theorem kP_size : prSize kP = 5 := by
  unfold prSize szOf prRest kP
  rw [szFrom_hit _ _ _ (by rw [Lib.nDigits_small (by decide)]; exact Nat.le_refl _)]
  rfl
theorem kP_text : prText kP = [53, 32, 107, 61, 10] := by
  unfold prText
  rw [kP_size, Lib.decDigits_one (by decide)]
  rfl
theorem kP_sizes (k : Nat) : prSizes (List.replicate k kP) = k * 5 := by
  induction k with
  | zero => rfl
  | succ k ih => rw [List.replicate_succ]; show prSize kP + _ = _; rw [ih, kP_size]; omega
theorem kP_fits (k M : Nat) (hM : 1 ≤ M) : prFits M (List.replicate k kP) := by
  intro p hp
  have := List.eq_of_mem_replicate hp
  subst this
  exact hM
theorem kP_right (k : Nat) : (List.replicate k kP).all prRight = true := by
  rw [List.all_eq_true]
  intro p hp
  have := List.eq_of_mem_replicate hp
  subst this
  decide
theorem kP_texts_succ (k : Nat) : prTexts (List.replicate (k + 1) kP) = prTexts (List.replicate k kP) ++ [53, 32, 107, 61, 10] := by
  rw [List.replicate_succ', prTexts_append, prTexts_cons, kP_text]
  simp [prTexts]
theorem kP_texts_length (k : Nat) : (prTexts (List.replicate k kP)).length = k * 5 := by
  rw [prTexts_length _ (kP_fits k _ (by omega)), kP_sizes]
theorem kP_print (k : Nat) (hk : k ≤ 256) : prPrint (List.replicate k kP) = (prTexts (List.replicate k kP), 0) := by
  unfold prPrint
  rw [List.length_replicate, if_neg (by omega), kP_right, if_neg (by simp), kP_sizes, if_neg (by omega)]
theorem kP_full (k : Nat) (hk : 256 < k) : prPrint (List.replicate k kP) = ([], 8) := by
  unfold prPrint
  rw [List.length_replicate, if_pos hk]
theorem kP_parse (k : Nat) (hk : k ≤ 256) : rParse (prTexts (List.replicate k kP)) = (List.replicate k kP, 0) := parse_print (kP_print k hk) (kP_fits k _ (by omega))
/-- One record more than may be. -/
theorem rGo_over (l : List Pr) : ∀ (f : Nat) (acc : List Pr), f < l.length → l.all prRight = true → prSizes l ≤ 999999 → prFits 4611686018427387901 l → rGo f acc (prTexts l) = ([], 8) := by
  induction l with
  | nil => intro f acc h _ _ _; simp at h
  | cons p l ih =>
    intro f acc hf hr hs hm
    have hr2 : prRight p = true ∧ l.all prRight = true := by simpa using hr
    have hs2 : prSize p + prSizes l ≤ 999999 := hs
    have hp : prRest p ≤ 4611686018427387904 := by have := hm p List.mem_cons_self; unfold prRest; omega
    rcases f with _ | f
    · rw [prTexts_cons, rGo_full _ _ (prText_ne p _)]
    · rw [prTexts_cons, rGo_ok _ _ _ (prText_ne p _) (rFirst_text p _ hr2.1 (by omega) hp), List.drop_append, List.drop_of_length_le (by rw [prText_length p hp]; exact Nat.le_refl _), prText_length p hp, Nat.sub_self, List.drop_zero, List.nil_append]
      exact ih f _ (by simpa using hf) hr2.2 (by omega) (fun q hq => hm q (List.mem_cons_of_mem _ hq))
theorem kP_parse_full (k : Nat) (hk : 256 < k) (h2 : k ≤ 1000) : rParse (prTexts (List.replicate k kP)) = ([], 8) := by
  unfold rParse
  rw [kP_texts_length, if_neg (by omega)]
  exact rGo_over _ 256 [] (by simpa using hk) (kP_right k) (by rw [kP_sizes]; omega) (kP_fits k _ (by omega))
theorem fill_step (j k : Nat) (h : j < k) : (List.replicate j kP ++ List.replicate (k - j) (([], []) : Pr)).set j kP = List.replicate (j + 1) kP ++ List.replicate (k - (j + 1)) (([], []) : Pr) := by
  rw [List.set_append_right _ _ (by simp)]
  rw [show k - j = (k - (j + 1)) + 1 by omega, List.replicate_succ, List.length_replicate, Nat.sub_self, List.set_cons_zero, List.replicate_succ', List.append_assoc]
  rfl
/-- A record of 65536 bytes and a few more. -/
theorem big_size (r : Nat) (hr : r ≤ 3) (v : List UInt8) (hv : v.length = 65527 + r) : prSize ([107], v) = 65536 + r := by
  have hn : prRest ([107], v) = 65531 + r := by unfold prRest; simp only [List.length_cons, List.length_nil]; omega
  obtain ⟨s1, s2, s3⟩ := szOf_spec (prRest ([107], v)) (by omega)
  have d5 : ∀ x, 10000 ≤ x → x < 100000 → Lib.nDigits x = 5 := fun x h1 h2 => Lib.nDigits_unique 4 x (by simpa using h1) (by simpa using h2)
  show szOf (prRest ([107], v)) = _
  have h5 := d5 (szOf (prRest ([107], v))) (by omega) (by omega)
  omega
end Go.Proofs.YtafglickbaeoeaaDoor
