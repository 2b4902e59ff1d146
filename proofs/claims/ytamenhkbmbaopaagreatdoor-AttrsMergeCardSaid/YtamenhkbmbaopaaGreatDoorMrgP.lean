/-
  Plain functions: records merged. No row of the program is read here.
-/
import Derived.Test.YtamenhkbmbaopaaGreatDoorRecP
import Derived.WideAt
import Derived.WideShapes
import Derived.Sort.KeysCollected
import GoSem.ClaimMapViews
namespace Go.Proofs.YtamenhkbmbaopaaGreatDoor
open Go.ChangeShapes Go.WideShapes Go.ChangeAt Go.RowKit

theorem before_irrefl (a : List UInt8) : bytesBefore a a = false := Go.WideAt.bytes_irrefl a
theorem before_total {a b : List UInt8} (h : a ≠ b) : bytesBefore a b = true ∨ bytesBefore b a = true := Go.WideAt.bytes_total a b h
theorem before_trans {a b c : List UInt8} (h1 : bytesBefore a b = true) (h2 : bytesBefore b c = true) : bytesBefore a c = true := Go.WideShapes.bytes_trans a b c h1 h2
theorem before_asymm {a b : List UInt8} (h : bytesBefore a b = true) : bytesBefore b a = false := by
  rcases hb : bytesBefore b a with _ | _
  · rfl
  · have := before_trans h hb
    rw [before_irrefl] at this
    cases this
theorem before_ne {a b : List UInt8} (h : bytesBefore a b = true) : a ≠ b := fun e => by
  subst e
  rw [before_irrefl] at h
  cases h
theorem leB_iff (a b : List UInt8) : a ≤ b ↔ bytesBefore b a = false := by
  induction a generalizing b with
  | nil => cases b <;> simp [bytesBefore]
  | cons x a ih =>
    cases b with
    | nil => simp [bytesBefore]
    | cons y b =>
      rw [List.cons_le_cons_iff, ih b]
      simp only [bytesBefore, Bool.or_eq_false_iff, Bool.and_eq_false_iff, decide_eq_false_iff_not, beq_eq_false_iff_ne]
      constructor
      · rintro (h | ⟨rfl, h⟩)
        · exact ⟨fun h2 => absurd (UInt8.lt_trans h h2) (UInt8.lt_irrefl _), .inl (fun e => by subst e; exact UInt8.lt_irrefl _ h)⟩
        · exact ⟨UInt8.lt_irrefl _, .inr h⟩
      · rintro ⟨h1, h2⟩
        by_cases e : x = y
        · subst e
          exact .inr ⟨rfl, h2.resolve_left (fun h => h rfl)⟩
        · left
          rcases UInt8.lt_or_lt_of_ne e with h | h
          · exact h
          · exact absurd h h1

/-- Rising by keys, each once. -/
def Rising (l : List Pr) : Prop := l.Pairwise (fun p q => bytesBefore p.1 q.1 = true)
def mIns (p : Pr) : List Pr → List Pr
  | [] => [p]
  | y :: r => if bytesBefore p.1 y.1 = true then p :: y :: r else y :: mIns p r
/-- A record among others, rising by keys; one of its key goes. -/
def mPut (l : List Pr) (p : Pr) : List Pr := mIns p (l.filter fun y => !(y.1 == p.1))
theorem mIns_mem {p q : Pr} {l : List Pr} (h : q ∈ mIns p l) : q = p ∨ q ∈ l := by
  induction l with
  | nil => simpa [mIns] using h
  | cons y r ih =>
    unfold mIns at h
    split at h
    · simpa using h
    · rcases List.mem_cons.1 h with rfl | h
      · exact .inr List.mem_cons_self
      · rcases ih h with h | h
        · exact .inl h
        · exact .inr (List.mem_cons_of_mem _ h)
theorem mIns_rising {p : Pr} {l : List Pr} (h : Rising l) (hp : ∀ q ∈ l, q.1 ≠ p.1) : Rising (mIns p l) := by
  induction l with
  | nil => simp [mIns, Rising]
  | cons y r ih =>
    obtain ⟨h1, h2⟩ := List.pairwise_cons.1 h
    unfold mIns
    split
    · next hb =>
      refine List.pairwise_cons.2 ⟨fun q hq => ?_, h⟩
      rcases List.mem_cons.1 hq with rfl | hq
      · exact hb
      · exact before_trans hb (h1 q hq)
    · next hb =>
      refine List.pairwise_cons.2 ⟨fun q hq => ?_, ih h2 (fun q hq => hp q (List.mem_cons_of_mem _ hq))⟩
      rcases mIns_mem hq with rfl | hq
      · exact (before_total (hp y List.mem_cons_self).symm).resolve_left hb
      · exact h1 q hq
theorem mPut_rising {p : Pr} {l : List Pr} (h : Rising l) : Rising (mPut l p) :=
  mIns_rising (h.filter _) (fun q hq => by have := (List.mem_filter.1 hq).2; simpa using this)
/-- The document's own way. -/
def rPut (p : Pr) : Bool → List Pr → List Pr
  | done, [] => if done then [] else [p]
  | done, x :: l => (if done = false ∧ bytesBefore x.1 p.1 = false then [p] else []) ++ (if x.1 = p.1 then [] else [x]) ++ rPut p (done || !bytesBefore x.1 p.1) l
theorem rPut_done (p : Pr) (l : List Pr) : rPut p true l = l.filter fun y => !(y.1 == p.1) := by
  induction l with
  | nil => rfl
  | cons x l ih =>
    show ([] : List Pr) ++ (if x.1 = p.1 then [] else [x]) ++ rPut p true l = _
    rw [ih]
    by_cases h : x.1 = p.1
    · rw [if_pos h, List.filter_cons_of_neg (by simpa using h)]; rfl
    · rw [if_neg h, List.filter_cons_of_pos (by simpa using h)]; rfl
theorem mIns_front {p : Pr} {l : List Pr} (h : ∀ q ∈ l, bytesBefore p.1 q.1 = true) : mIns p l = p :: l := by
  cases l with
  | nil => rfl
  | cons y r => unfold mIns; rw [if_pos (h y List.mem_cons_self)]
theorem rPut_eq (p : Pr) (l : List Pr) (h : Rising l) : rPut p false l = mPut l p := by
  induction l with
  | nil => rfl
  | cons x l ih =>
    obtain ⟨h1, h2⟩ := List.pairwise_cons.1 h
    show (if false = false ∧ bytesBefore x.1 p.1 = false then [p] else []) ++ (if x.1 = p.1 then [] else [x]) ++ rPut p (!bytesBefore x.1 p.1) l = _
    rcases hb : bytesBefore x.1 p.1 with _ | _
    · rw [if_pos ⟨rfl, rfl⟩]
      show [p] ++ (if x.1 = p.1 then [] else [x]) ++ rPut p true l = _
      rw [rPut_done]
      unfold mPut
      by_cases he : x.1 = p.1
      · rw [if_pos he, List.filter_cons_of_neg (by simpa using he), mIns_front (fun q hq => by rw [← he]; exact h1 q (List.mem_filter.1 hq).1)]
        rfl
      · have hpx := (before_total (fun e => he e.symm) : bytesBefore p.1 x.1 = true ∨ _).resolve_right (by rw [hb]; simp)
        rw [if_neg he, List.filter_cons_of_pos (by simpa using he), mIns_front (fun q hq => by
          rcases List.mem_cons.1 hq with rfl | hq
          · exact hpx
          · exact before_trans hpx (h1 q (List.mem_filter.1 hq).1))]
        rfl
    · have he : x.1 ≠ p.1 := before_ne hb
      rw [if_neg (by simp), if_neg he]
      show [x] ++ rPut p false l = _
      rw [ih h2]
      unfold mPut
      rw [List.filter_cons_of_pos (by simpa using he)]
      conv => rhs; unfold mIns
      rw [if_neg (by rw [before_asymm hb]; simp)]
      rfl
def mAll (l g : List Pr) : List Pr := g.foldl mPut l
theorem mAll_rising (g : List Pr) : ∀ l, Rising l → Rising (mAll l g) := by
  induction g with
  | nil => exact fun _ h => h
  | cons p g ih => exact fun l h => ih _ (mPut_rising h)
def mMerge (g l : List Pr) : List Pr := (mAll (mAll [] g) l).filter fun p => !p.2.isEmpty
theorem mMerge_rising (g l : List Pr) : Rising (mMerge g l) := (mAll_rising l _ (mAll_rising g [] List.Pairwise.nil)).filter _
theorem mPut_new {l : List Pr} {p : Pr} (h : ∀ q ∈ l, bytesBefore q.1 p.1 = true) : mPut l p = l ++ [p] := by
  have hf : (l.filter fun y => !(y.1 == p.1)) = l := List.filter_eq_self.2 (fun q hq => by have := before_ne (h q hq); simpa using this)
  unfold mPut
  rw [hf]
  clear hf
  induction l with
  | nil => rfl
  | cons x l ih =>
    unfold mIns
    rw [if_neg (by rw [before_asymm (h x List.mem_cons_self)]; simp), ih (fun q hq => h q (List.mem_cons_of_mem _ hq))]
    rfl
theorem mAll_self (g : List Pr) : ∀ l, Rising (l ++ g) → mAll l g = l ++ g := by
  induction g with
  | nil => intro l _; simp [mAll]
  | cons p g ih =>
    intro l h
    have hl : mPut l p = l ++ [p] := mPut_new (fun q hq => (List.pairwise_append.1 h).2.2 q hq p List.mem_cons_self)
    show mAll (mPut l p) g = _
    rw [hl, ih _ (by simpa using h)]
    simp
theorem mMerge_self (g l : List Pr) : mMerge (mMerge g l) [] = mMerge g l := by
  have h := mMerge_rising g l
  have e : mAll [] (mMerge g l) = mMerge g l := by rw [mAll_self _ [] (by simpa using h)]; rfl
  show (mAll (mAll [] (mMerge g l)) []).filter _ = _
  rw [e]
  show (mMerge g l).filter _ = _
  unfold mMerge
  rw [List.filter_filter]
  simp

section
variable {H : Type}
/-- These records as a map reads. -/
def mData (l : List Pr) : DataW H := .map (l.map fun p => (.string p.1, .lit (.string p.2)))
theorem mData_put (l : List Pr) (k v : List UInt8) : (mData (H := H) l).put (.string k) (.lit (.string v)) = mData (mPut l (k, v)) := by
  unfold mData DataW.put mPut
  simp only
  congr 1
  rw [List.filter_map]
  have e : ((fun p : Lit × DataW H => !p.1.sameKey (.string k)) ∘ fun p : Pr => ((Lit.string p.1, (.lit (.string p.2) : DataW H)) : Lit × DataW H)) = fun y : Pr => !(y.1 == k) := by
    funext p; rfl
  rw [e]
  generalize (l.filter fun y => !(y.1 == k)) = m
  induction m with
  | nil => rfl
  | cons y r ih =>
    show (if Lit.before (.string k) (.string y.1) = true then _ else _) = _
    show (if bytesBefore k y.1 = true then _ else _) = _
    unfold mIns
    simp only
    split
    · rfl
    · rw [ih]; rfl
theorem mData_keys (l : List Pr) : strKeys (mData (H := H) l) = l.map (·.1) := by
  show (l.map _).map _ = _
  rw [List.map_map]
  rfl
theorem mData_at {l : List Pr} (h : Rising l) {p : Pr} (hp : p ∈ l) (z : DataW H) : (mData (H := H) l).atKey (.string p.1) z = .lit (.string p.2) := by
  unfold mData DataW.atKey
  simp only
  induction l with
  | nil => cases hp
  | cons y r ih =>
    obtain ⟨h1, h2⟩ := List.pairwise_cons.1 h
    rw [List.map_cons, List.find?_cons]
    have hk : (Lit.string y.1).sameKey (.string p.1) = (y.1 == p.1) := rfl
    simp only [hk]
    rcases List.mem_cons.1 hp with rfl | hp
    · simp
    · have : (y.1 == p.1) = false := by rw [beq_eq_false_iff_ne]; exact before_ne (h1 p hp)
      rw [this]
      exact ih h2 hp
theorem mData_size (l : List Pr) : Maps.size (mData (H := H) l) = l.length := by
  show (l.map _).length = _
  rw [List.length_map]
theorem sorted_keys {l : List Pr} (h : Rising l) {ss : List (List UInt8)} (hp : ss.Perm (l.map (·.1))) : ss.mergeSort (fun x y => decide (x ≤ y)) = l.map (·.1) := by
  have e : ss.mergeSort leB = (l.map (·.1)).mergeSort leB := mergeSort_of_perm hp
  have e2 : (l.map (·.1)).mergeSort leB = l.map (·.1) := List.mergeSort_of_pairwise (List.pairwise_map.2 (h.imp (fun {p q} hpq => by
    show decide (p.1 ≤ q.1) = true
    exact decide_eq_true ((leB_iff _ _).2 (before_asymm hpq)))))
  exact e.trans e2
end
end Go.Proofs.YtamenhkbmbaopaaGreatDoor
