/-
  Texts of this seat's proof, joined: their order is that of the build.
-/
import Derived.Test.YtjmmecokfijglaaGreatDoorRows
import Derived.Test.YtjmmecokfijglaaGreatDoorJB14
import Derived.Test.YtjmmecokfijglaaGreatDoorJB01
import Derived.Laws.StructEq
import Derived.Laws.AppendOwn
import Derived.Laws.MakeOwn
import Derived.WideAt
import Derived.WideShapes
import Derived.Sort.KeysCollected
import GoSem.ClaimMapViews
import Derived.Shelf.SlIter.Nil
import Derived.Shelf.SortM.Plain
import Derived.Shelf.SortM.SortNone
import Derived.Ground.GgzProg
import Derived.Ground.SlgmProg
import Derived.Test.YtjmmecokfijglaaGreatDoorProg
namespace Go.Proofs.YtjmmecokfijglaaGreatDoor
open Go.ChangeShapes Go.WideShapes Go.ChangeAt Go.RowKit

/-- A record as a value. -/
def prVal (p : Pr) : Value := .agg #[.string ⟨p.1.toArray⟩, .string ⟨p.2.toArray⟩]

theorem two_holds {w : World} {g : Nat} {t : TypeId} {a b : Value} (h : Holds w g t [a, b]) :
    w.cell? ⟨g, 0, none⟩ = some a ∧ w.cell? ⟨g, 1, none⟩ = some b ∧ w.frozen? ⟨g, 0, none⟩ = false ∧ w.frozen? ⟨g, 1, none⟩ = false :=
  ⟨h.cell (i := 0) (by simp), h.cell (i := 1) (by simp), h.frozen 0, h.frozen 1⟩
theorem boxed {w w1 : World} {a b : Value} {t : TypeId} (hb : Below (w.alloc (.cells #[a, b] t)).heap.size (w.alloc (.cells #[a, b] t)) w1) :
    Holds w1 w.heap.size t [a, b] ∧ Below w.heap.size w w1 :=
  ⟨(Holds.new w t [a, b]).under hb (by simp), ((Below.refl _ _).alloc (Nat.le_refl _) _).trans (hb.mono (by simp))⟩

/-- Records that lie from an address on. -/
def PairsAt (w : World) (b o : Nat) (l : List Pr) : Prop :=
  ∀ i (h : i < l.length), w.cell? ⟨b, o + i * 2, none⟩ = some (.string ⟨l[i].1.toArray⟩) ∧ w.cell? ⟨b, o + i * 2 + 1, none⟩ = some (.string ⟨l[i].2.toArray⟩)
theorem PairsAt.under {w w' : World} {b o B : Nat} {l : List Pr} (h : PairsAt w b o l) (hb : Below B w w') (hB : b < B) : PairsAt w' b o l :=
  fun i hi => ⟨by rw [hb.cell (p := ⟨b, o + i * 2, none⟩) hB]; exact (h i hi).1, by rw [hb.cell (p := ⟨b, o + i * 2 + 1, none⟩) hB]; exact (h i hi).2⟩
/-- A slice of these records. -/
def PairsIn (w : World) (v : Value) (l : List Pr) : Prop :=
  ∃ (ad : Option Addr) (cap : Nat), v = .slice ad l.length cap ∧ (l = [] ∨ ∃ b o, ad = some ⟨b, o, none⟩ ∧ b < w.heap.size ∧ PairsAt w b o l)
theorem PairsIn.under {w w' : World} {v : Value} {l : List Pr} (h : PairsIn w v l) (hb : Below w.heap.size w w') : PairsIn w' v l := by
  obtain ⟨ad, cap, hv, h⟩ := h
  refine ⟨ad, cap, hv, ?_⟩
  rcases h with h | ⟨b, o, ha, hb2, hp⟩
  · exact .inl h
  · exact .inr ⟨b, o, ha, Nat.lt_of_lt_of_le hb2 hb.size, hp.under hb hb2⟩


theorem cell_lt {w : World} {p : Addr} {v : Value} (h : w.cell? p = some v) : p.block < w.heap.size := by
  rcases Nat.lt_or_ge p.block w.heap.size with hl | hl
  · exact hl
  · exfalso
    unfold World.cell? at h
    rw [Array.getElem?_eq_none hl] at h
    cases h
set_option maxRecDepth 100000 in
theorem pair_equalIn (p q : Pr) (W : World) : (Op.equalIn 10000 27 (.agg #[.string ⟨p.1.toArray⟩, .string ⟨p.2.toArray⟩]) (.agg #[.string ⟨q.1.toArray⟩, .string ⟨q.2.toArray⟩])).run Tryz.prog W = .ok (decide (p = q)) W := by
  obtain ⟨p1, p2⟩ := p
  obtain ⟨q1, q2⟩ := q
  rw [show (10000 : Nat) = 9999 + 1 from rfl, run_equalIn_agg (P := Tryz.prog) W 9999 27 _ _ (by kernel_rfl) (by kernel_rfl)]
  unfold Program.fieldsOf
  rw [Tryz.underlying27]
  simp only [Prod.mk.injEq]
  by_cases h1 : p1 = q1
  · by_cases h2 : p2 = q2
    · subst h1 h2
      simp [Op.eqFields, go_sem]
    · subst h1
      simp [Op.eqFields, go_sem, h2]
  · simp [Op.eqFields, go_sem, h1]
theorem pair_eql (p q : Pr) (W : World) : (binOp .eql 27 (.agg #[.string ⟨p.1.toArray⟩, .string ⟨p.2.toArray⟩]) (.agg #[.string ⟨q.1.toArray⟩, .string ⟨q.2.toArray⟩])).run Tryz.prog W = .ok (.bool (decide (p = q))) W := by
  rw [run_eql_struct, pair_equalIn]; rfl
theorem pair_neq (p q : Pr) (W : World) : (binOp .neq 27 (.agg #[.string ⟨p.1.toArray⟩, .string ⟨p.2.toArray⟩]) (.agg #[.string ⟨q.1.toArray⟩, .string ⟨q.2.toArray⟩])).run Tryz.prog W = .ok (.bool (!decide (p = q))) W := by
  rw [run_neq_struct, pair_equalIn]; rfl
theorem drewN_add (w : World) (m j : Nat) : (w.drewN m).drewN j = w.drewN (m + j) := by
  simp [World.drewN, Nat.add_assoc]
def pairCells (l : List Pr) : List Value := l.flatMap fun p => [.string ⟨p.1.toArray⟩, .string ⟨p.2.toArray⟩]
theorem pairCells_append (x y : List Pr) : pairCells (x ++ y) = pairCells x ++ pairCells y := by simp [pairCells]
theorem pairCells_length (l : List Pr) : (pairCells l).length = l.length * 2 := by
  induction l with
  | nil => rfl
  | cons p l ih => show (_ :: _ :: pairCells l).length = _; simp [ih]; omega
theorem pairCells_get (l : List Pr) : ∀ i (h : i < l.length), (pairCells l)[i * 2]? = some (.string ⟨l[i].1.toArray⟩) ∧ (pairCells l)[i * 2 + 1]? = some (.string ⟨l[i].2.toArray⟩) := by
  induction l with
  | nil => intro i h; simp at h
  | cons p l ih =>
    intro i h
    rcases i with _ | i
    · exact ⟨rfl, rfl⟩
    · have := ih i (by simpa using h)
      have e : (i + 1) * 2 = i * 2 + 1 + 1 := by omega
      rw [e]
      exact this
theorem zero_pair : (Tryz.prog.info? 27).map (fun i => (i.zero, i.size, i.bytes)) = some (some (.agg #[.string ⟨#[]⟩, .string ⟨#[]⟩]), 2, 32) := by kernel_rfl
/-- Records that a call has gathered. -/
abbrev OwnP (w : World) (B : Nat) (v : Value) (l : List Pr) : Prop := w.ownsRow B 27 2 v l.length (pairCells l)
theorem OwnP.pairs {w : World} {B : Nat} {v : Value} {l : List Pr} (h : OwnP w B v l) : PairsIn w v l := by
  rcases h.2 with ⟨hv, hn⟩ | ⟨g, cap, cur, hv, _, hg, _, _, _, _⟩
  · have : l = [] := List.length_eq_zero_iff.1 hn
    subst this
    exact ⟨none, 0, hv, .inl rfl⟩
  · refine ⟨_, cap, hv, .inr ⟨g, 0, rfl, ?_, ?_⟩⟩
    · rcases Nat.lt_or_ge g w.heap.size with hl | hl
      · exact hl
      · rw [Array.getElem?_eq_none hl] at hg; cases hg
    · intro i hi
      have hc := h.cells (g := g) (by rw [hv]; rfl)
      obtain ⟨p1, p2⟩ := pairCells_get l i hi
      have add_at : ∀ j, (⟨g, 0, none⟩ : Addr).add j = ⟨g, 0 + j, none⟩ := by intro j; unfold Addr.add; split <;> simp_all
      have h1 := hc _ _ p1
      have h2 := hc _ _ p2
      rw [add_at] at h1 h2
      exact ⟨h1, by rw [Nat.add_assoc]; exact h2⟩
theorem OwnP.step {w w' : World} {B : Nat} {v : Value} {l : List Pr} (h : OwnP w B v l) (hb : Below w.heap.size w w') : OwnP w' B v l :=
  h.kept (row := none) ⟨hb.os, hb.tape, hb.output, hb.size, fun k hk _ => hb.block k hk⟩ (by rcases h : v.ownBlock with _ | g; exact .inl rfl; exact .inr (by simp))
theorem cell_two_new (w : World) (x y : Value) (t : TypeId) : ∀ j u, [x, y][j]? = some u → (w.alloc (.cells #[x, y] t)).cell? ((⟨w.heap.size, 0, none⟩ : Addr).add j) = some u := by
  intro j u h
  have hh := Holds.new w t [x, y]
  have add_at : (⟨w.heap.size, 0, none⟩ : Addr).add j = ⟨w.heap.size, j, none⟩ := by unfold Addr.add; split <;> simp_all
  rw [add_at]
  have hj : j < 2 := by
    rcases Nat.lt_or_ge j 2 with hl | hl
    · exact hl
    · rw [List.getElem?_eq_none (by simpa using hl)] at h; cases h
  have := hh.cell (i := j) (by simpa using hj)
  rw [List.getElem?_eq_getElem (by simpa using hj)] at h
  injection h with h
  rw [← h]
  exact this
theorem OwnP.two {w : World} {B : Nat} {v : Value} {l : List Pr} {a b : Obj} (h : OwnP w B v l) : OwnP ((w.alloc a).alloc b) B v l := World.ownsRow.alloc (World.ownsRow.alloc h a) b
theorem PairsIn.nil (w : World) : PairsIn w (.slice none 0 0) [] := ⟨none, 0, rfl, .inl rfl⟩

theorem PairsIn.one {w : World} {g cap : Nat} {k v : List UInt8} (h : Holds w g 27 [.string ⟨k.toArray⟩, .string ⟨v.toArray⟩]) : PairsIn w (.slice (some ⟨g, 0, none⟩) 1 cap) [(k, v)] := by
  refine ⟨_, cap, rfl, .inr ⟨g, 0, rfl, h.lt, ?_⟩⟩
  intro i hi
  have hi0 : i = 0 := by simpa using hi
  subst hi0
  obtain ⟨c0, c1, -, -⟩ := two_holds h
  exact ⟨c0, c1⟩
theorem Holds.pairs {w : World} {g cap : Nat} {l : List Pr} (h : Holds w g 27 (pairCells l)) : PairsIn w (.slice (some ⟨g, 0, none⟩) l.length cap) l := by
  refine ⟨_, cap, rfl, .inr ⟨g, 0, rfl, h.lt, ?_⟩⟩
  intro i hi
  obtain ⟨p1, p2⟩ := pairCells_get l i hi
  have hl := pairCells_length l
  have c1 := h.cell (i := i * 2) (by omega)
  have c2 := h.cell (i := i * 2 + 1) (by omega)
  rw [List.getElem?_eq_getElem (by omega)] at p1 p2
  injection p1 with p1
  injection p2 with p2
  rw [p1] at c1
  rw [p2] at c2
  rw [Nat.zero_add]
  exact ⟨c1, c2⟩
theorem pairCells_set (l : List Pr) (p : Pr) : ∀ i, i < l.length → ((pairCells l).set (i * 2) (.string ⟨p.1.toArray⟩)).set (i * 2 + 1) (.string ⟨p.2.toArray⟩) = pairCells (l.set i p) := by
  induction l with
  | nil => intro i h; simp at h
  | cons q l ih =>
    intro i h
    rcases i with _ | i
    · rfl
    · have := ih i (by simpa using h)
      rw [show (i + 1) * 2 = i * 2 + 1 + 1 by omega]
      show _ :: _ :: _ = _
      rw [List.set_cons_succ] at *
      show (Value.string _) :: (Value.string _) :: (((pairCells l).set (i * 2) _).set (i * 2 + 1) _) = (Value.string _) :: (Value.string _) :: pairCells (l.set i p)
      rw [this]
theorem pairCells_empty (k : Nat) : pairCells (List.replicate k (([], []) : Pr)) = List.replicate (k * 2) (.string ⟨#[]⟩) := by
  induction k with
  | zero => rfl
  | succ k ih =>
    rw [List.replicate_succ, show (k + 1) * 2 = k * 2 + 1 + 1 by omega, List.replicate_succ, List.replicate_succ, ← ih]
    rfl
set_option maxRecDepth 100000 in
theorem run_make_pairs (n : Nat) (hn : n ≤ 1000000) (w : World) :
    (Instr.makeSlice 22 (.int .i64 (n : Int)) (.int .i64 (n : Int))).run Tryz.prog w = .ok (.slice (some ⟨w.heap.size, 0, none⟩) n n) (w.alloc (.cells (pairCells (List.replicate n (([], []) : Pr))).toArray 27)) := by
  obtain ⟨i0, hi, hz, hs, hb⟩ := info_parts zero_pair
  have h := run_make (P := Tryz.prog) w 22 27 i0 _ Tryz.underlying22 hi hz .i64 .i64 n n (by omega) (by omega) (by rw [hb]; omega) (by omega)
  rw [h]
  simp only [Int.toNat_natCast]
  congr 2
  rw [hs, pairCells_empty]
  congr 1
  apply Array.ext
  · rw [size_madeCells]; simp
  · intro i h1 h2
    simp only [madeCells, Value.cells, List.getElem_toArray, List.getElem_replicate, Array.getElem_map]
    have : i % 2 = 0 ∨ i % 2 = 1 := by omega
    rcases this with h | h
    · simp [h]
    · simp [h]

theorem same_below {W W' : World} (hb : Below W.heap.size W W') (p : MemPlace) (hp : p.block < W.heap.size) : W.sameAt W' p := by
  cases p with
  | cell b off => exact hb.cell (p := ⟨b, off, none⟩) hp
  | map b => exact hb.block b hp
end Go.Proofs.YtjmmecokfijglaaGreatDoor
namespace Go.Proofs.YtjmmecokfijglaaGreatDoor
open Go.ChangeShapes Go.WideShapes Go.ChangeAt Go.RowKit

theorem before_irrefl (a : List UInt8) : bytesBefore a a = false := Go.WideAt.bytes_irrefl a
theorem before_total {a b : List UInt8} (h : a ≠ b) : bytesBefore a b = true ∨ bytesBefore b a = true := Go.WideAt.bytes_total a b h
theorem before_trans {a b c : List UInt8} (h1 : bytesBefore a b = true) (h2 : bytesBefore b c = true) : bytesBefore a c = true := Go.WideShapes.bytes_trans a b c h1 h2
theorem before_asymm {a b : List UInt8} (h : bytesBefore a b = true) : bytesBefore b a = false := by
  rcases hb : bytesBefore b a with _ | _
  · rfl
  · have := before_trans h hb
    rw [before_irrefl] at this
    cases this
theorem before_ne {a b : List UInt8} (h : bytesBefore a b = true) : a ≠ b := fun e => by
  subst e
  rw [before_irrefl] at h
  cases h
theorem leB_iff (a b : List UInt8) : a ≤ b ↔ bytesBefore b a = false := by
  induction a generalizing b with
  | nil => cases b <;> simp [bytesBefore]
  | cons x a ih =>
    cases b with
    | nil => simp [bytesBefore]
    | cons y b =>
      rw [List.cons_le_cons_iff, ih b]
      simp only [bytesBefore, Bool.or_eq_false_iff, Bool.and_eq_false_iff, decide_eq_false_iff_not, beq_eq_false_iff_ne]
      constructor
      · rintro (h | ⟨rfl, h⟩)
        · exact ⟨fun h2 => absurd (UInt8.lt_trans h h2) (UInt8.lt_irrefl _), .inl (fun e => by subst e; exact UInt8.lt_irrefl _ h)⟩
        · exact ⟨UInt8.lt_irrefl _, .inr h⟩
      · rintro ⟨h1, h2⟩
        by_cases e : x = y
        · subst e
          exact .inr ⟨rfl, h2.resolve_left (fun h => h rfl)⟩
        · left
          rcases UInt8.lt_or_lt_of_ne e with h | h
          · exact h
          · exact absurd h h1

/-- Rising by keys, each once. -/
def Rising (l : List Pr) : Prop := l.Pairwise (fun p q => bytesBefore p.1 q.1 = true)
def mIns (p : Pr) : List Pr → List Pr
  | [] => [p]
  | y :: r => if bytesBefore p.1 y.1 = true then p :: y :: r else y :: mIns p r
/-- A record among others, rising by keys; one of its key goes. -/
def mPut (l : List Pr) (p : Pr) : List Pr := mIns p (l.filter fun y => !(y.1 == p.1))
theorem mIns_mem {p q : Pr} {l : List Pr} (h : q ∈ mIns p l) : q = p ∨ q ∈ l := by
  induction l with
  | nil => simpa [mIns] using h
  | cons y r ih =>
    unfold mIns at h
    split at h
    · simpa using h
    · rcases List.mem_cons.1 h with rfl | h
      · exact .inr List.mem_cons_self
      · rcases ih h with h | h
        · exact .inl h
        · exact .inr (List.mem_cons_of_mem _ h)
theorem mIns_rising {p : Pr} {l : List Pr} (h : Rising l) (hp : ∀ q ∈ l, q.1 ≠ p.1) : Rising (mIns p l) := by
  induction l with
  | nil => simp [mIns, Rising]
  | cons y r ih =>
    obtain ⟨h1, h2⟩ := List.pairwise_cons.1 h
    unfold mIns
    split
    · next hb =>
      refine List.pairwise_cons.2 ⟨fun q hq => ?_, h⟩
      rcases List.mem_cons.1 hq with rfl | hq
      · exact hb
      · exact before_trans hb (h1 q hq)
    · next hb =>
      refine List.pairwise_cons.2 ⟨fun q hq => ?_, ih h2 (fun q hq => hp q (List.mem_cons_of_mem _ hq))⟩
      rcases mIns_mem hq with rfl | hq
      · exact (before_total (hp y List.mem_cons_self).symm).resolve_left hb
      · exact h1 q hq
theorem mPut_rising {p : Pr} {l : List Pr} (h : Rising l) : Rising (mPut l p) :=
  mIns_rising (h.filter _) (fun q hq => by have := (List.mem_filter.1 hq).2; simpa using this)
/-- The document's own way. -/
def rPut (p : Pr) : Bool → List Pr → List Pr
  | done, [] => if done then [] else [p]
  | done, x :: l => (if done = false ∧ bytesBefore x.1 p.1 = false then [p] else []) ++ (if x.1 = p.1 then [] else [x]) ++ rPut p (done || !bytesBefore x.1 p.1) l
theorem rPut_done (p : Pr) (l : List Pr) : rPut p true l = l.filter fun y => !(y.1 == p.1) := by
  induction l with
  | nil => rfl
  | cons x l ih =>
    show ([] : List Pr) ++ (if x.1 = p.1 then [] else [x]) ++ rPut p true l = _
    rw [ih]
    by_cases h : x.1 = p.1
    · rw [if_pos h, List.filter_cons_of_neg (by simpa using h)]; rfl
    · rw [if_neg h, List.filter_cons_of_pos (by simpa using h)]; rfl
theorem mIns_front {p : Pr} {l : List Pr} (h : ∀ q ∈ l, bytesBefore p.1 q.1 = true) : mIns p l = p :: l := by
  cases l with
  | nil => rfl
  | cons y r => unfold mIns; rw [if_pos (h y List.mem_cons_self)]
theorem rPut_eq (p : Pr) (l : List Pr) (h : Rising l) : rPut p false l = mPut l p := by
  induction l with
  | nil => rfl
  | cons x l ih =>
    obtain ⟨h1, h2⟩ := List.pairwise_cons.1 h
    show (if false = false ∧ bytesBefore x.1 p.1 = false then [p] else []) ++ (if x.1 = p.1 then [] else [x]) ++ rPut p (!bytesBefore x.1 p.1) l = _
    rcases hb : bytesBefore x.1 p.1 with _ | _
    · rw [if_pos ⟨rfl, rfl⟩]
      show [p] ++ (if x.1 = p.1 then [] else [x]) ++ rPut p true l = _
      rw [rPut_done]
      unfold mPut
      by_cases he : x.1 = p.1
      · rw [if_pos he, List.filter_cons_of_neg (by simpa using he), mIns_front (fun q hq => by rw [← he]; exact h1 q (List.mem_filter.1 hq).1)]
        rfl
      · have hpx := (before_total (fun e => he e.symm) : bytesBefore p.1 x.1 = true ∨ _).resolve_right (by rw [hb]; simp)
        rw [if_neg he, List.filter_cons_of_pos (by simpa using he), mIns_front (fun q hq => by
          rcases List.mem_cons.1 hq with rfl | hq
          · exact hpx
          · exact before_trans hpx (h1 q (List.mem_filter.1 hq).1))]
        rfl
    · have he : x.1 ≠ p.1 := before_ne hb
      rw [if_neg (by simp), if_neg he]
      show [x] ++ rPut p false l = _
      rw [ih h2]
      unfold mPut
      rw [List.filter_cons_of_pos (by simpa using he)]
      conv => rhs; unfold mIns
      rw [if_neg (by rw [before_asymm hb]; simp)]
      rfl
def mAll (l g : List Pr) : List Pr := g.foldl mPut l
theorem mAll_rising (g : List Pr) : ∀ l, Rising l → Rising (mAll l g) := by
  induction g with
  | nil => exact fun _ h => h
  | cons p g ih => exact fun l h => ih _ (mPut_rising h)
def mMerge (g l : List Pr) : List Pr := (mAll (mAll [] g) l).filter fun p => !p.2.isEmpty
theorem mMerge_rising (g l : List Pr) : Rising (mMerge g l) := (mAll_rising l _ (mAll_rising g [] List.Pairwise.nil)).filter _
theorem mPut_new {l : List Pr} {p : Pr} (h : ∀ q ∈ l, bytesBefore q.1 p.1 = true) : mPut l p = l ++ [p] := by
  have hf : (l.filter fun y => !(y.1 == p.1)) = l := List.filter_eq_self.2 (fun q hq => by have := before_ne (h q hq); simpa using this)
  unfold mPut
  rw [hf]
  clear hf
  induction l with
  | nil => rfl
  | cons x l ih =>
    unfold mIns
    rw [if_neg (by rw [before_asymm (h x List.mem_cons_self)]; simp), ih (fun q hq => h q (List.mem_cons_of_mem _ hq))]
    rfl
theorem mAll_self (g : List Pr) : ∀ l, Rising (l ++ g) → mAll l g = l ++ g := by
  induction g with
  | nil => intro l _; simp [mAll]
  | cons p g ih =>
    intro l h
    have hl : mPut l p = l ++ [p] := mPut_new (fun q hq => (List.pairwise_append.1 h).2.2 q hq p List.mem_cons_self)
    show mAll (mPut l p) g = _
    rw [hl, ih _ (by simpa using h)]
    simp
theorem mMerge_self (g l : List Pr) : mMerge (mMerge g l) [] = mMerge g l := by
  have h := mMerge_rising g l
  have e : mAll [] (mMerge g l) = mMerge g l := by rw [mAll_self _ [] (by simpa using h)]; rfl
  show (mAll (mAll [] (mMerge g l)) []).filter _ = _
  rw [e]
  show (mMerge g l).filter _ = _
  unfold mMerge
  rw [List.filter_filter]
  simp

section
variable {H : Type}
/-- These records as a map reads. -/
def mData (l : List Pr) : DataW H := .map (l.map fun p => (.string p.1, .lit (.string p.2)))
theorem mData_put (l : List Pr) (k v : List UInt8) : (mData (H := H) l).put (.string k) (.lit (.string v)) = mData (mPut l (k, v)) := by
  unfold mData DataW.put mPut
  simp only
  congr 1
  rw [List.filter_map]
  have e : ((fun p : Lit × DataW H => !p.1.sameKey (.string k)) ∘ fun p : Pr => ((Lit.string p.1, (.lit (.string p.2) : DataW H)) : Lit × DataW H)) = fun y : Pr => !(y.1 == k) := by
    funext p; rfl
  rw [e]
  generalize (l.filter fun y => !(y.1 == k)) = m
  induction m with
  | nil => rfl
  | cons y r ih =>
    show (if Lit.before (.string k) (.string y.1) = true then _ else _) = _
    show (if bytesBefore k y.1 = true then _ else _) = _
    unfold mIns
    simp only
    split
    · rfl
    · rw [ih]; rfl
theorem mData_keys (l : List Pr) : strKeys (mData (H := H) l) = l.map (·.1) := by
  show (l.map _).map _ = _
  rw [List.map_map]
  rfl
theorem mData_at {l : List Pr} (h : Rising l) {p : Pr} (hp : p ∈ l) (z : DataW H) : (mData (H := H) l).atKey (.string p.1) z = .lit (.string p.2) := by
  unfold mData DataW.atKey
  simp only
  induction l with
  | nil => cases hp
  | cons y r ih =>
    obtain ⟨h1, h2⟩ := List.pairwise_cons.1 h
    rw [List.map_cons, List.find?_cons]
    have hk : (Lit.string y.1).sameKey (.string p.1) = (y.1 == p.1) := rfl
    simp only [hk]
    rcases List.mem_cons.1 hp with rfl | hp
    · simp
    · have : (y.1 == p.1) = false := by rw [beq_eq_false_iff_ne]; exact before_ne (h1 p hp)
      rw [this]
      exact ih h2 hp
theorem mData_size (l : List Pr) : Maps.size (mData (H := H) l) = l.length := by
  show (l.map _).length = _
  rw [List.length_map]
theorem sorted_keys {l : List Pr} (h : Rising l) {ss : List (List UInt8)} (hp : ss.Perm (l.map (·.1))) : ss.mergeSort (fun x y => decide (x ≤ y)) = l.map (·.1) := by
  have e : ss.mergeSort leB = (l.map (·.1)).mergeSort leB := mergeSort_of_perm hp
  have e2 : (l.map (·.1)).mergeSort leB = l.map (·.1) := List.mergeSort_of_pairwise (List.pairwise_map.2 (h.imp (fun {p q} hpq => by
    show decide (p.1 ≤ q.1) = true
    exact decide_eq_true ((leB_iff _ _).2 (before_asymm hpq)))))
  exact e.trans e2
end
end Go.Proofs.YtjmmecokfijglaaGreatDoor
namespace Go.Proofs
open Go.Shelf
def Tryz.keys27_ren : Go.Shelf.Ren := ⟨fun | 7 => 27 | 10 => 71 | n => n, fun | 23 => 70 | 26 => 9 | 3 => 9 | 28 => 74 | 0 => 0 | 27 => 73 | 33 => 88 | 4 => 4 | n => n, fun | n => n⟩
theorem Tryz.keys27 : Go.Proofs.SlLaysZ.n7 Tryz.prog Tryz.keys27_ren := {
  mixed := by kernel_rfl
  f7 := ⟨Tryz.f27.name, by decide, Tryz.func27.trans (congrArg some (by kernel_rfl))⟩
  f10 := ⟨Tryz.f71.name, by decide, Tryz.func71.trans (congrArg some (by kernel_rfl))⟩
  t0 := Tryz.underlying0
  a0 := Tryz.isAgg0
  z0 := Tryz.sizeOf0
  v0 := Tryz.zeroValue0
  t4 := Tryz.underlying4
  a4 := Tryz.isAgg4
  z4 := Tryz.sizeOf4
  v4 := Tryz.zeroValue4
  t23 := Tryz.underlying70
  a23 := Tryz.isAgg70
  z23 := Tryz.sizeOf70
  v23 := Tryz.zeroValue70
  t26 := Tryz.underlying9
  a26 := Tryz.isAgg9
  z26 := Tryz.sizeOf9
  v26 := Tryz.zeroValue9
  t27 := Tryz.underlying73
  a27 := Tryz.isAgg73
  z27 := Tryz.sizeOf73
  v27 := Tryz.zeroValue73
  t28 := Tryz.underlying74
  a28 := Tryz.isAgg74
  z28 := Tryz.sizeOf74
  v28 := Tryz.zeroValue74
  t33 := Tryz.underlying88
  a33 := Tryz.isAgg88
  z33 := Tryz.sizeOf88
  v33 := Tryz.zeroValue88 }
def Tryz.sorted26_ren : Go.Shelf.Ren := ⟨fun | 6 => 26 | 8 => 69 | 9 => 70 | 11 => 125 | 13 => 127 | 12 => 126 | 23 => 175 | 24 => 176 | 14 => 166 | 15 => 167 | 16 => 168 | 17 => 169 | 18 => 170 | 19 => 171 | 20 => 172 | 21 => 173 | 22 => 174 | 25 => 198 | 26 => 199 | 27 => 200 | 28 => 201 | 29 => 202 | 30 => 203 | 31 => 225 | n => n, fun | 26 => 9 | 28 => 74 | 24 => 71 | 0 => 0 | 3 => 3 | 37 => 203 | 48 => 233 | 50 => 235 | 4 => 4 | 40 => 227 | 39 => 226 | 45 => 167 | 5 => 5 | 9 => 9 | 51 => 256 | 55 => 108 | 57 => 279 | 58 => 89 | 33 => 88 | n => n, fun | n => n⟩
theorem Tryz.sorted26 : Go.Proofs.SlLaysZ.n6 Tryz.prog Tryz.sorted26_ren := {
  mixed := by kernel_rfl
  f6 := ⟨Tryz.f26.name, by decide, Tryz.func26.trans (congrArg some (by kernel_rfl))⟩
  f8 := ⟨Tryz.f69.name, by decide, Tryz.func69.trans (congrArg some (by kernel_rfl))⟩
  f11 := ⟨Tryz.f125.name, by decide, Tryz.func125.trans (congrArg some (by kernel_rfl))⟩
  t0 := Tryz.underlying0
  a0 := Tryz.isAgg0
  z0 := Tryz.sizeOf0
  v0 := Tryz.zeroValue0
  t24 := Tryz.underlying71
  a24 := Tryz.isAgg71
  z24 := Tryz.sizeOf71
  v24 := Tryz.zeroValue71
  t26 := Tryz.underlying9
  a26 := Tryz.isAgg9
  z26 := Tryz.sizeOf9
  v26 := Tryz.zeroValue9
  t28 := Tryz.underlying74
  a28 := Tryz.isAgg74
  z28 := Tryz.sizeOf74
  v28 := Tryz.zeroValue74
  i26 := by kernel_rfl }
def Tryz.sort70_ren : Go.Shelf.Ren := ⟨fun | 6 => 70 | 8 => 127 | 9 => 126 | 19 => 175 | 20 => 176 | 21 => 166 | 22 => 167 | 23 => 168 | 24 => 169 | 25 => 170 | 26 => 171 | 27 => 172 | 28 => 173 | 29 => 174 | 36 => 198 | 31 => 199 | 32 => 200 | 37 => 201 | 38 => 202 | 39 => 203 | 41 => 225 | n => n, fun | 27 => 71 | 29 => 9 | 3 => 3 | 32 => 203 | 26 => 71 | 0 => 0 | 44 => 233 | 46 => 235 | 4 => 4 | 36 => 227 | 35 => 226 | 41 => 167 | 5 => 5 | 9 => 9 | 53 => 256 | 57 => 108 | 63 => 279 | 64 => 89 | n => n, fun | n => n⟩
theorem Tryz.sort70 : Go.Proofs.SlLaysM.n6 Tryz.prog Tryz.sort70_ren := {
  mixed := by kernel_rfl
  f6 := ⟨Tryz.f70.name, by decide, Tryz.func70.trans (congrArg some (by kernel_rfl))⟩
  f8 := Tryz.func127.trans (congrArg some (by kernel_rfl))
  f9 := ⟨Tryz.f126.name, by decide, Tryz.func126.trans (congrArg some (by kernel_rfl))⟩
  f19 := Tryz.func175.trans (congrArg some (by kernel_rfl))
  f20 := Tryz.func176.trans (congrArg some (by kernel_rfl))
  f21 := ⟨Tryz.f166.name, by decide, Tryz.func166.trans (congrArg some (by kernel_rfl))⟩
  f22 := ⟨Tryz.f167.name, by decide, Tryz.func167.trans (congrArg some (by kernel_rfl))⟩
  f23 := ⟨Tryz.f168.name, by decide, Tryz.func168.trans (congrArg some (by kernel_rfl))⟩
  f24 := ⟨Tryz.f169.name, by decide, Tryz.func169.trans (congrArg some (by kernel_rfl))⟩
  f25 := ⟨Tryz.f170.name, by decide, Tryz.func170.trans (congrArg some (by kernel_rfl))⟩
  f26 := ⟨Tryz.f171.name, by decide, Tryz.func171.trans (congrArg some (by kernel_rfl))⟩
  f27 := ⟨Tryz.f172.name, by decide, Tryz.func172.trans (congrArg some (by kernel_rfl))⟩
  f28 := ⟨Tryz.f173.name, by decide, Tryz.func173.trans (congrArg some (by kernel_rfl))⟩
  f29 := ⟨Tryz.f174.name, by decide, Tryz.func174.trans (congrArg some (by kernel_rfl))⟩
  f31 := Tryz.func199.trans (congrArg some (by kernel_rfl))
  f32 := Tryz.func200.trans (congrArg some (by kernel_rfl))
  f36 := ⟨Tryz.f198.name, by decide, Tryz.func198.trans (congrArg some (by kernel_rfl))⟩
  f37 := ⟨Tryz.f201.name, by decide, Tryz.func201.trans (congrArg some (by kernel_rfl))⟩
  f38 := ⟨Tryz.f202.name, by decide, Tryz.func202.trans (congrArg some (by kernel_rfl))⟩
  f39 := ⟨Tryz.f203.name, by decide, Tryz.func203.trans (congrArg some (by kernel_rfl))⟩
  f41 := ⟨Tryz.f225.name, by decide, Tryz.func225.trans (congrArg some (by kernel_rfl))⟩
  t0 := Tryz.underlying0
  a0 := Tryz.isAgg0
  z0 := Tryz.sizeOf0
  v0 := Tryz.zeroValue0
  t3 := Tryz.underlying3
  a3 := Tryz.isAgg3
  z3 := Tryz.sizeOf3
  v3 := Tryz.zeroValue3
  t4 := Tryz.underlying4
  a4 := Tryz.isAgg4
  z4 := Tryz.sizeOf4
  v4 := Tryz.zeroValue4
  t5 := Tryz.underlying5
  a5 := Tryz.isAgg5
  z5 := Tryz.sizeOf5
  v5 := Tryz.zeroValue5
  t9 := Tryz.underlying9
  a9 := Tryz.isAgg9
  z9 := Tryz.sizeOf9
  v9 := Tryz.zeroValue9
  t26 := Tryz.underlying71
  a26 := Tryz.isAgg71
  z26 := Tryz.sizeOf71
  v26 := Tryz.zeroValue71
  t27 := Tryz.underlying71
  a27 := Tryz.isAgg71
  z27 := Tryz.sizeOf71
  v27 := Tryz.zeroValue71
  t29 := Tryz.underlying9
  a29 := Tryz.isAgg9
  z29 := Tryz.sizeOf9
  v29 := Tryz.zeroValue9
  t32 := Tryz.underlying203
  a32 := Tryz.isAgg203
  z32 := Tryz.sizeOf203
  v32 := Tryz.zeroValue203
  t35 := Tryz.underlying226
  a35 := Tryz.isAgg226
  z35 := Tryz.sizeOf226
  v35 := Tryz.zeroValue226
  t36 := Tryz.underlying227
  a36 := Tryz.isAgg227
  z36 := Tryz.sizeOf227
  v36 := Tryz.zeroValue227
  t41 := Tryz.underlying167
  a41 := Tryz.isAgg167
  z41 := Tryz.sizeOf167
  v41 := Tryz.zeroValue167
  t44 := Tryz.underlying233
  a44 := Tryz.isAgg233
  z44 := Tryz.sizeOf233
  v44 := Tryz.zeroValue233
  t46 := Tryz.underlying235
  a46 := Tryz.isAgg235
  z46 := Tryz.sizeOf235
  v46 := Tryz.zeroValue235
  t53 := Tryz.underlying256
  a53 := Tryz.isAgg256
  z53 := Tryz.sizeOf256
  v53 := Tryz.zeroValue256
  t57 := Tryz.underlying108
  a57 := Tryz.isAgg108
  z57 := Tryz.sizeOf108
  v57 := Tryz.zeroValue108
  t63 := Tryz.underlying279
  a63 := Tryz.isAgg279
  z63 := Tryz.sizeOf279
  v63 := Tryz.zeroValue279
  t64 := Tryz.underlying89
  a64 := Tryz.isAgg89
  z64 := Tryz.sizeOf89
  v64 := Tryz.zeroValue89 }
end Go.Proofs
namespace Go.Proofs
open Go.RowKit Go.Maps Go.Sort Go.Shelf

theorem Tryz.sorts26 (m : Nat) : AnyZ.SortsIn Tryz.prog Tryz.sorted26_ren Fence.wide m :=
  ⟨fun blk off cap ss W hH hblk hsz => callsIn_wide.2 (AnyM.slices_Sort_string Tryz.sort70 blk off cap ss W hH hblk hsz),
   fun p cap W => callsIn_wide.2 (AnyM.slices_Sort_string_none Tryz.sort70 p cap W)⟩

theorem Tryz.maps_Keys_27 (mb : Option Nat) (W : World) : CallsIn Fence.wide 5 Tryz.prog 27 #[.map mb] W fun e w' => e = .returned (.func (.func 71) #[] #[.pointer (some ⟨W.heap.size, 0, none⟩)]) ∧ w' = W.alloc (.cells #[.map mb] 70) :=
  AnyZ.keys_in Tryz.keys27 Fence.wide 5 trivial rfl mb W

set_option maxHeartbeats 1000000 in
theorem Tryz.slices_Sorted_keys_26_27 {H : Type} (b nn : Nat) (D0 : DataW H) (R : Value → Option (DataW H × List MemPlace)) (w : World) (hown : w.ownsMap Tryz.prog 9 R b nn D0) (hmax : Maps.size D0 ≤ maxLen) (hbytes : Maps.size D0 * 16 ≤ 140737488355328) :
    CallsIn Fence.wide 5 Tryz.prog 26 #[.func (.func 71) #[] #[.pointer (some ⟨w.heap.size, 0, none⟩)]] (w.alloc (.cells #[.map (some b)] 70)) fun e w' => ∃ (v : Value) (ss : List (List UInt8)), e = .returned v ∧ ss.Perm (strKeys D0) ∧
      w'.ownsRow (w.alloc (.cells #[.map (some b)] 70)).heap.size 9 1 v ss.length ((ss.mergeSort (fun x y => decide (x ≤ y))).map encStr) ∧ (v = .slice none 0 0 ↔ ss = []) ∧ Below (w.alloc (.cells #[.map (some b)] 70)).heap.size (w.alloc (.cells #[.map (some b)] 70)) w' := by
  have hbl := hown.lt
  have hseq : SeqGives Fence.wide 2 Tryz.prog 71 #[.pointer (some ⟨w.heap.size, 0, none⟩)] encStr (fun ss => ss.Perm (strKeys D0)) (Maps.size D0) (w.alloc (.cells #[.map (some b)] 70)) :=
    AnyZ.keys_gives (ρ := Tryz.keys27_ren) { Tryz.keys27 with } Fence.wide _ trivial rfl (by omega) w.heap.size b nn D0 _ (by simp) (by simp) (by
      obtain ⟨es, clock, hb, Ft, hs, hD⟩ := hown
      exact ⟨es, clock, (Below.heap_alloc _ _ b hbl).trans hb, Ft, hs, hD⟩)
  exact AnyZ.sorted_in Tryz.sorted26 Fence.wide 5 trivial trivial trivial trivial rfl (by omega) (Tryz.sorts26 _) (enters_of Tryz.func70 (by kernel_rfl) rfl) 71 #[.pointer (some ⟨w.heap.size, 0, none⟩)] trivial (enters_of Tryz.func71 (by kernel_rfl) rfl) _ _ hmax hbytes _ hseq

set_option maxHeartbeats 1000000 in
theorem Tryz.slices_Sorted_keys_nil_26_27 (w : World) :
    CallsIn Fence.wide 5 Tryz.prog 26 #[.func (.func 71) #[] #[.pointer (some ⟨w.heap.size, 0, none⟩)]] (w.alloc (.cells #[.map none] 70)) fun e w' => ∃ (v : Value) (ss : List (List UInt8)), e = .returned v ∧ ss = [] ∧
      w'.ownsRow (w.alloc (.cells #[.map none] 70)).heap.size 9 1 v ss.length ((ss.mergeSort (fun x y => decide (x ≤ y))).map encStr) ∧ (v = .slice none 0 0 ↔ ss = []) ∧ Below (w.alloc (.cells #[.map none] 70)).heap.size (w.alloc (.cells #[.map none] 70)) w' := by
  have hseq : SeqGives Fence.wide 2 Tryz.prog 71 #[.pointer (some ⟨w.heap.size, 0, none⟩)] encStr (fun ss : List (List UInt8) => ss = []) 0 (w.alloc (.cells #[.map none] 70)) :=
    AnyZ.keys_gives_nil (ρ := Tryz.keys27_ren) { Tryz.keys27 with } Fence.wide _ trivial rfl w.heap.size _ (by simp) (by simp)
  exact AnyZ.sorted_in Tryz.sorted26 Fence.wide 5 trivial trivial trivial trivial rfl (by omega) (Tryz.sorts26 _) (enters_of Tryz.func70 (by kernel_rfl) rfl) 71 #[.pointer (some ⟨w.heap.size, 0, none⟩)] trivial (enters_of Tryz.func71 (by kernel_rfl) rfl) _ 0 (Nat.zero_le _) (by omega) _ hseq


end Go.Proofs
