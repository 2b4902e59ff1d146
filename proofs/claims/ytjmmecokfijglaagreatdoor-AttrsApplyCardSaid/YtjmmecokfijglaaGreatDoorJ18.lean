/-
  Texts of this seat's proof, joined: their order is that of the build.
-/
import Derived.Test.YtjmmecokfijglaaGreatDoorRows
import Derived.Test.YtjmmecokfijglaaGreatDoorJ17
import Derived.Test.YtjmmecokfijglaaGreatDoorJ01
import Derived.Laws.StructEq
import Derived.Laws.AppendOwn
import Derived.Laws.MakeOwn
import Derived.WideAt
import Derived.WideShapes
import Derived.Sort.KeysCollected
import GoSem.ClaimMapViews
namespace Go.Proofs.YtjmmecokfijglaaGreatDoor
open Go.ChangeShapes Go.WideShapes Go.ChangeAt Go.RowKit

/-- A record as a value. -/
def prVal (p : Pr) : Value := .agg #[.string ⟨p.1.toArray⟩, .string ⟨p.2.toArray⟩]

theorem two_holds {w : World} {g : Nat} {t : TypeId} {a b : Value} (h : Holds w g t [a, b]) :
    w.cell? ⟨g, 0, none⟩ = some a ∧ w.cell? ⟨g, 1, none⟩ = some b ∧ w.frozen? ⟨g, 0, none⟩ = false ∧ w.frozen? ⟨g, 1, none⟩ = false :=
  ⟨h.cell (i := 0) (by simp), h.cell (i := 1) (by simp), h.frozen 0, h.frozen 1⟩
theorem boxed {w w1 : World} {a b : Value} {t : TypeId} (hb : Below (w.alloc (.cells #[a, b] t)).heap.size (w.alloc (.cells #[a, b] t)) w1) :
    Holds w1 w.heap.size t [a, b] ∧ Below w.heap.size w w1 :=
  ⟨(Holds.new w t [a, b]).under hb (by simp), ((Below.refl _ _).alloc (Nat.le_refl _) _).trans (hb.mono (by simp))⟩

/-- Records that lie from an address on. -/
def PairsAt (w : World) (b o : Nat) (l : List Pr) : Prop :=
  ∀ i (h : i < l.length), w.cell? ⟨b, o + i * 2, none⟩ = some (.string ⟨l[i].1.toArray⟩) ∧ w.cell? ⟨b, o + i * 2 + 1, none⟩ = some (.string ⟨l[i].2.toArray⟩)
theorem PairsAt.under {w w' : World} {b o B : Nat} {l : List Pr} (h : PairsAt w b o l) (hb : Below B w w') (hB : b < B) : PairsAt w' b o l :=
  fun i hi => ⟨by rw [hb.cell (p := ⟨b, o + i * 2, none⟩) hB]; exact (h i hi).1, by rw [hb.cell (p := ⟨b, o + i * 2 + 1, none⟩) hB]; exact (h i hi).2⟩
/-- A slice of these records. -/
def PairsIn (w : World) (v : Value) (l : List Pr) : Prop :=
  ∃ (ad : Option Addr) (cap : Nat), v = .slice ad l.length cap ∧ (l = [] ∨ ∃ b o, ad = some ⟨b, o, none⟩ ∧ b < w.heap.size ∧ PairsAt w b o l)
theorem PairsIn.under {w w' : World} {v : Value} {l : List Pr} (h : PairsIn w v l) (hb : Below w.heap.size w w') : PairsIn w' v l := by
  obtain ⟨ad, cap, hv, h⟩ := h
  refine ⟨ad, cap, hv, ?_⟩
  rcases h with h | ⟨b, o, ha, hb2, hp⟩
  · exact .inl h
  · exact .inr ⟨b, o, ha, Nat.lt_of_lt_of_le hb2 hb.size, hp.under hb hb2⟩


theorem cell_lt {w : World} {p : Addr} {v : Value} (h : w.cell? p = some v) : p.block < w.heap.size := by
  rcases Nat.lt_or_ge p.block w.heap.size with hl | hl
  · exact hl
  · exfalso
    unfold World.cell? at h
    rw [Array.getElem?_eq_none hl] at h
    cases h
set_option maxRecDepth 100000 in
theorem pair_equalIn (p q : Pr) (W : World) : (Op.equalIn 10000 27 (.agg #[.string ⟨p.1.toArray⟩, .string ⟨p.2.toArray⟩]) (.agg #[.string ⟨q.1.toArray⟩, .string ⟨q.2.toArray⟩])).run Tryz.prog W = .ok (decide (p = q)) W := by
  obtain ⟨p1, p2⟩ := p
  obtain ⟨q1, q2⟩ := q
  rw [show (10000 : Nat) = 9999 + 1 from rfl, run_equalIn_agg (P := Tryz.prog) W 9999 27 _ _ (by kernel_rfl) (by kernel_rfl)]
  unfold Program.fieldsOf
  rw [Tryz.underlying27]
  simp only [Prod.mk.injEq]
  by_cases h1 : p1 = q1
  · by_cases h2 : p2 = q2
    · subst h1 h2
      simp [Op.eqFields, go_sem]
    · subst h1
      simp [Op.eqFields, go_sem, h2]
  · simp [Op.eqFields, go_sem, h1]
theorem pair_eql (p q : Pr) (W : World) : (binOp .eql 27 (.agg #[.string ⟨p.1.toArray⟩, .string ⟨p.2.toArray⟩]) (.agg #[.string ⟨q.1.toArray⟩, .string ⟨q.2.toArray⟩])).run Tryz.prog W = .ok (.bool (decide (p = q))) W := by
  rw [run_eql_struct, pair_equalIn]; rfl
theorem pair_neq (p q : Pr) (W : World) : (binOp .neq 27 (.agg #[.string ⟨p.1.toArray⟩, .string ⟨p.2.toArray⟩]) (.agg #[.string ⟨q.1.toArray⟩, .string ⟨q.2.toArray⟩])).run Tryz.prog W = .ok (.bool (!decide (p = q))) W := by
  rw [run_neq_struct, pair_equalIn]; rfl
theorem drewN_add (w : World) (m j : Nat) : (w.drewN m).drewN j = w.drewN (m + j) := by
  simp [World.drewN, Nat.add_assoc]
def pairCells (l : List Pr) : List Value := l.flatMap fun p => [.string ⟨p.1.toArray⟩, .string ⟨p.2.toArray⟩]
theorem pairCells_append (x y : List Pr) : pairCells (x ++ y) = pairCells x ++ pairCells y := by simp [pairCells]
theorem pairCells_length (l : List Pr) : (pairCells l).length = l.length * 2 := by
  induction l with
  | nil => rfl
  | cons p l ih => show (_ :: _ :: pairCells l).length = _; simp [ih]; omega
theorem pairCells_get (l : List Pr) : ∀ i (h : i < l.length), (pairCells l)[i * 2]? = some (.string ⟨l[i].1.toArray⟩) ∧ (pairCells l)[i * 2 + 1]? = some (.string ⟨l[i].2.toArray⟩) := by
  induction l with
  | nil => intro i h; simp at h
  | cons p l ih =>
    intro i h
    rcases i with _ | i
    · exact ⟨rfl, rfl⟩
    · have := ih i (by simpa using h)
      have e : (i + 1) * 2 = i * 2 + 1 + 1 := by omega
      rw [e]
      exact this
theorem zero_pair : (Tryz.prog.info? 27).map (fun i => (i.zero, i.size, i.bytes)) = some (some (.agg #[.string ⟨#[]⟩, .string ⟨#[]⟩]), 2, 32) := by kernel_rfl
/-- Records that a call has gathered. -/
abbrev OwnP (w : World) (B : Nat) (v : Value) (l : List Pr) : Prop := w.ownsRow B 27 2 v l.length (pairCells l)
theorem OwnP.pairs {w : World} {B : Nat} {v : Value} {l : List Pr} (h : OwnP w B v l) : PairsIn w v l := by
  rcases h.2 with ⟨hv, hn⟩ | ⟨g, cap, cur, hv, _, hg, _, _, _, _⟩
  · have : l = [] := List.length_eq_zero_iff.1 hn
    subst this
    exact ⟨none, 0, hv, .inl rfl⟩
  · refine ⟨_, cap, hv, .inr ⟨g, 0, rfl, ?_, ?_⟩⟩
    · rcases Nat.lt_or_ge g w.heap.size with hl | hl
      · exact hl
      · rw [Array.getElem?_eq_none hl] at hg; cases hg
    · intro i hi
      have hc := h.cells (g := g) (by rw [hv]; rfl)
      obtain ⟨p1, p2⟩ := pairCells_get l i hi
      have add_at : ∀ j, (⟨g, 0, none⟩ : Addr).add j = ⟨g, 0 + j, none⟩ := by intro j; unfold Addr.add; split <;> simp_all
      have h1 := hc _ _ p1
      have h2 := hc _ _ p2
      rw [add_at] at h1 h2
      exact ⟨h1, by rw [Nat.add_assoc]; exact h2⟩
theorem OwnP.step {w w' : World} {B : Nat} {v : Value} {l : List Pr} (h : OwnP w B v l) (hb : Below w.heap.size w w') : OwnP w' B v l :=
  h.kept (row := none) ⟨hb.os, hb.tape, hb.output, hb.size, fun k hk _ => hb.block k hk⟩ (by rcases h : v.ownBlock with _ | g; exact .inl rfl; exact .inr (by simp))
theorem cell_two_new (w : World) (x y : Value) (t : TypeId) : ∀ j u, [x, y][j]? = some u → (w.alloc (.cells #[x, y] t)).cell? ((⟨w.heap.size, 0, none⟩ : Addr).add j) = some u := by
  intro j u h
  have hh := Holds.new w t [x, y]
  have add_at : (⟨w.heap.size, 0, none⟩ : Addr).add j = ⟨w.heap.size, j, none⟩ := by unfold Addr.add; split <;> simp_all
  rw [add_at]
  have hj : j < 2 := by
    rcases Nat.lt_or_ge j 2 with hl | hl
    · exact hl
    · rw [List.getElem?_eq_none (by simpa using hl)] at h; cases h
  have := hh.cell (i := j) (by simpa using hj)
  rw [List.getElem?_eq_getElem (by simpa using hj)] at h
  injection h with h
  rw [← h]
  exact this
theorem OwnP.two {w : World} {B : Nat} {v : Value} {l : List Pr} {a b : Obj} (h : OwnP w B v l) : OwnP ((w.alloc a).alloc b) B v l := World.ownsRow.alloc (World.ownsRow.alloc h a) b
theorem PairsIn.nil (w : World) : PairsIn w (.slice none 0 0) [] := ⟨none, 0, rfl, .inl rfl⟩

theorem PairsIn.one {w : World} {g cap : Nat} {k v : List UInt8} (h : Holds w g 27 [.string ⟨k.toArray⟩, .string ⟨v.toArray⟩]) : PairsIn w (.slice (some ⟨g, 0, none⟩) 1 cap) [(k, v)] := by
  refine ⟨_, cap, rfl, .inr ⟨g, 0, rfl, h.lt, ?_⟩⟩
  intro i hi
  have hi0 : i = 0 := by simpa using hi
  subst hi0
  obtain ⟨c0, c1, -, -⟩ := two_holds h
  exact ⟨c0, c1⟩
theorem Holds.pairs {w : World} {g cap : Nat} {l : List Pr} (h : Holds w g 27 (pairCells l)) : PairsIn w (.slice (some ⟨g, 0, none⟩) l.length cap) l := by
  refine ⟨_, cap, rfl, .inr ⟨g, 0, rfl, h.lt, ?_⟩⟩
  intro i hi
  obtain ⟨p1, p2⟩ := pairCells_get l i hi
  have hl := pairCells_length l
  have c1 := h.cell (i := i * 2) (by omega)
  have c2 := h.cell (i := i * 2 + 1) (by omega)
  rw [List.getElem?_eq_getElem (by omega)] at p1 p2
  injection p1 with p1
  injection p2 with p2
  rw [p1] at c1
  rw [p2] at c2
  rw [Nat.zero_add]
  exact ⟨c1, c2⟩
theorem pairCells_set (l : List Pr) (p : Pr) : ∀ i, i < l.length → ((pairCells l).set (i * 2) (.string ⟨p.1.toArray⟩)).set (i * 2 + 1) (.string ⟨p.2.toArray⟩) = pairCells (l.set i p) := by
  induction l with
  | nil => intro i h; simp at h
  | cons q l ih =>
    intro i h
    rcases i with _ | i
    · rfl
    · have := ih i (by simpa using h)
      rw [show (i + 1) * 2 = i * 2 + 1 + 1 by omega]
      show _ :: _ :: _ = _
      rw [List.set_cons_succ] at *
      show (Value.string _) :: (Value.string _) :: (((pairCells l).set (i * 2) _).set (i * 2 + 1) _) = (Value.string _) :: (Value.string _) :: pairCells (l.set i p)
      rw [this]
theorem pairCells_empty (k : Nat) : pairCells (List.replicate k (([], []) : Pr)) = List.replicate (k * 2) (.string ⟨#[]⟩) := by
  induction k with
  | zero => rfl
  | succ k ih =>
    rw [List.replicate_succ, show (k + 1) * 2 = k * 2 + 1 + 1 by omega, List.replicate_succ, List.replicate_succ, ← ih]
    rfl
set_option maxRecDepth 100000 in
theorem run_make_pairs (n : Nat) (hn : n ≤ 1000000) (w : World) :
    (Instr.makeSlice 22 (.int .i64 (n : Int)) (.int .i64 (n : Int))).run Tryz.prog w = .ok (.slice (some ⟨w.heap.size, 0, none⟩) n n) (w.alloc (.cells (pairCells (List.replicate n (([], []) : Pr))).toArray 27)) := by
  obtain ⟨i0, hi, hz, hs, hb⟩ := info_parts zero_pair
  have h := run_make (P := Tryz.prog) w 22 27 i0 _ Tryz.underlying22 hi hz .i64 .i64 n n (by omega) (by omega) (by rw [hb]; omega) (by omega)
  rw [h]
  simp only [Int.toNat_natCast]
  congr 2
  rw [hs, pairCells_empty]
  congr 1
  apply Array.ext
  · rw [size_madeCells]; simp
  · intro i h1 h2
    simp only [madeCells, Value.cells, List.getElem_toArray, List.getElem_replicate, Array.getElem_map]
    have : i % 2 = 0 ∨ i % 2 = 1 := by omega
    rcases this with h | h
    · simp [h]
    · simp [h]

theorem same_below {W W' : World} (hb : Below W.heap.size W W') (p : MemPlace) (hp : p.block < W.heap.size) : W.sameAt W' p := by
  cases p with
  | cell b off => exact hb.cell (p := ⟨b, off, none⟩) hp
  | map b => exact hb.block b hp
end Go.Proofs.YtjmmecokfijglaaGreatDoor
namespace Go.Proofs.YtjmmecokfijglaaGreatDoor
open Go.ChangeShapes Go.WideShapes Go.ChangeAt Go.RowKit

theorem before_irrefl (a : List UInt8) : bytesBefore a a = false := Go.WideAt.bytes_irrefl a
theorem before_total {a b : List UInt8} (h : a ≠ b) : bytesBefore a b = true ∨ bytesBefore b a = true := Go.WideAt.bytes_total a b h
theorem before_trans {a b c : List UInt8} (h1 : bytesBefore a b = true) (h2 : bytesBefore b c = true) : bytesBefore a c = true := Go.WideShapes.bytes_trans a b c h1 h2
theorem before_asymm {a b : List UInt8} (h : bytesBefore a b = true) : bytesBefore b a = false := by
  rcases hb : bytesBefore b a with _ | _
  · rfl
  · have := before_trans h hb
    rw [before_irrefl] at this
    cases this
theorem before_ne {a b : List UInt8} (h : bytesBefore a b = true) : a ≠ b := fun e => by
  subst e
  rw [before_irrefl] at h
  cases h
theorem leB_iff (a b : List UInt8) : a ≤ b ↔ bytesBefore b a = false := by
  induction a generalizing b with
  | nil => cases b <;> simp [bytesBefore]
  | cons x a ih =>
    cases b with
    | nil => simp [bytesBefore]
    | cons y b =>
      rw [List.cons_le_cons_iff, ih b]
      simp only [bytesBefore, Bool.or_eq_false_iff, Bool.and_eq_false_iff, decide_eq_false_iff_not, beq_eq_false_iff_ne]
      constructor
      · rintro (h | ⟨rfl, h⟩)
        · exact ⟨fun h2 => absurd (UInt8.lt_trans h h2) (UInt8.lt_irrefl _), .inl (fun e => by subst e; exact UInt8.lt_irrefl _ h)⟩
        · exact ⟨UInt8.lt_irrefl _, .inr h⟩
      · rintro ⟨h1, h2⟩
        by_cases e : x = y
        · subst e
          exact .inr ⟨rfl, h2.resolve_left (fun h => h rfl)⟩
        · left
          rcases UInt8.lt_or_lt_of_ne e with h | h
          · exact h
          · exact absurd h h1

/-- Rising by keys, each once. -/
def Rising (l : List Pr) : Prop := l.Pairwise (fun p q => bytesBefore p.1 q.1 = true)
def mIns (p : Pr) : List Pr → List Pr
  | [] => [p]
  | y :: r => if bytesBefore p.1 y.1 = true then p :: y :: r else y :: mIns p r
/-- A record among others, rising by keys; one of its key goes. -/
def mPut (l : List Pr) (p : Pr) : List Pr := mIns p (l.filter fun y => !(y.1 == p.1))
theorem mIns_mem {p q : Pr} {l : List Pr} (h : q ∈ mIns p l) : q = p ∨ q ∈ l := by
  induction l with
  | nil => simpa [mIns] using h
  | cons y r ih =>
    unfold mIns at h
    split at h
    · simpa using h
    · rcases List.mem_cons.1 h with rfl | h
      · exact .inr List.mem_cons_self
      · rcases ih h with h | h
        · exact .inl h
        · exact .inr (List.mem_cons_of_mem _ h)
theorem mIns_rising {p : Pr} {l : List Pr} (h : Rising l) (hp : ∀ q ∈ l, q.1 ≠ p.1) : Rising (mIns p l) := by
  induction l with
  | nil => simp [mIns, Rising]
  | cons y r ih =>
    obtain ⟨h1, h2⟩ := List.pairwise_cons.1 h
    unfold mIns
    split
    · next hb =>
      refine List.pairwise_cons.2 ⟨fun q hq => ?_, h⟩
      rcases List.mem_cons.1 hq with rfl | hq
      · exact hb
      · exact before_trans hb (h1 q hq)
    · next hb =>
      refine List.pairwise_cons.2 ⟨fun q hq => ?_, ih h2 (fun q hq => hp q (List.mem_cons_of_mem _ hq))⟩
      rcases mIns_mem hq with rfl | hq
      · exact (before_total (hp y List.mem_cons_self).symm).resolve_left hb
      · exact h1 q hq
theorem mPut_rising {p : Pr} {l : List Pr} (h : Rising l) : Rising (mPut l p) :=
  mIns_rising (h.filter _) (fun q hq => by have := (List.mem_filter.1 hq).2; simpa using this)
/-- The document's own way. -/
def rPut (p : Pr) : Bool → List Pr → List Pr
  | done, [] => if done then [] else [p]
  | done, x :: l => (if done = false ∧ bytesBefore x.1 p.1 = false then [p] else []) ++ (if x.1 = p.1 then [] else [x]) ++ rPut p (done || !bytesBefore x.1 p.1) l
theorem rPut_done (p : Pr) (l : List Pr) : rPut p true l = l.filter fun y => !(y.1 == p.1) := by
  induction l with
  | nil => rfl
  | cons x l ih =>
    show ([] : List Pr) ++ (if x.1 = p.1 then [] else [x]) ++ rPut p true l = _
    rw [ih]
    by_cases h : x.1 = p.1
    · rw [if_pos h, List.filter_cons_of_neg (by simpa using h)]; rfl
    · rw [if_neg h, List.filter_cons_of_pos (by simpa using h)]; rfl
theorem mIns_front {p : Pr} {l : List Pr} (h : ∀ q ∈ l, bytesBefore p.1 q.1 = true) : mIns p l = p :: l := by
  cases l with
  | nil => rfl
  | cons y r => unfold mIns; rw [if_pos (h y List.mem_cons_self)]
theorem rPut_eq (p : Pr) (l : List Pr) (h : Rising l) : rPut p false l = mPut l p := by
  induction l with
  | nil => rfl
  | cons x l ih =>
    obtain ⟨h1, h2⟩ := List.pairwise_cons.1 h
    show (if false = false ∧ bytesBefore x.1 p.1 = false then [p] else []) ++ (if x.1 = p.1 then [] else [x]) ++ rPut p (!bytesBefore x.1 p.1) l = _
    rcases hb : bytesBefore x.1 p.1 with _ | _
    · rw [if_pos ⟨rfl, rfl⟩]
      show [p] ++ (if x.1 = p.1 then [] else [x]) ++ rPut p true l = _
      rw [rPut_done]
      unfold mPut
      by_cases he : x.1 = p.1
      · rw [if_pos he, List.filter_cons_of_neg (by simpa using he), mIns_front (fun q hq => by rw [← he]; exact h1 q (List.mem_filter.1 hq).1)]
        rfl
      · have hpx := (before_total (fun e => he e.symm) : bytesBefore p.1 x.1 = true ∨ _).resolve_right (by rw [hb]; simp)
        rw [if_neg he, List.filter_cons_of_pos (by simpa using he), mIns_front (fun q hq => by
          rcases List.mem_cons.1 hq with rfl | hq
          · exact hpx
          · exact before_trans hpx (h1 q (List.mem_filter.1 hq).1))]
        rfl
    · have he : x.1 ≠ p.1 := before_ne hb
      rw [if_neg (by simp), if_neg he]
      show [x] ++ rPut p false l = _
      rw [ih h2]
      unfold mPut
      rw [List.filter_cons_of_pos (by simpa using he)]
      conv => rhs; unfold mIns
      rw [if_neg (by rw [before_asymm hb]; simp)]
      rfl
def mAll (l g : List Pr) : List Pr := g.foldl mPut l
theorem mAll_rising (g : List Pr) : ∀ l, Rising l → Rising (mAll l g) := by
  induction g with
  | nil => exact fun _ h => h
  | cons p g ih => exact fun l h => ih _ (mPut_rising h)
def mMerge (g l : List Pr) : List Pr := (mAll (mAll [] g) l).filter fun p => !p.2.isEmpty
theorem mMerge_rising (g l : List Pr) : Rising (mMerge g l) := (mAll_rising l _ (mAll_rising g [] List.Pairwise.nil)).filter _
theorem mPut_new {l : List Pr} {p : Pr} (h : ∀ q ∈ l, bytesBefore q.1 p.1 = true) : mPut l p = l ++ [p] := by
  have hf : (l.filter fun y => !(y.1 == p.1)) = l := List.filter_eq_self.2 (fun q hq => by have := before_ne (h q hq); simpa using this)
  unfold mPut
  rw [hf]
  clear hf
  induction l with
  | nil => rfl
  | cons x l ih =>
    unfold mIns
    rw [if_neg (by rw [before_asymm (h x List.mem_cons_self)]; simp), ih (fun q hq => h q (List.mem_cons_of_mem _ hq))]
    rfl
theorem mAll_self (g : List Pr) : ∀ l, Rising (l ++ g) → mAll l g = l ++ g := by
  induction g with
  | nil => intro l _; simp [mAll]
  | cons p g ih =>
    intro l h
    have hl : mPut l p = l ++ [p] := mPut_new (fun q hq => (List.pairwise_append.1 h).2.2 q hq p List.mem_cons_self)
    show mAll (mPut l p) g = _
    rw [hl, ih _ (by simpa using h)]
    simp
theorem mMerge_self (g l : List Pr) : mMerge (mMerge g l) [] = mMerge g l := by
  have h := mMerge_rising g l
  have e : mAll [] (mMerge g l) = mMerge g l := by rw [mAll_self _ [] (by simpa using h)]; rfl
  show (mAll (mAll [] (mMerge g l)) []).filter _ = _
  rw [e]
  show (mMerge g l).filter _ = _
  unfold mMerge
  rw [List.filter_filter]
  simp

section
variable {H : Type}
/-- These records as a map reads. -/
def mData (l : List Pr) : DataW H := .map (l.map fun p => (.string p.1, .lit (.string p.2)))
theorem mData_put (l : List Pr) (k v : List UInt8) : (mData (H := H) l).put (.string k) (.lit (.string v)) = mData (mPut l (k, v)) := by
  unfold mData DataW.put mPut
  simp only
  congr 1
  rw [List.filter_map]
  have e : ((fun p : Lit × DataW H => !p.1.sameKey (.string k)) ∘ fun p : Pr => ((Lit.string p.1, (.lit (.string p.2) : DataW H)) : Lit × DataW H)) = fun y : Pr => !(y.1 == k) := by
    funext p; rfl
  rw [e]
  generalize (l.filter fun y => !(y.1 == k)) = m
  induction m with
  | nil => rfl
  | cons y r ih =>
    show (if Lit.before (.string k) (.string y.1) = true then _ else _) = _
    show (if bytesBefore k y.1 = true then _ else _) = _
    unfold mIns
    simp only
    split
    · rfl
    · rw [ih]; rfl
theorem mData_keys (l : List Pr) : strKeys (mData (H := H) l) = l.map (·.1) := by
  show (l.map _).map _ = _
  rw [List.map_map]
  rfl
theorem mData_at {l : List Pr} (h : Rising l) {p : Pr} (hp : p ∈ l) (z : DataW H) : (mData (H := H) l).atKey (.string p.1) z = .lit (.string p.2) := by
  unfold mData DataW.atKey
  simp only
  induction l with
  | nil => cases hp
  | cons y r ih =>
    obtain ⟨h1, h2⟩ := List.pairwise_cons.1 h
    rw [List.map_cons, List.find?_cons]
    have hk : (Lit.string y.1).sameKey (.string p.1) = (y.1 == p.1) := rfl
    simp only [hk]
    rcases List.mem_cons.1 hp with rfl | hp
    · simp
    · have : (y.1 == p.1) = false := by rw [beq_eq_false_iff_ne]; exact before_ne (h1 p hp)
      rw [this]
      exact ih h2 hp
theorem mData_size (l : List Pr) : Maps.size (mData (H := H) l) = l.length := by
  show (l.map _).length = _
  rw [List.length_map]
theorem sorted_keys {l : List Pr} (h : Rising l) {ss : List (List UInt8)} (hp : ss.Perm (l.map (·.1))) : ss.mergeSort (fun x y => decide (x ≤ y)) = l.map (·.1) := by
  have e : ss.mergeSort leB = (l.map (·.1)).mergeSort leB := mergeSort_of_perm hp
  have e2 : (l.map (·.1)).mergeSort leB = l.map (·.1) := List.mergeSort_of_pairwise (List.pairwise_map.2 (h.imp (fun {p q} hpq => by
    show decide (p.1 ≤ q.1) = true
    exact decide_eq_true ((leB_iff _ _).2 (before_asymm hpq)))))
  exact e.trans e2
end
end Go.Proofs.YtjmmecokfijglaaGreatDoor
