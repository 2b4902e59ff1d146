/-
  Records in memory: a record as a value, lists of them, what a call gathers.
-/
import Derived.Test.YtamenhkbmbaopaaGreatDoorRows
import Derived.Test.YtamenhkbmbaopaaGreatDoorRecP
import Derived.Test.YtamenhkbmbaopaaGreatDoorMem
import Derived.Test.YtamenhkbmbaopaaGreatDoorDrew
import Derived.Laws.StructEq
import Derived.Laws.AppendOwn
import Derived.Laws.MakeOwn
namespace Go.Proofs.YtamenhkbmbaopaaGreatDoor
open Go.ChangeShapes Go.WideShapes Go.ChangeAt Go.RowKit

/-- A record as a value. -/
def prVal (p : Pr) : Value := .agg #[.string ⟨p.1.toArray⟩, .string ⟨p.2.toArray⟩]

theorem two_holds {w : World} {g : Nat} {t : TypeId} {a b : Value} (h : Holds w g t [a, b]) :
    w.cell? ⟨g, 0, none⟩ = some a ∧ w.cell? ⟨g, 1, none⟩ = some b ∧ w.frozen? ⟨g, 0, none⟩ = false ∧ w.frozen? ⟨g, 1, none⟩ = false :=
  ⟨h.cell (i := 0) (by simp), h.cell (i := 1) (by simp), h.frozen 0, h.frozen 1⟩
theorem boxed {w w1 : World} {a b : Value} {t : TypeId} (hb : Below (w.alloc (.cells #[a, b] t)).heap.size (w.alloc (.cells #[a, b] t)) w1) :
    Holds w1 w.heap.size t [a, b] ∧ Below w.heap.size w w1 :=
  ⟨(Holds.new w t [a, b]).under hb (by simp), ((Below.refl _ _).alloc (Nat.le_refl _) _).trans (hb.mono (by simp))⟩

/-- Records that lie from an address on. -/
def PairsAt (w : World) (b o : Nat) (l : List Pr) : Prop :=
  ∀ i (h : i < l.length), w.cell? ⟨b, o + i * 2, none⟩ = some (.string ⟨l[i].1.toArray⟩) ∧ w.cell? ⟨b, o + i * 2 + 1, none⟩ = some (.string ⟨l[i].2.toArray⟩)
theorem PairsAt.under {w w' : World} {b o B : Nat} {l : List Pr} (h : PairsAt w b o l) (hb : Below B w w') (hB : b < B) : PairsAt w' b o l :=
  fun i hi => ⟨by rw [hb.cell (p := ⟨b, o + i * 2, none⟩) hB]; exact (h i hi).1, by rw [hb.cell (p := ⟨b, o + i * 2 + 1, none⟩) hB]; exact (h i hi).2⟩
/-- A slice of these records. -/
def PairsIn (w : World) (v : Value) (l : List Pr) : Prop :=
  ∃ (ad : Option Addr) (cap : Nat), v = .slice ad l.length cap ∧ (l = [] ∨ ∃ b o, ad = some ⟨b, o, none⟩ ∧ b < w.heap.size ∧ PairsAt w b o l)
theorem PairsIn.under {w w' : World} {v : Value} {l : List Pr} (h : PairsIn w v l) (hb : Below w.heap.size w w') : PairsIn w' v l := by
  obtain ⟨ad, cap, hv, h⟩ := h
  refine ⟨ad, cap, hv, ?_⟩
  rcases h with h | ⟨b, o, ha, hb2, hp⟩
  · exact .inl h
  · exact .inr ⟨b, o, ha, Nat.lt_of_lt_of_le hb2 hb.size, hp.under hb hb2⟩


theorem cell_lt {w : World} {p : Addr} {v : Value} (h : w.cell? p = some v) : p.block < w.heap.size := by
  rcases Nat.lt_or_ge p.block w.heap.size with hl | hl
  · exact hl
  · exfalso
    unfold World.cell? at h
    rw [Array.getElem?_eq_none hl] at h
    cases h
set_option maxRecDepth 100000 in
theorem pair_equalIn (p q : Pr) (W : World) : (Op.equalIn 10000 27 (.agg #[.string ⟨p.1.toArray⟩, .string ⟨p.2.toArray⟩]) (.agg #[.string ⟨q.1.toArray⟩, .string ⟨q.2.toArray⟩])).run Tryz.prog W = .ok (decide (p = q)) W := by
  obtain ⟨p1, p2⟩ := p
  obtain ⟨q1, q2⟩ := q
  rw [show (10000 : Nat) = 9999 + 1 from rfl, run_equalIn_agg (P := Tryz.prog) W 9999 27 _ _ (by kernel_rfl) (by kernel_rfl)]
  unfold Program.fieldsOf
  rw [Tryz.underlying27]
  simp only [Prod.mk.injEq]
  by_cases h1 : p1 = q1
  · by_cases h2 : p2 = q2
    · subst h1 h2
      simp [Op.eqFields, go_sem]
    · subst h1
      simp [Op.eqFields, go_sem, h2]
  · simp [Op.eqFields, go_sem, h1]
theorem pair_eql (p q : Pr) (W : World) : (binOp .eql 27 (.agg #[.string ⟨p.1.toArray⟩, .string ⟨p.2.toArray⟩]) (.agg #[.string ⟨q.1.toArray⟩, .string ⟨q.2.toArray⟩])).run Tryz.prog W = .ok (.bool (decide (p = q))) W := by
  rw [run_eql_struct, pair_equalIn]; rfl
theorem pair_neq (p q : Pr) (W : World) : (binOp .neq 27 (.agg #[.string ⟨p.1.toArray⟩, .string ⟨p.2.toArray⟩]) (.agg #[.string ⟨q.1.toArray⟩, .string ⟨q.2.toArray⟩])).run Tryz.prog W = .ok (.bool (!decide (p = q))) W := by
  rw [run_neq_struct, pair_equalIn]; rfl
theorem drewN_add (w : World) (m j : Nat) : (w.drewN m).drewN j = w.drewN (m + j) := by
  simp [World.drewN, Nat.add_assoc]
def pairCells (l : List Pr) : List Value := l.flatMap fun p => [.string ⟨p.1.toArray⟩, .string ⟨p.2.toArray⟩]
theorem pairCells_append (x y : List Pr) : pairCells (x ++ y) = pairCells x ++ pairCells y := by simp [pairCells]
theorem pairCells_length (l : List Pr) : (pairCells l).length = l.length * 2 := by
  induction l with
  | nil => rfl
  | cons p l ih => show (_ :: _ :: pairCells l).length = _; simp [ih]; omega
theorem pairCells_get (l : List Pr) : ∀ i (h : i < l.length), (pairCells l)[i * 2]? = some (.string ⟨l[i].1.toArray⟩) ∧ (pairCells l)[i * 2 + 1]? = some (.string ⟨l[i].2.toArray⟩) := by
  induction l with
  | nil => intro i h; simp at h
  | cons p l ih =>
    intro i h
    rcases i with _ | i
    · exact ⟨rfl, rfl⟩
    · have := ih i (by simpa using h)
      have e : (i + 1) * 2 = i * 2 + 1 + 1 := by omega
      rw [e]
      exact this
theorem zero_pair : (Tryz.prog.info? 27).map (fun i => (i.zero, i.size, i.bytes)) = some (some (.agg #[.string ⟨#[]⟩, .string ⟨#[]⟩]), 2, 32) := by kernel_rfl
/-- Records that a call has gathered. -/
abbrev OwnP (w : World) (B : Nat) (v : Value) (l : List Pr) : Prop := w.ownsRow B 27 2 v l.length (pairCells l)
theorem OwnP.pairs {w : World} {B : Nat} {v : Value} {l : List Pr} (h : OwnP w B v l) : PairsIn w v l := by
  rcases h.2 with ⟨hv, hn⟩ | ⟨g, cap, cur, hv, _, hg, _, _, _, _⟩
  · have : l = [] := List.length_eq_zero_iff.1 hn
    subst this
    exact ⟨none, 0, hv, .inl rfl⟩
  · refine ⟨_, cap, hv, .inr ⟨g, 0, rfl, ?_, ?_⟩⟩
    · rcases Nat.lt_or_ge g w.heap.size with hl | hl
      · exact hl
      · rw [Array.getElem?_eq_none hl] at hg; cases hg
    · intro i hi
      have hc := h.cells (g := g) (by rw [hv]; rfl)
      obtain ⟨p1, p2⟩ := pairCells_get l i hi
      have add_at : ∀ j, (⟨g, 0, none⟩ : Addr).add j = ⟨g, 0 + j, none⟩ := by intro j; unfold Addr.add; split <;> simp_all
      have h1 := hc _ _ p1
      have h2 := hc _ _ p2
      rw [add_at] at h1 h2
      exact ⟨h1, by rw [Nat.add_assoc]; exact h2⟩
theorem OwnP.step {w w' : World} {B : Nat} {v : Value} {l : List Pr} (h : OwnP w B v l) (hb : Below w.heap.size w w') : OwnP w' B v l :=
  h.kept (row := none) ⟨hb.os, hb.tape, hb.output, hb.size, fun k hk _ => hb.block k hk⟩ (by rcases h : v.ownBlock with _ | g; exact .inl rfl; exact .inr (by simp))
theorem cell_two_new (w : World) (x y : Value) (t : TypeId) : ∀ j u, [x, y][j]? = some u → (w.alloc (.cells #[x, y] t)).cell? ((⟨w.heap.size, 0, none⟩ : Addr).add j) = some u := by
  intro j u h
  have hh := Holds.new w t [x, y]
  have add_at : (⟨w.heap.size, 0, none⟩ : Addr).add j = ⟨w.heap.size, j, none⟩ := by unfold Addr.add; split <;> simp_all
  rw [add_at]
  have hj : j < 2 := by
    rcases Nat.lt_or_ge j 2 with hl | hl
    · exact hl
    · rw [List.getElem?_eq_none (by simpa using hl)] at h; cases h
  have := hh.cell (i := j) (by simpa using hj)
  rw [List.getElem?_eq_getElem (by simpa using hj)] at h
  injection h with h
  rw [← h]
  exact this
theorem OwnP.two {w : World} {B : Nat} {v : Value} {l : List Pr} {a b : Obj} (h : OwnP w B v l) : OwnP ((w.alloc a).alloc b) B v l := World.ownsRow.alloc (World.ownsRow.alloc h a) b
theorem PairsIn.nil (w : World) : PairsIn w (.slice none 0 0) [] := ⟨none, 0, rfl, .inl rfl⟩

theorem PairsIn.one {w : World} {g cap : Nat} {k v : List UInt8} (h : Holds w g 27 [.string ⟨k.toArray⟩, .string ⟨v.toArray⟩]) : PairsIn w (.slice (some ⟨g, 0, none⟩) 1 cap) [(k, v)] := by
  refine ⟨_, cap, rfl, .inr ⟨g, 0, rfl, h.lt, ?_⟩⟩
  intro i hi
  have hi0 : i = 0 := by simpa using hi
  subst hi0
  obtain ⟨c0, c1, -, -⟩ := two_holds h
  exact ⟨c0, c1⟩
theorem Holds.pairs {w : World} {g cap : Nat} {l : List Pr} (h : Holds w g 27 (pairCells l)) : PairsIn w (.slice (some ⟨g, 0, none⟩) l.length cap) l := by
  refine ⟨_, cap, rfl, .inr ⟨g, 0, rfl, h.lt, ?_⟩⟩
  intro i hi
  obtain ⟨p1, p2⟩ := pairCells_get l i hi
  have hl := pairCells_length l
  have c1 := h.cell (i := i * 2) (by omega)
  have c2 := h.cell (i := i * 2 + 1) (by omega)
  rw [List.getElem?_eq_getElem (by omega)] at p1 p2
  injection p1 with p1
  injection p2 with p2
  rw [p1] at c1
  rw [p2] at c2
  rw [Nat.zero_add]
  exact ⟨c1, c2⟩
theorem pairCells_set (l : List Pr) (p : Pr) : ∀ i, i < l.length → ((pairCells l).set (i * 2) (.string ⟨p.1.toArray⟩)).set (i * 2 + 1) (.string ⟨p.2.toArray⟩) = pairCells (l.set i p) := by
  induction l with
  | nil => intro i h; simp at h
  | cons q l ih =>
    intro i h
    rcases i with _ | i
    · rfl
    · have := ih i (by simpa using h)
      rw [show (i + 1) * 2 = i * 2 + 1 + 1 by omega]
      show _ :: _ :: _ = _
      rw [List.set_cons_succ] at *
      show (Value.string _) :: (Value.string _) :: (((pairCells l).set (i * 2) _).set (i * 2 + 1) _) = (Value.string _) :: (Value.string _) :: pairCells (l.set i p)
      rw [this]
theorem pairCells_empty (k : Nat) : pairCells (List.replicate k (([], []) : Pr)) = List.replicate (k * 2) (.string ⟨#[]⟩) := by
  induction k with
  | zero => rfl
  | succ k ih =>
    rw [List.replicate_succ, show (k + 1) * 2 = k * 2 + 1 + 1 by omega, List.replicate_succ, List.replicate_succ, ← ih]
    rfl
set_option maxRecDepth 100000 in
theorem run_make_pairs (n : Nat) (hn : n ≤ 1000000) (w : World) :
    (Instr.makeSlice 22 (.int .i64 (n : Int)) (.int .i64 (n : Int))).run Tryz.prog w = .ok (.slice (some ⟨w.heap.size, 0, none⟩) n n) (w.alloc (.cells (pairCells (List.replicate n (([], []) : Pr))).toArray 27)) := by
  obtain ⟨i0, hi, hz, hs, hb⟩ := info_parts zero_pair
  have h := run_make (P := Tryz.prog) w 22 27 i0 _ Tryz.underlying22 hi hz .i64 .i64 n n (by omega) (by omega) (by rw [hb]; omega) (by omega)
  rw [h]
  simp only [Int.toNat_natCast]
  congr 2
  rw [hs, pairCells_empty]
  congr 1
  apply Array.ext
  · rw [size_madeCells]; simp
  · intro i h1 h2
    simp only [madeCells, Value.cells, List.getElem_toArray, List.getElem_replicate, Array.getElem_map]
    have : i % 2 = 0 ∨ i % 2 = 1 := by omega
    rcases this with h | h
    · simp [h]
    · simp [h]

theorem same_below {W W' : World} (hb : Below W.heap.size W W') (p : MemPlace) (hp : p.block < W.heap.size) : W.sameAt W' p := by
  cases p with
  | cell b off => exact hb.cell (p := ⟨b, off, none⟩) hp
  | map b => exact hb.block b hp
end Go.Proofs.YtamenhkbmbaopaaGreatDoor
