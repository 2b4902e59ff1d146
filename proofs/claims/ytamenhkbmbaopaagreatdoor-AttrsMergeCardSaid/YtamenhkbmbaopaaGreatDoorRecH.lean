/-
  A slice of records that came in as an argument.
-/
import Derived.Test.YtamenhkbmbaopaaGreatDoorPair
import Derived.Deep.Slices
import Derived.WideKeyArgs
import Derived.SizedLaws
import Derived.Lib.SmallJoins
import Derived.OpenShut
namespace Go.Proofs.YtamenhkbmbaopaaGreatDoor
open Go.ChangeShapes Go.WideShapes Go.ChangeAt Go.RowKit Go.Joins Go.Deep Go.WideElems

section
variable {H : Type} {enc : TypeId × Value → H} {w : World} {base : Nat} {spare : Nat → Bool} {held : Bool}
theorem weightsAll_mem {P : Program} {e : TypeId} {l : List (DataW H)} {d : DataW H} (hd : d ∈ l) {n : Nat} (hn : n ∈ d.weights P e) : n ∈ DataW.weightsAll P e l := by
  induction l with
  | nil => cases hd
  | cons x l ih =>
    simp only [DataW.weightsAll, List.mem_append]
    rcases List.mem_cons.1 hd with rfl | h
    · exact .inl hn
    · exact .inr (ih h)
theorem pair_bytes : Tryz.prog.bytesOf 27 = 32 := by kernel_rfl
set_option maxRecDepth 100000 in
theorem open_pair {n : Nat} {cs : List Value} {x : DataW H × List MemPlace} (h : DataW.trod enc Tryz.prog w base spare held n 27 cs = some x) (hl : cs.length = 2) :
    ∃ k v : List UInt8, cs = [.string ⟨k.toArray⟩, .string ⟨v.toArray⟩] ∧ x.1 = .agg [.lit (.string k), .lit (.string v)] := by
  have hs := Tryz.underlying27
  obtain ⟨xs, m, _, hx, _, hlen, hg⟩ := DataW.trod_struct hs h
  match cs, hl with
  | [c0, c1], _ =>
    match xs, hlen with
    | [y0, y1], _ =>
      have cS : Tryz.prog.cellsOf 9 = 1 := by kernel_rfl
      have g0 : DataW.trod enc Tryz.prog w base spare held m 9 [c0] = some y0 := by simpa [cS] using hg 0 _ rfl
      have g1 : DataW.trod enc Tryz.prog w base spare held m 9 [c1] = some y1 := by simpa [cS] using hg 1 _ rfl
      obtain ⟨s, e0, rfl, w0⟩ := DataW.trod_string Tryz.underlying9 g0
      obtain ⟨t, e1, rfl, w1⟩ := DataW.trod_string Tryz.underlying9 g1
      obtain ⟨k, rfl⟩ := str_of s
      obtain ⟨v, rfl⟩ := str_of t
      simp only [List.cons.injEq, and_true] at e0 e1
      subst e0 e1
      exact ⟨k, v, rfl, by rw [hx]; simp⟩

theorem pair_weights (k v : List UInt8) : k.length ∈ (DataW.agg (H := H) [.lit (.string k), .lit (.string v)]).weights Tryz.prog 27 ∧ v.length ∈ (DataW.agg (H := H) [.lit (.string k), .lit (.string v)]).weights Tryz.prog 27 := by
  unfold DataW.weights
  rw [Tryz.underlying27]
  simp [DataW.weightsEach, DataW.weights]

/-- Each text of these records is no longer than any that a machine holds. -/
def PairsReach (l : List Pr) : Prop := ∀ p ∈ l, p.1.length ≤ reachBytes ∧ p.2.length ≤ reachBytes

set_option maxRecDepth 100000 in
theorem open_pairs {r : Reach} {b0 : Nat} {v : Value} {d : DataW H} {p : List MemPlace} (hv : Value.okWide Tryz.prog w r b0 22 v) (h : DataW.Trod enc Tryz.prog w 0 (fun _ => true) true 22 v d p)
    (hz : ∀ n ∈ d.weights Tryz.prog 22, n ≤ reachBytes) :
    ∃ (l : List Pr) (ad : Option Addr) (cap : Nat), v = .slice ad l.length cap ∧ PairsIn w (.slice ad l.length cap) l ∧ PairsReach l ∧ l.length ≤ reachBytes := by
  obtain ⟨ad, n, cap0, rfl⟩ := okWide_slice Tryz.underlying22 hv
  obtain ⟨fuel, hf⟩ := h
  have hC : Tryz.prog.cellsOf 27 = 2 := by kernel_rfl
  have empty : n = 0 → ∃ (l : List Pr) (ad2 : Option Addr) (cap : Nat), Value.slice ad n cap0 = .slice ad2 l.length cap ∧ PairsIn w (.slice ad2 l.length cap) l ∧ PairsReach l ∧ l.length ≤ reachBytes := by
    intro h0
    subst h0
    exact ⟨[], ad, cap0, rfl, ⟨ad, cap0, rfl, .inl rfl⟩, (fun _ h => nomatch h), Nat.zero_le _⟩
  rcases open_slice Tryz.underlying22 hf with ⟨hn, -⟩ | ⟨a, len, cap, m, k, D, Pl, hcs, hb, hl, hm, hmm, hx, hi⟩
  · injection hn with hn _
    injection hn with h1 h2 h3
    exact empty h2
  · injection hcs with hcs _
    injection hcs with h1 h2 h3
    subst h1 h2 h3
    by_cases hn0 : n = 0
    · exact empty hn0
    · have hm' : m = cap0 := hmm
      have hd : d = (.slice ((List.range n).map D) ((List.range (m - n)).map fun j => D (n + j))) := congrArg Prod.fst hx
      have hall : ∀ i, ∃ y : Pr, i < n → w.cell? (a.add (i * 2)) = some (.string ⟨y.1.toArray⟩) ∧ w.cell? (a.add (i * 2 + 1)) = some (.string ⟨y.2.toArray⟩) ∧ D i = .agg [.lit (.string y.1), .lit (.string y.2)] := by
        intro i
        by_cases hin : i < n
        · obtain ⟨cs', hc, ht⟩ := hi i (by omega)
          rw [hC] at hc
          obtain ⟨_, hcl, hat⟩ := World.cells?_some hc
          obtain ⟨x, s, rfl, hD⟩ := open_pair ht hcl
          refine ⟨(x, s), fun _ => ⟨?_, ?_, hD⟩⟩
          · have := hat 0 (by omega)
            rw [add_add, Nat.add_zero] at this
            rw [this]; rfl
          · have := hat 1 (by omega)
            rw [add_add] at this
            rw [this]; rfl
        · exact ⟨([], []), fun h => absurd h hin⟩
      obtain ⟨f, hf2⟩ := Classical.axiomOfChoice hall
      have h00 := (hf2 0 (by omega)).1
      have hspot := World.cell?_spot h00
      obtain ⟨ab, ao, asp⟩ := a
      have hasp : asp = none := by simpa [Addr.add] using hspot
      subst hasp
      have add_at : ∀ j, (⟨ab, ao, none⟩ : Addr).add j = ⟨ab, ao + j, none⟩ := by intro j; unfold Addr.add; split <;> simp_all
      have hlen : ((List.range n).map f).length = n := by simp
      have hget : ∀ i (hi : i < ((List.range n).map f).length), ((List.range n).map f)[i] = f i := by intro i hi; simp
      have hw : ∀ q ∈ DataW.weights Tryz.prog 22 d, q ≤ reachBytes := hz
      rw [hd] at hw
      unfold DataW.weights at hw
      rw [Tryz.underlying22] at hw
      simp only [List.mem_cons, List.mem_append, List.length_map, List.length_range] at hw
      refine ⟨(List.range n).map f, some ⟨ab, ao, none⟩, cap0, by rw [hlen], ⟨_, cap0, rfl, .inr ⟨ab, ao, rfl, ?_, ?_⟩⟩, ?_, ?_⟩
      · have : (⟨ab, ao, none⟩ : Addr).block < w.heap.size := by
          rcases Nat.lt_or_ge ab w.heap.size with hl2 | hl2
          · exact hl2
          · exfalso
            rw [add_at] at h00
            unfold World.cell? at h00
            rw [Array.getElem?_eq_none hl2] at h00
            cases h00
        exact this
      · intro i hi
        rw [hget i hi]
        have := hf2 i (by rw [hlen] at hi; exact hi)
        rw [add_at, add_at] at this
        exact ⟨this.1, this.2.1⟩
      · intro p hp
        obtain ⟨i, hi, rfl⟩ := List.mem_map.1 hp
        have hin := List.mem_range.1 hi
        have hDi := (hf2 i hin).2.2
        obtain ⟨q1, q2⟩ := pair_weights (H := H) (f i).1 (f i).2
        rw [← hDi] at q1 q2
        have hmem : D i ∈ (List.range n).map D := List.mem_map.2 ⟨i, hi, rfl⟩
        exact ⟨hw _ (.inr (.inl (weightsAll_mem hmem q1))), hw _ (.inr (.inl (weightsAll_mem hmem q2)))⟩
      · have := hw _ (.inl rfl)
        rw [pair_bytes] at this
        rw [hlen]
        omega
end
end Go.Proofs.YtamenhkbmbaopaaGreatDoor
