/-
  A slice of the statement's Spots that came in as an argument.
-/
import Derived.Test.YtlloaalaldomkaaDoorHdC
import Derived.Test.YtlloaalaldomkaaDoorHdZ
import Derived.Deep.Slices
namespace Go.Proofs.YtlloaalaldomkaaDoor
open Go.ChangeShapes Go.WideShapes Go.ChangeAt Go.RowKit Go.Joins Go.Deep Go.WideElems

section
variable {H : Type} {enc : TypeId × Value → H} {w : World} {base : Nat} {spare : Nat → Bool} {held : Bool}
set_option maxRecDepth 100000 in
theorem open_spot {n : Nat} {cs : List Value} {x : DataW H × List MemPlace} (h : DataW.trod enc Tryd.prog w base spare held n 56 cs = some x) (hl : cs.length = 2) :
    ∃ (a : Nat) (s : List UInt8), cs = [.int .u16 a, .string ⟨s.toArray⟩] ∧ a ≤ 65535 := by
  have hs := Tryd.underlying56
  obtain ⟨xs, m, _, hx, _, hlen, hg⟩ := DataW.trod_struct hs h
  match cs, hl with
  | [c0, c1], _ =>
    match xs, hlen with
    | [y0, y1], _ =>
      have cS : Tryd.prog.cellsOf 9 = 1 := by kernel_rfl
      have cI : Tryd.prog.cellsOf 54 = 1 := by kernel_rfl
      have g0 : DataW.trod enc Tryd.prog w base spare held m 54 [c0] = some y0 := by simpa [cI] using hg 0 _ rfl
      have g1 : DataW.trod enc Tryd.prog w base spare held m 9 [c1] = some y1 := by simpa [cS] using hg 1 _ rfl
      obtain ⟨a, e0, rfl, w0⟩ := DataW.trod_int Tryd.underlying54 g0
      obtain ⟨s, e1, rfl, w1⟩ := DataW.trod_string Tryd.underlying9 g1
      obtain ⟨l, rfl⟩ := str_of s
      simp only [List.cons.injEq, and_true] at e0 e1
      subst e0 e1
      have hb := bounds_u16 w0
      exact ⟨a.toNat, l, by rw [show ((a.toNat : Nat) : Int) = a by omega], by omega⟩

set_option maxRecDepth 100000 in
theorem open_spots {r : Reach} {b0 : Nat} {v : Value} {d : DataW H} {p : List MemPlace} (hv : Value.okWide Tryd.prog w r b0 24 v) (h : DataW.Trod enc Tryd.prog w 0 (fun _ => true) true 24 v d p) :
    ∃ (ad : Option Addr) (n cap0 : Nat), v = .slice ad n cap0 ∧ (n = 0 ∨ ∃ (b o : Nat) (at_ : Nat → Nat) (s : Nat → List UInt8), ad = some ⟨b, o, none⟩ ∧ SpotsAt w b o n at_ s ∧ (∀ i, at_ i ≤ 65535) ∧ b < w.heap.size) := by
  obtain ⟨ad, n, cap0, rfl⟩ := okWide_slice Tryd.underlying24 hv
  refine ⟨ad, n, cap0, rfl, ?_⟩
  obtain ⟨fuel, hf⟩ := h
  have hC : Tryd.prog.cellsOf 56 = 2 := by kernel_rfl
  rcases open_slice Tryd.underlying24 hf with ⟨hn, -⟩ | ⟨a, len, cap, m, k, D, Pl, hcs, hb, hl, hm, hmm, hx, hi⟩
  · injection hn with hn _
    injection hn with h1 h2 h3
    exact .inl h2
  · injection hcs with hcs _
    injection hcs with h1 h2 h3
    subst h1 h2 h3
    by_cases hn0 : n = 0
    · exact .inl hn0
    · right
      have hm' : m = cap0 := hmm
      have hall : ∀ i, ∃ y : Nat × List UInt8, y.1 ≤ 65535 ∧ (i < n → w.cell? (a.add (i * 2)) = some (.int .u16 y.1) ∧ w.cell? (a.add (i * 2 + 1)) = some (.string ⟨y.2.toArray⟩)) := by
        intro i
        by_cases hin : i < n
        · obtain ⟨cs', hc, ht⟩ := hi i (by omega)
          rw [hC] at hc
          obtain ⟨_, hcl, hat⟩ := World.cells?_some hc
          obtain ⟨x, s, rfl, hx5⟩ := open_spot ht hcl
          refine ⟨(x, s), hx5, fun _ => ⟨?_, ?_⟩⟩
          · have := hat 0 (by omega)
            rw [add_add, Nat.add_zero] at this
            rw [this]; rfl
          · have := hat 1 (by omega)
            rw [add_add] at this
            rw [this]; rfl
        · exact ⟨(0, []), by omega, fun h => absurd h hin⟩
      obtain ⟨f, hf2⟩ := Classical.axiomOfChoice hall
      have h00 := ((hf2 0).2 (by omega)).1
      have hspot := World.cell?_spot h00
      obtain ⟨ab, ao, asp⟩ := a
      have hasp : asp = none := by simpa [Addr.add] using hspot
      subst hasp
      refine ⟨ab, ao, fun i => (f i).1, fun i => (f i).2, rfl, ?_, fun i => (hf2 i).1, ?_⟩
      · intro i hin
        have := (hf2 i).2 hin
        have add_at : ∀ j, (⟨ab, ao, none⟩ : Addr).add j = ⟨ab, ao + j, none⟩ := by intro j; unfold Addr.add; split <;> simp_all
        rw [add_at, add_at] at this
        exact this
      · have := cell_lt h00
        simpa [Addr.add] using this
theorem spoilt_of {ad : Option Addr} {n cap0 : Nat} {sl : Bool} (h : n = 0 ∨ ∃ (b o : Nat) (at_ : Nat → Nat) (s : Nat → List UInt8), ad = some ⟨b, o, none⟩ ∧ SpotsAt w b o n at_ s ∧ (∀ i, at_ i ≤ 65535) ∧ b < w.heap.size) :
    n ≤ 20 → ∀ B : List UInt8, B.length = 512 → ∀ w1 : World, Below w.heap.size w w1 → Calls Tryd.prog 10 #[.string ⟨B.toArray⟩, .slice ad n cap0, .bool sl] w1 fun e w' => Below w1.heap.size w1 w' ∧ ∃ x : List UInt8, e = .returned (.string ⟨x.toArray⟩) := by
  intro hn B hB w1 hb
  rcases h with rfl | ⟨b, o, at_, s, rfl, hs, ha, hbw⟩
  · exact spoilt_nil B hB ad cap0 sl w1
  · exact spoilt_any B hB b o n cap0 at_ s sl w1 ha hn (hs.under hb hbw) (Nat.lt_of_lt_of_le hbw hb.size)
theorem same_below {W W' : World} (hb : Below W.heap.size W W') (p : MemPlace) (hp : p.block < W.heap.size) : W.sameAt W' p := by
  cases p with
  | cell b off => exact hb.cell (p := ⟨b, off, none⟩) hp
  | map b => exact hb.block b hp
end
end Go.Proofs.YtlloaalaldomkaaDoor
