/-
  A slice of the statement's calls that came in as an argument.
-/
import Derived.Test.YtmblbmkkeloegaaFeedPlaysW
import Derived.Test.YtmblbmkkeloegaaByS
namespace Go.Proofs.Ytmblbmkkeloegaa
open Go.ChangeShapes Go.WideShapes Go.ChangeAt Go.RowKit Go.Joins Go.Deep Go.WideElems

section
variable {H : Type} {enc : TypeId × Value → H} {w : World} {base : Nat} {spare : Nat → Bool} {held : Bool}
set_option maxRecDepth 100000 in
theorem open_op {n : Nat} {cs : List Value} {x : DataW H × List MemPlace} (h : DataW.trod enc Try.prog w base spare held n 29 cs = some x) (hl : cs.length = 3) :
    ∃ (a b : Int) (s : List UInt8), cs = [.int .i64 a, .int .i64 b, .string ⟨s.toArray⟩] ∧ s.length ≤ maxLen := by
  have hs := Try.underlying29
  obtain ⟨xs, m, _, hx, _, hlen, hg⟩ := DataW.trod_struct hs h
  match cs, hl with
  | [c0, c1, c2], _ =>
    match xs, hlen with
    | [y0, y1, y2], _ =>
      have cS : Try.prog.cellsOf 9 = 1 := by kernel_rfl
      have cI : Try.prog.cellsOf 3 = 1 := by kernel_rfl
      have g0 : DataW.trod enc Try.prog w base spare held m 3 [c0] = some y0 := by simpa [cI] using hg 0 _ rfl
      have g1 : DataW.trod enc Try.prog w base spare held m 3 [c1] = some y1 := by simpa [cI] using hg 1 _ rfl
      have g2 : DataW.trod enc Try.prog w base spare held m 9 [c2] = some y2 := by simpa [cS, cI] using hg 2 _ rfl
      obtain ⟨a, e0, rfl, w0⟩ := DataW.trod_int Try.underlying3 g0
      obtain ⟨b, e1, rfl, w1⟩ := DataW.trod_int Try.underlying3 g1
      obtain ⟨s, e2, rfl, w2⟩ := DataW.trod_string Try.underlying9 g2
      obtain ⟨l, rfl⟩ := str_of s
      simp only [List.cons.injEq, and_true] at e0 e1 e2
      subst e0 e1 e2
      exact ⟨a, b, l, rfl, w2⟩

set_option maxRecDepth 100000 in
theorem open_ops {r : Reach} {b0 : Nat} {v : Value} {d : DataW H} {p : List MemPlace} (hv : Value.okWide Try.prog w r b0 22 v) (h : DataW.Trod enc Try.prog w 0 (fun _ => true) true 22 v d p) :
    ∃ (ad : Option Addr) (n cap0 : Nat), v = .slice ad n cap0 ∧ feedPlays.OpsAt w ad n ∧ n ≤ 9223372036854775807 := by
  obtain ⟨ad, n, cap0, rfl⟩ := okWide_slice Try.underlying22 hv
  refine ⟨ad, n, cap0, rfl, ?_⟩
  obtain ⟨fuel, hf⟩ := h
  have hC : Try.prog.cellsOf 29 = 3 := by kernel_rfl
  rcases open_slice Try.underlying22 hf with ⟨hn, -⟩ | ⟨a, len, cap, m, k, D, Pl, hcs, hb, hl, hm, hmm, hx, hi⟩
  · injection hn with hn _
    injection hn with h1 h2 h3
    subst h2
    exact ⟨.inl rfl, by omega⟩
  · injection hcs with hcs _
    injection hcs with h1 h2 h3
    subst h1 h2 h3
    have hm' : m = cap0 := hmm
    refine ⟨?_, ?_⟩
    · by_cases hn0 : n = 0
      · exact .inl hn0
      · right
        have hall : ∀ i, i < n → ∃ (q z : Int) (s : List UInt8), s.length ≤ maxLen ∧ w.cell? (a.add (i * 3)) = some (.int .i64 q) ∧ w.cell? (a.add (i * 3 + 1)) = some (.int .i64 z) ∧ w.cell? (a.add (i * 3 + 2)) = some (.string ⟨s.toArray⟩) := by
          intro i hin
          obtain ⟨cs', hc, ht⟩ := hi i (by omega)
          rw [hC] at hc
          obtain ⟨_, hcl, hat⟩ := World.cells?_some hc
          obtain ⟨x, z, s, rfl, hs5⟩ := open_op ht hcl
          refine ⟨x, z, s, hs5, ?_, ?_, ?_⟩
          · have := hat 0 (by omega)
            rw [add_add, Nat.add_zero] at this
            rw [this]; rfl
          · have := hat 1 (by omega)
            rw [add_add] at this
            rw [this]; rfl
          · have := hat 2 (by omega)
            rw [add_add] at this
            rw [this]; rfl
        obtain ⟨q0, z0, s0, _, h00, _⟩ := hall 0 (by omega)
        have hspot := World.cell?_spot h00
        obtain ⟨ab, ao, asp⟩ := a
        have hasp : asp = none := by simpa [Addr.add] using hspot
        subst hasp
        have add_at : ∀ j, (⟨ab, ao, none⟩ : Addr).add j = ⟨ab, ao + j, none⟩ := by intro j; unfold Addr.add; split <;> simp_all
        refine ⟨ab, ao, rfl, ?_, fun i hin => ?_⟩
        · rcases Nat.lt_or_ge ab w.heap.size with hl2 | hl2
          · exact hl2
          · exfalso
            rw [add_at] at h00
            unfold World.cell? at h00
            simp [Array.getElem?_eq_none hl2] at h00
        · obtain ⟨q, z, s, hs5, e0, e1, e2⟩ := hall i hin
          rw [add_at] at e0 e1 e2
          exact ⟨q, z, s, hs5, e0, by rw [Nat.add_assoc]; exact e1, by rw [Nat.add_assoc]; exact e2⟩
    · have : maxLen ≤ 9223372036854775807 := by decide
      omega
end
end Go.Proofs.Ytmblbmkkeloegaa
