/-
  A slice of bytes that came in as an argument.
-/
import Derived.Test.YtmblbmkkeloegaaChecked
import Derived.Test.YtmblbmkkeloegaaRowU
import Derived.Deep.Slices
import Derived.WideKeyArgs
import Derived.SizedLaws
import Derived.Lib.SmallJoins
namespace Go.Proofs.Ytmblbmkkeloegaa
open Go.ChangeShapes Go.WideShapes Go.ChangeAt Go.RowKit Go.Joins Go.Deep Go.WideElems

theorem same_belowU {W W' : World} (hb : Below W.heap.size W W') (p : MemPlace) (hp : p.block < W.heap.size) : W.sameAt W' p := by
  cases p with
  | cell b off => exact hb.cell (p := ⟨b, off, none⟩) hp
  | map b => exact hb.block b hp

section
variable {H : Type} {enc : TypeId × Value → H} {w : World}
set_option maxRecDepth 100000 in
theorem open_u8s {r : Reach} {b0 : Nat} {v : Value} {d : DataW H} {p : List MemPlace} (hv : Value.okWide Try.prog w r b0 36 v) (h : DataW.Trod enc Try.prog w 0 (fun _ => true) true 36 v d p) :
    ∃ (ad : Option Addr) (n cap0 : Nat), v = .slice ad n cap0 ∧ RowAt w ad n ∧ n ≤ maxLen := by
  obtain ⟨ad, n, cap0, rfl⟩ := okWide_slice Try.underlying36 hv
  refine ⟨ad, n, cap0, rfl, ?_⟩
  obtain ⟨fuel, hf⟩ := h
  have hC : Try.prog.cellsOf 5 = 1 := by kernel_rfl
  rcases open_ints Try.underlying36 Try.underlying5 hC hf with ⟨hn, -⟩ | ⟨a, len, cap, zs, hcs, hb, hl, hm, hz, hx, hi, hw⟩
  · injection hn with hn _
    injection hn with h1 h2 h3
    subst h2
    exact ⟨.inl rfl, Nat.zero_le _⟩
  · injection hcs with hcs _
    injection hcs with h1 h2 h3
    subst h1 h2 h3
    have hnz : n ≤ zs.length := by rw [hz]; split <;> omega
    refine ⟨?_, by omega⟩
    by_cases hn0 : n = 0
    · exact .inl hn0
    · right
      have h00 := hi 0 (by omega)
      have hspot := World.cell?_spot h00
      obtain ⟨ab, ao, asp⟩ := a
      have hasp : asp = none := by simpa [Addr.add] using hspot
      subst hasp
      have add_at : ∀ j, (⟨ab, ao, none⟩ : Addr).add j = ⟨ab, ao + j, none⟩ := by intro j; unfold Addr.add; split <;> simp_all
      refine ⟨ab, ao, rfl, ?_, fun i hin => ?_⟩
      · rcases Nat.lt_or_ge ab w.heap.size with hl2 | hl2
        · exact hl2
        · exfalso
          rw [add_at] at h00
          unfold World.cell? at h00
          simp [Array.getElem?_eq_none hl2] at h00
      · have hc := hi i (by omega)
        rw [add_at] at hc
        have hmem : zs.getD i 0 ∈ zs := by
          rw [List.getD_eq_getElem?_getD, List.getElem?_eq_getElem (by omega)]
          exact List.getElem_mem _
        have hwf := hw _ hmem
        generalize zs.getD i 0 = z at *
        simp [Lit.wf, IntKind.min, IntKind.max, IntKind.signed, IntKind.bits] at hwf
        exact ⟨z, by omega, by omega, hc⟩
end
end Go.Proofs.Ytmblbmkkeloegaa
