/-
  Contract of record.Parse.
-/
import Derived.Test.YtafglickbaeoeaaDoorRecE
import Derived.WalkMore
import Derived.ScopeJumps
import Derived.Laws.AppendOwn
namespace Go.Proofs.YtafglickbaeoeaaDoor
open Go.ChangeShapes Go.WideShapes Go.ChangeAt Go.RowKit

theorem wp_scope_pass {P : Program} {c rest : Code} {a : Act} {w : World} {Q : Exit → Act → World → Prop} (l : Nat) (J : Act → World → Prop) (μ : Act → World → Nat) (hf : findLabel c l = some (Code.skip.seq rest))
    (first : (∀ a w, J a w → rest.wp P (Exit.jump l J Q) a w) → c.wp P (Exit.jump l J Q) a w)
    (pass : ∀ a w, J a w → rest.wp P (Exit.jump l (fun a' w' => J a' w' ∧ μ a' w' < μ a w) Q) a w) : (Code.scope c).wp P Q a w :=
  wp_scope_jumps l J μ hf (first fun a w h => Code.wp_mono (fun e a' w' hq => by
    cases e <;> first | exact hq | exact ⟨hq.1, hq.2.1⟩) (pass a w h)) fun a w h => wp_seq (wp_skip (pass a w h))

def pairCells (l : List Pr) : List Value := l.flatMap fun p => [.string ⟨p.1.toArray⟩, .string ⟨p.2.toArray⟩]
theorem pairCells_append (x y : List Pr) : pairCells (x ++ y) = pairCells x ++ pairCells y := by simp [pairCells]
theorem pairCells_length (l : List Pr) : (pairCells l).length = l.length * 2 := by
  induction l with
  | nil => rfl
  | cons p l ih => show (_ :: _ :: pairCells l).length = _; simp [ih]; omega
theorem pairCells_get (l : List Pr) : ∀ i (h : i < l.length), (pairCells l)[i * 2]? = some (.string ⟨l[i].1.toArray⟩) ∧ (pairCells l)[i * 2 + 1]? = some (.string ⟨l[i].2.toArray⟩) := by
  induction l with
  | nil => intro i h; simp at h
  | cons p l ih =>
    intro i h
    rcases i with _ | i
    · exact ⟨rfl, rfl⟩
    · have := ih i (by simpa using h)
      have e : (i + 1) * 2 = i * 2 + 1 + 1 := by omega
      rw [e]
      exact this
theorem zero_pair : (Tryd.prog.info? 25).map (fun i => (i.zero, i.size, i.bytes)) = some (some (.agg #[.string ⟨#[]⟩, .string ⟨#[]⟩]), 2, 32) := by kernel_rfl
/-- Records that a call has gathered. -/
abbrev OwnP (w : World) (B : Nat) (v : Value) (l : List Pr) : Prop := w.ownsRow B 25 2 v l.length (pairCells l)
theorem OwnP.pairs {w : World} {B : Nat} {v : Value} {l : List Pr} (h : OwnP w B v l) : PairsIn w v l := by
  rcases h.2 with ⟨hv, hn⟩ | ⟨g, cap, cur, hv, _, hg, _, _, _, _⟩
  · have : l = [] := List.length_eq_zero_iff.1 hn
    subst this
    exact ⟨none, 0, hv, .inl rfl⟩
  · refine ⟨_, cap, hv, .inr ⟨g, 0, rfl, ?_, ?_⟩⟩
    · rcases Nat.lt_or_ge g w.heap.size with hl | hl
      · exact hl
      · rw [Array.getElem?_eq_none hl] at hg; cases hg
    · intro i hi
      have hc := h.cells (g := g) (by rw [hv]; rfl)
      obtain ⟨p1, p2⟩ := pairCells_get l i hi
      have add_at : ∀ j, (⟨g, 0, none⟩ : Addr).add j = ⟨g, 0 + j, none⟩ := by intro j; unfold Addr.add; split <;> simp_all
      have h1 := hc _ _ p1
      have h2 := hc _ _ p2
      rw [add_at] at h1 h2
      exact ⟨h1, by rw [Nat.add_assoc]; exact h2⟩
theorem OwnP.step {w w' : World} {B : Nat} {v : Value} {l : List Pr} (h : OwnP w B v l) (hb : Below w.heap.size w w') : OwnP w' B v l :=
  h.kept (row := none) ⟨hb.os, hb.tape, hb.output, hb.size, fun k hk _ => hb.block k hk⟩ (by rcases h : v.ownBlock with _ | g; exact .inl rfl; exact .inr (by simp))
theorem cell_two_new (w : World) (x y : Value) (t : TypeId) : ∀ j u, [x, y][j]? = some u → (w.alloc (.cells #[x, y] t)).cell? ((⟨w.heap.size, 0, none⟩ : Addr).add j) = some u := by
  intro j u h
  have hh := Holds.new w t [x, y]
  have add_at : (⟨w.heap.size, 0, none⟩ : Addr).add j = ⟨w.heap.size, j, none⟩ := by unfold Addr.add; split <;> simp_all
  rw [add_at]
  have hj : j < 2 := by
    rcases Nat.lt_or_ge j 2 with hl | hl
    · exact hl
    · rw [List.getElem?_eq_none (by simpa using hl)] at h; cases h
  have := hh.cell (i := j) (by simpa using hj)
  rw [List.getElem?_eq_getElem (by simpa using hj)] at h
  injection h with h
  rw [← h]
  exact this
theorem OwnP.two {w : World} {B : Nat} {v : Value} {l : List Pr} {a b : Obj} (h : OwnP w B v l) : OwnP ((w.alloc a).alloc b) B v l := World.ownsRow.alloc (World.ownsRow.alloc h a) b
theorem PairsIn.nil (w : World) : PairsIn w (.slice none 0 0) [] := ⟨none, 0, rfl, .inl rfl⟩

set_option maxRecDepth 100000 in
set_option maxHeartbeats 2000000 in
theorem parse_any (s : List UInt8) (w : World) (hs : s.length ≤ 140737488355328) :
    Calls Tryd.prog 14 #[.string ⟨s.toArray⟩] w fun e w' => Below w.heap.size w w' ∧ ∃ v, e = .returned (.tuple #[v, .int .i64 (rParse s).2]) ∧ PairsIn w' v (rParse s).1 := by
  by_cases hbig : 65536 < s.length
  · have Hq := Lib.hid (show rParse s = ([], 12) from if_pos hbig)
    have h1 : (65536 : Int) < s.length := by omega
    clear hbig
    go_enter Tryd.func14, Tryd.ntmps14
    go_wp2
    refine wp_scope_pass 0 (fun a w => False) (fun _ _ => 0) rfl ?_ (fun _ _ h => h.elim)
    intro _
    go_wp2
    simp only [Exit.jump]
    go_ret2
    rw [Hq.out]
    exact ⟨Below.refl _ _, _, rfl, PairsIn.nil _⟩
  · have h1 : ¬ (65536 : Int) < s.length := by omega
    have HR := Lib.hid (show rGo 256 [] s = rParse s from (if_neg hbig).symm)
    generalize rParse s = R at *
    clear hbig
    go_enter Tryd.func14, Tryd.ntmps14
    go_wp2
    refine wp_scope_pass 0 (fun a' w' => ∃ (acc : List Pr) (t : List UInt8) (v u5 u6 u7 u11 u12 u13 u14 u15 u16 u17 u18 u19 u20 u21 u22 u23 u24 u25 u26 u27 u28 u29 u30 u31 u32 : Value),
      a' = { tmps := #[.string ⟨t.toArray⟩, undef, .slice none 0 0, .int .i64 0, v, u5, u6, u7, .string ⟨s.toArray⟩, .int .i64 s.length, .bool (decide ((65536 : Int) < s.length)), u11, u12, u13, u14, u15, u16, u17, u18, u19, u20, u21, u22, u23, u24, u25, u26, u27, u28, u29, u30, u31, u32], defers := [] } ∧
      rGo (256 - acc.length) acc t = R ∧ acc.length ≤ 256 ∧ t.length ≤ 65536 ∧ OwnP w' w.heap.size v acc ∧ Below w.heap.size w w') (fun a' _ => match a'.tmps.getD 0 undef with | .string b => b.size | _ => 0) rfl ?_ ?_
    · intro hp
      go_wp2
      go_step3
      simp only [Exit.then]
      apply_assumption
      exact hp _ _ ⟨[], s, _, _, _, _, _, _, _, _, _, _, _, _, _, _, _, _, _, _, _, _, _, _, _, _, _, _, rfl, HR.out, by simp, by omega, World.ownsRow_nil _ _ _ _, Below.refl _ _⟩
    · obtain ⟨i0, hi, hz0, hz1, hz2⟩ := info_parts zero_pair
      rintro a' wr ⟨acc, t, v, u5, u6, u7, u11, u12, u13, u14, u15, u16, u17, u18, u19, u20, u21, u22, u23, u24, u25, u26, u27, u28, u29, u30, u31, u32, rfl, hgo, hacc, ht, hown, hb⟩
      have Hgo := Lib.hid hgo
      have Hown := Lib.hid hown
      have Hb := Lib.hid hb
      obtain ⟨ad, cap, hv⟩ : ∃ ad cap, v = .slice ad acc.length cap := by
        rcases hown.2 with ⟨hv, hn⟩ | ⟨g, cap, cur, hv, _⟩
        · exact ⟨none, 0, by rw [hv, hn]⟩
        · exact ⟨_, _, hv⟩
      clear hgo hown hb
      by_cases htn : t = []
      · subst htn
        have Hq := Lib.hid (show R = (acc, 0) by rw [← Hgo.out, rGo_nil])
        subst hv
        go_wp2
        simp only [Exit.jump]
        go_ret2
        rw [Hq.out]
        exact ⟨Hb.out, _, rfl, Hown.out.pairs⟩
      · have htne : t.isEmpty = false := by simpa using htn
        by_cases hfull : acc.length = 256
        · have Hq := Lib.hid (show R = ([], 8) by rw [← Hgo.out, hfull, Nat.sub_self, rGo_full _ _ htn])
          subst hv
          rw [hfull]
          go_wp2
          simp only [Exit.jump]
          go_ret2
          rw [Hq.out]
          exact ⟨Hb.out, _, rfl, PairsIn.nil _⟩
        · have hnf : ((acc.length : Int) == 256) = false := by rw [beq_eq_false_iff_ne]; omega
          obtain ⟨f, hf⟩ : ∃ f, 256 - acc.length = f + 1 := ⟨255 - acc.length, by omega⟩
          have Hfi := Lib.hid (fun w1 => first_any t w1 (by unfold maxLen; omega) (by omega))
          rcases hr : rFirst t with e | ⟨p, n⟩
          · have Hq := Lib.hid (show R = ([], e) by rw [← Hgo.out, hf, rGo_bad _ _ _ htn hr])
            rw [hr] at Hfi
            have he := rFirst_bad hr
            clear hr htn hfull
            unfold first3 at Hfi
            simp only at Hfi
            subst hv
            rcases he with rfl | rfl
            all_goals
              go_wp2_with fail
              refine (Hfi.out _).mono ?_
              rintro e w1 ⟨hb1, rfl⟩
              have Hb1 := Lib.hid (Hb.out.trans (hb1.mono Hb.out.size))
              clear hb1
              go_wp2
              simp only [Exit.jump]
              go_ret2
              rw [Hq.out]
              exact ⟨Hb1.out.alloc Hb1.out.size _, _, rfl, PairsIn.nil _⟩
          · have Hq := Lib.hid (show rGo f (acc ++ [p]) (t.drop n) = R by rw [← Hgo.out, hf, rGo_ok _ _ _ htn hr])
            rw [hr] at Hfi
            obtain ⟨n1, n2, n3, n4, n5⟩ := rFirst_ok hr
            clear hr htn hfull n3 n4
            unfold first3 prVal at Hfi
            simp only at Hfi
            obtain ⟨k, x⟩ := p
            simp only at Hfi n5
            go_wp2_with fail
            refine (Hfi.out _).mono ?_
            rintro e w1 ⟨hb1, rfl⟩
            have Hb1 := Lib.hid (Hb.out.trans (hb1.mono Hb.out.size))
            have Hown1 := Lib.hid (Hown.out.step hb1)
            clear hb1
            have hown1 := Hown1.out
            subst hv
            have hn256 : acc.length + 1 ≤ 256 := by omega
            have hns : (0 : Int) ≤ (n : Int) := by omega
            have hnt : (n : Int) ≤ t.length := by omega
            go_wp2_with (at_builtin; refine wpList_append_own _ rfl _ _ 22 rfl w.heap.size 25 i0 (.agg #[.string ⟨#[]⟩, .string ⟨#[]⟩]) 2 32 Tryd.underlying22 hi hz0 hz1 hz2 rfl (by decide) _ _ _ rfl (OwnP.two hown1) ⟨w1.heap.size + 1, 0, none⟩ 1 1 [.string ⟨k.toArray⟩, .string ⟨x.toArray⟩] rfl rfl ?c1 ?c2 ?c3 ?c4 ?c5 ?_)
            case c1 =>
              intro j u hj
              have h := cell_two_new (w1.alloc (.cells #[.string ⟨k.toArray⟩, .string ⟨x.toArray⟩] 25)) _ _ 25 j u hj
              rw [show (w1.alloc (.cells #[.string ⟨k.toArray⟩, .string ⟨x.toArray⟩] 25)).heap.size = w1.heap.size + 1 by simp] at h
              exact h
            case c2 => intro u hu; simp only [List.mem_cons, List.mem_nil_iff, or_false] at hu; rcases hu with rfl | rfl <;> rfl
            case c3 => unfold maxLen; omega
            case c4 => omega
            case c5 => have := Hb1.out.size; simp; omega
            intro v' w2 hown2 hgrow _
            have hown3 : OwnP w2 w.heap.size v' (acc ++ [(k, x)]) := by
              show w2.ownsRow w.heap.size _ 2 v' (acc ++ [(k, x)]).length (pairCells (acc ++ [(k, x)]))
              rw [pairCells_append, List.length_append]
              exact hown2
            have hb2 : Below w.heap.size w w2 := by
              have hs1 := Hb1.out.size
              have ha : Below w.heap.size w ((w1.alloc (.cells #[.string ⟨k.toArray⟩, .string ⟨x.toArray⟩] 25)).alloc (.cells #[.string ⟨k.toArray⟩, .string ⟨x.toArray⟩] 25)) := (Hb1.out.alloc Hb1.out.size _).alloc (by simp; omega) _
              exact ha.grown hgrow (by simp; omega) (fun k hk => (hown1.lt k hk).1)
            have Hown3 := Lib.hid hown3
            have Hb2 := Lib.hid hb2
            have hsl : ∀ W : World, (Instr.slice 9 (.string ⟨t.toArray⟩) (some (.int .i64 (n : Int))) none none).run Tryd.prog W = .ok (.string ⟨(t.drop n).toArray⟩) W := by
              intro W
              have hr := run_slice_string_from_if (P := Tryd.prog) (w := W) 9 ⟨t.toArray⟩ .i64 (n : Int) Tryd.underlying9
              rw [if_pos ⟨by omega, by simp [ByteArray.size]; omega⟩, str_extract, Int.toNat_natCast, List.take_of_length_le (by rw [List.length_drop]; simp [ByteArray.size])] at hr
              exact hr
            clear hown2 hgrow hown1 hown3 hb2
            go_wp2
            go_step3
            refine ⟨rfl, ⟨acc ++ [(k, x)], t.drop n, _, _, _, _, _, _, _, _, _, _, _, _, _, _, _, _, _, _, _, _, _, _, _, _, _, _, rfl, ?_, by simp; omega, by rw [List.length_drop]; omega, Hown3.out, Hb2.out⟩, ?_⟩
            · rw [List.length_append, show 256 - (acc.length + [(k, x)].length) = f by simp; omega]
              exact Hq.out
            · show (ByteArray.mk (t.drop n).toArray).size < (ByteArray.mk t.toArray).size
              simp only [ByteArray.size, List.size_toArray, List.length_drop]
              omega
end Go.Proofs.YtafglickbaeoeaaDoor
