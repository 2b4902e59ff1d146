/-
  The contract of attrs.Merge: a map is written twice over, its keys are told in their order.
-/
import Derived.Test.YtamenhkbmbaopaaGreatDoorPair
import Derived.Test.YtamenhkbmbaopaaGreatDoorMrgP
import Derived.Test.YtamenhkbmbaopaaGreatDoorIterP
import Derived.Maps.StringElems
namespace Go.Proofs.YtamenhkbmbaopaaGreatDoor
open Go.ChangeShapes Go.WideShapes Go.ChangeAt Go.RowKit Go.Maps

theorem zero_str (w : World) : (zeroValue 9).run Tryz.prog w = .ok (.string ⟨#[]⟩) w := by kernel_rfl
/-- A text in a map that the call owns. -/
theorem run_look {w : World} {b n : Nat} {D : DataW Unit} (h : w.ownsMap Tryz.prog 9 (plainElem Tryz.prog 9) b n D) (k x : List UInt8) (hk : k.length ≤ maxLen)
    (hat : D.atKey (.string k) (.lit (.string [])) = .lit (.string x)) : (Instr.lookup 51 (.map (some b)) (.string ⟨k.toArray⟩) false).run Tryz.prog w = .ok (.string ⟨x.toArray⟩) w := by
  obtain ⟨v, ps, hrun, hv⟩ := h.lookup (t := 51) (string_keyed Tryz.underlying9) Tryz.underlying51 (zero_str w) (plainElem_string Tryz.underlying9 (by simp [ByteArray.size])) (WideMaps.keyOf_string_mk Tryz.underlying9 (s := ⟨k.toArray⟩) (by simpa [ByteArray.size] using hk))
  obtain ⟨s, rfl, hs, -⟩ := plainElem_string_inv Tryz.underlying9 hv
  have hs2 := (congrArg Prod.fst hs).symm.trans hat
  obtain ⟨y, rfl⟩ := str_of s
  simp at hs2
  rw [hrun, hs2]
/-- Texts that a call has gathered. -/
theorem row_keys {w : World} {B n : Nat} {v : Value} {ks : List (List UInt8)} (h : w.ownsRow B 9 1 v n (ks.map Go.Proofs.encStr)) :
    ∃ ad cap, v = .slice ad ks.length cap ∧ ∀ i (hi : i < ks.length), ∃ gb, ad = some ⟨gb, 0, none⟩ ∧ gb < w.heap.size ∧ w.cell? ⟨gb, i, none⟩ = some (.string ⟨ks[i].toArray⟩) := by
  have hn : n = ks.length := by have := h.1; simpa using this.symm
  subst hn
  rcases h.2 with ⟨hv, hz⟩ | ⟨g, cap, cur, hv, -, hg, -⟩
  · exact ⟨none, 0, by rw [hv, hz], fun i hi => by omega⟩
  · refine ⟨_, cap, hv, fun i hi => ⟨g, rfl, ?_, ?_⟩⟩
    · rcases Nat.lt_or_ge g w.heap.size with hl | hl
      · exact hl
      · rw [Array.getElem?_eq_none hl] at hg; cases hg
    · have hc := h.cells (g := g) (by rw [hv]; rfl) i (.string ⟨ks[i].toArray⟩) (by rw [List.getElem?_map, List.getElem?_eq_getElem hi]; rfl)
      have add_at : (⟨g, 0, none⟩ : Addr).add i = ⟨g, i, none⟩ := by unfold Addr.add; split <;> simp_all
      rw [add_at] at hc
      exact hc
theorem OwnP.base {w : World} {B C : Nat} {v : Value} {l : List Pr} (h : OwnP w B v l) (hB : C ≤ B) : OwnP w C v l := by
  refine ⟨h.1, ?_⟩
  rcases h.2 with h | ⟨g, cap, cur, hv, hg, rest⟩
  · exact .inl h
  · exact .inr ⟨g, cap, cur, hv, Nat.le_trans hB hg, rest⟩
theorem OwnP.slice {w : World} {B : Nat} {v : Value} {l : List Pr} (h : OwnP w B v l) : ∃ av cs, v = .slice av l.length cs := by
  rcases h.2 with ⟨h1, h2⟩ | ⟨g, cap, cur, hv, rest⟩
  · exact ⟨none, 0, by rw [h1, h2]⟩
  · exact ⟨_, cap, hv⟩
/-- These records as the map that Merge writes. -/
abbrev OwnM (w : World) (b n : Nat) (l : List Pr) : Prop := w.ownsMap Tryz.prog 9 (plainElem Tryz.prog 9) b n (mData (H := Unit) l)
theorem OwnM.step {w w' : World} {b n : Nat} {l : List Pr} (h : OwnM w b n l) (hb : Below w.heap.size w w') : OwnM w' b n l :=
  World.ownsMap.kept h (row := none) ⟨hb.os, hb.tape, hb.output, hb.size, fun k hk _ => hb.block k hk⟩ (by simp)
theorem OwnM.put {w : World} {b n : Nat} {M : List Pr} {x y : List UInt8} (h : w.ownsMap Tryz.prog 9 (plainElem Tryz.prog 9) b n ((mData (H := Unit) M).put (.string (ByteArray.mk x.toArray).data.toList) (.lit (.string (ByteArray.mk y.toArray).data.toList)))) : OwnM w b n (mPut M (x, y)) := by
  have h2 : w.ownsMap Tryz.prog 9 (plainElem Tryz.prog 9) b n ((mData (H := Unit) M).put (.string x) (.lit (.string y))) := h
  rw [mData_put] at h2
  exact h2
theorem mAll_take {l : List Pr} (M : List Pr) {k : Nat} (hk : k < l.length) : mAll M (l.take (k + 1)) = mPut (mAll M (l.take k)) l[k] := by
  unfold mAll
  rw [List.take_succ_eq_append_getElem hk, List.foldl_append]
  rfl
def full (p : Pr) : Bool := !p.2.isEmpty
theorem filter_take {l : List Pr} {k : Nat} (hk : k < l.length) : (l.take (k + 1)).filter full = (l.take k).filter full ++ (if full l[k] = true then [l[k]] else []) := by
  rw [List.take_succ_eq_append_getElem hk, List.filter_append]
  cases h : full l[k] <;> simp [List.filter, h]

theorem mPut_fits {M : Nat} {l : List Pr} {p : Pr} (h : ∀ q ∈ l, q.1.length ≤ M) (hp : p.1.length ≤ M) : ∀ q ∈ mPut l p, q.1.length ≤ M := by
  intro q hq
  rcases mIns_mem hq with rfl | hq
  · exact hp
  · exact h q (List.mem_filter.1 hq).1
theorem mAll_fits {M : Nat} (g : List Pr) : ∀ l : List Pr, (∀ q ∈ l, q.1.length ≤ M) → (∀ q ∈ g, q.1.length ≤ M) → ∀ q ∈ mAll l g, q.1.length ≤ M := by
  induction g with
  | nil => exact fun l h _ => h
  | cons p g ih => exact fun l h hg => ih _ (mPut_fits h (hg p List.mem_cons_self)) (fun q hq => hg q (List.mem_cons_of_mem _ hq))

set_option maxRecDepth 100000 in
set_option maxHeartbeats 1000000 in
theorem merge_any (g l : List Pr) (ag al : Option Addr) (cg cl : Nat) (w : World) (hg : PairsIn w (.slice ag g.length cg) g) (hl : PairsIn w (.slice al l.length cl) l)
    (hfg : prFits 140737488355328 g) (hfl : prFits 140737488355328 l) (hlen : g.length + l.length ≤ 4398046511104) :
    Calls Tryz.prog 8 #[.slice ag g.length cg, .slice al l.length cl] w fun e w' => Below w.heap.size w w' ∧ ∃ v, e = .returned v ∧ OwnP w' w.heap.size v (mMerge g l) := by
  have Hg := Lib.hid (show ∀ k (hk : k < g.length), ∃ b o, ag = some ⟨b, o, none⟩ ∧ b < w.heap.size ∧ w.cell? ⟨b, o + k * 2, none⟩ = some (.string ⟨g[k].1.toArray⟩) ∧ w.cell? ⟨b, o + k * 2 + 1, none⟩ = some (.string ⟨g[k].2.toArray⟩) by
    intro k hk
    obtain ⟨ad, cap, hv, h⟩ := hg
    cases hv
    rcases h with rfl | ⟨b, o, ha, hb, hp⟩
    · simp at hk
    · exact ⟨b, o, ha, hb, hp k hk⟩)
  have Hl := Lib.hid (show ∀ k (hk : k < l.length), ∃ b o, al = some ⟨b, o, none⟩ ∧ b < w.heap.size ∧ w.cell? ⟨b, o + k * 2, none⟩ = some (.string ⟨l[k].1.toArray⟩) ∧ w.cell? ⟨b, o + k * 2 + 1, none⟩ = some (.string ⟨l[k].2.toArray⟩) by
    intro k hk
    obtain ⟨ad, cap, hv, h⟩ := hl
    cases hv
    rcases h with rfl | ⟨b, o, ha, hb, hp⟩
    · simp at hk
    · exact ⟨b, o, ha, hb, hp k hk⟩)
  have Hfg := Lib.hid hfg
  have Hfg0 := Lib.hid hfg
  have Hfl := Lib.hid hfl
  have Hlen := Lib.hid hlen
  generalize hR : mMerge g l = R
  have HR := Lib.hid hR
  clear hg hl hfg hfl hlen hR
  have hmm := @run_makeMap Tryz.prog
  go_enter Tryz.func8, Tryz.ntmps8
  go_wp2
  go_loopw [16] (fun i wr => ∃ k : Nat, i = .int .i64 k ∧ k ≤ g.length ∧ OwnM wr w.heap.size k (mAll [] (g.take k)) ∧ Below w.heap.size w wr) (fun i _ => g.length - (intOf i).toNat)
  case atStart => exact ⟨0, rfl, Nat.zero_le _, World.ownsMap_made w _ _ _, (Below.refl _ _).alloc (Nat.le_refl _) _⟩
  case round =>
    obtain ⟨k, rfl, hk, hown, hb⟩ := hrel
    have Hown := Lib.hid hown
    have Hb := Lib.hid hb
    clear hown hb
    by_cases hlt : k < g.length
    · obtain ⟨b, o, rfl, hb0, c1, c2⟩ := Hg.out k hlt
      rw [← Hb.out.cell (p := ⟨b, o + k * 2, none⟩) hb0] at c1
      rw [← Hb.out.cell (p := ⟨b, o + k * 2 + 1, none⟩) hb0] at c2
      have Hst := Lib.hid (mAll_take [] hlt)
      have hpf := Hfg.out _ (List.getElem_mem hlt)
      have Hlim := Lib.hid (show k < maxLen by have := Hlen.out; unfold maxLen; omega)
      generalize g[k] = p at *
      obtain ⟨x, y⟩ := p
      simp only at c1 c2 hpf
      have Hkey := Lib.hid (WideMaps.keyOf_string_mk Tryz.underlying9 (s := ⟨x.toArray⟩) (by simp only [ByteArray.size, List.size_toArray]; unfold maxLen; omega))
      have Hval := Lib.hid (plainElem_string (H := Unit) Tryz.underlying9 (s := ⟨y.toArray⟩) (by simp only [ByteArray.size, List.size_toArray]; unfold maxLen; omega))
      clear hpf
      generalize mAll [] (g.take k) = M at *
      have hkb : (k : Int) ≤ 4398046511104 := by have := Hlen.out; omega
      go_wp2_with (first
        | (at_mapUpdate; refine wpList_mapUpdate_own _ rfl _ _ _ 51 rfl 9 9 (string_keyed Tryz.underlying9) Tryz.underlying51 _ w.heap.size k _ rfl (World.ownsMap.alloc Hown.out _) Hlim.out _ _ _ rfl rfl Hkey.out _ [] Hval.out ?_; intro w1 hown1 hgrow1)
        | go_in)
      go_roundw
      case rel => exact ⟨k + 1, by go_num, by omega, by rw [Hst.out]; exact OwnM.put hown1, (Hb.out.alloc Hb.out.size _).grown hgrow1 (by have := Hb.out.size; simp; omega) (fun j hj => by cases hj; exact Nat.le_refl _)⟩
      case measure => simp [intOf]; omega
    · have hkn : k = g.length := by omega
      subst hkn
      rw [List.take_length] at Hown
      clear Hg Hfg
      generalize hG : mAll [] g = G at *
      have HG := Lib.hid hG
      clear hG hlt
      go_wp2
      go_loopw [28] (fun i wr => ∃ k : Nat, i = .int .i64 k ∧ k ≤ l.length ∧ OwnM wr w.heap.size (g.length + k) (mAll G (l.take k)) ∧ Below w.heap.size w wr) (fun i _ => l.length - (intOf i).toNat)
      case atStart => exact ⟨0, rfl, Nat.zero_le _, Hown.out, Hb.out⟩
      case round =>
        obtain ⟨k, rfl, hk, hown, hb⟩ := hrel
        clear Hown Hb
        have Hown := Lib.hid hown
        have Hb := Lib.hid hb
        clear hown hb
        by_cases hlt : k < l.length
        · obtain ⟨b, o, rfl, hb0, c1, c2⟩ := Hl.out k hlt
          rw [← Hb.out.cell (p := ⟨b, o + k * 2, none⟩) hb0] at c1
          rw [← Hb.out.cell (p := ⟨b, o + k * 2 + 1, none⟩) hb0] at c2
          have Hst := Lib.hid (mAll_take G hlt)
          have hpf := Hfl.out _ (List.getElem_mem hlt)
          have Hlim := Lib.hid (show g.length + k < maxLen by have := Hlen.out; unfold maxLen; omega)
          generalize l[k] = p at *
          obtain ⟨x, y⟩ := p
          simp only at c1 c2 hpf
          have Hkey := Lib.hid (WideMaps.keyOf_string_mk Tryz.underlying9 (s := ⟨x.toArray⟩) (by simp only [ByteArray.size, List.size_toArray]; unfold maxLen; omega))
          have Hval := Lib.hid (plainElem_string (H := Unit) Tryz.underlying9 (s := ⟨y.toArray⟩) (by simp only [ByteArray.size, List.size_toArray]; unfold maxLen; omega))
          clear hpf
          generalize mAll G (l.take k) = M at *
          have hkb : (k : Int) ≤ 4398046511104 := by have := Hlen.out; omega
          go_wp2_with (first
            | (at_mapUpdate; refine wpList_mapUpdate_own _ rfl _ _ _ 51 rfl 9 9 (string_keyed Tryz.underlying9) Tryz.underlying51 _ w.heap.size (g.length + k) _ rfl (World.ownsMap.alloc Hown.out _) Hlim.out _ _ _ rfl rfl Hkey.out _ [] Hval.out ?_; intro w1 hown1 hgrow1)
            | go_in)
          go_roundw
          case rel => exact ⟨k + 1, by go_num, by omega, by rw [Hst.out]; exact OwnM.put hown1, (Hb.out.alloc Hb.out.size _).grown hgrow1 (by have := Hb.out.size; simp; omega) (fun j hj => by cases hj; exact Nat.le_refl _)⟩
          case measure => simp [intOf]; omega
        · have hkn : k = l.length := by omega
          subst hkn
          rw [List.take_length] at Hown
          have HR2 := Lib.hid (show (mAll G l).filter full = R by rw [← HG.out]; exact HR.out)
          have Hris := Lib.hid (show Rising (mAll G l) by rw [← HG.out]; exact mAll_rising l _ (mAll_rising g [] List.Pairwise.nil))
          have Hfit := Lib.hid (show ∀ q ∈ mAll G l, q.1.length ≤ 140737488355328 by
            rw [← HG.out]
            exact mAll_fits l _ (mAll_fits g [] (by simp) (fun q hq => by have := Hfg0.out q hq; omega)) (fun q hq => by have := Hfl.out q hq; omega))
          generalize mAll G l = M at *
          clear Hl Hfl HR HG hlt
          have Hsz := Lib.hid (show M.length ≤ 4398046511104 by have h1 := Hown.out.size_le; rw [mData_size] at h1; have := Hlen.out; omega)
          have Hkeys := Lib.hid (callsIn_wide.1 (Tryz.maps_Keys_20 (some w.heap.size) wr))
          go_wp2_with fail
          refine Hkeys.out.mono ?_
          rintro e w1 ⟨rfl, rfl⟩
          have Hsort := Lib.hid (callsIn_wide.1 (Tryz.slices_Sorted_keys_19_20 w.heap.size (g.length + l.length) (mData (H := Unit) M) (plainElem Tryz.prog 9) wr Hown.out (by rw [mData_size]; have := Hsz.out; unfold maxLen; omega) (by rw [mData_size]; have := Hsz.out; omega)))
          clear Hkeys
          go_wp2_with fail
          refine Hsort.out.mono ?_
          rintro e wk ⟨v, ss, rfl, hperm, hrow, -, hbk⟩
          clear Hsort
          rw [mData_keys] at hperm
          rw [sorted_keys Hris.out hperm] at hrow
          have Hbk := Lib.hid (((Below.refl _ _).alloc (Nat.le_refl _) (.cells #[.map (some w.heap.size)] 51) : Below wr.heap.size wr _).trans (hbk.mono (by simp)))
          obtain ⟨ad, cap, rfl, hkeys⟩ := row_keys hrow
          have Hkeys := Lib.hid hkeys
          rw [List.length_map]
          have Hown2 := Lib.hid (Hown.out.step Hbk.out)
          have Hb2 := Lib.hid (Hb.out.trans (Hbk.out.mono Hb.out.size))
          clear hperm hrow hbk hkeys Hown Hb Hbk
          obtain ⟨i0, hi, hz0, hz1, hz2⟩ := info_parts zero_pair
          go_wp2
          go_loopw [10, 42] (fun s i wx => ∃ (k : Nat) (F : List Pr) (av : Option Addr) (cs : Nat), s = .slice av F.length cs ∧ i = .int .i64 k ∧ k ≤ M.length ∧ F = (M.take k).filter full ∧ OwnP wx wk.heap.size (.slice av F.length cs) F ∧ Below wk.heap.size wk wx) (fun _ i _ => M.length - (intOf i).toNat)
          case atStart => exact ⟨0, [], _, _, rfl, rfl, Nat.zero_le _, rfl, World.ownsRow_nil _ _ _ _, Below.refl _ _⟩
          case round =>
            obtain ⟨k, F, av, cs, rfl, rfl, hk, hF, hownp, hbx⟩ := hrel
            have Hownp := Lib.hid hownp
            have Hbx := Lib.hid hbx
            have HF := Lib.hid hF
            clear hownp hbx hF
            by_cases hlt : k < M.length
            · obtain ⟨gb, rfl, hgb, hc⟩ := Hkeys.out k (by simpa using hlt)
              rw [← Hbx.out.cell (p := ⟨gb, k, none⟩) hgb, List.getElem_map] at hc
              have Hst := Lib.hid (show (M.take (k + 1)).filter full = F ++ (if full M[k] = true then [M[k]] else []) by rw [filter_take hlt, ← HF.out])
              have Hlook := Lib.hid (fun z => mData_at (H := Unit) Hris.out (List.getElem_mem hlt) z)
              have hpf := Hfit.out _ (List.getElem_mem hlt)
              have hfl : F.length < 4398046511104 := by
                have h1 := List.length_filter_le full (M.take k)
                rw [List.length_take, ← HF.out] at h1
                have := Hsz.out
                omega
              have Hfl := Lib.hid hfl
              have hkb : (k : Int) ≤ 4398046511104 := by have := Hsz.out; omega
              clear hfl
              generalize M[k] = p at *
              obtain ⟨x, y⟩ := p
              simp only at hc hpf
              have hmax : x.length ≤ maxLen := by unfold maxLen; omega
              have hlk := run_look (OwnM.step Hown2.out Hbx.out) x y hmax (Hlook.out _)
              clear hpf hmax Hlook
              cases y with
              | nil =>
                go_wp2
                go_roundw
                case rel => exact ⟨k + 1, F, av, cs, rfl, by go_num, by omega, by rw [Hst.out]; simp [full], Hownp.out, Hbx.out⟩
                case measure => simp [intOf]; omega
              | cons y0 y =>
                generalize hyy : y0 :: y = yy at *
                have Hyy := Lib.hid (show full (x, yy) = true by rw [← hyy]; rfl)
                have hne : (yy == []) = false := by rw [← hyy]; rfl
                clear hyy
                have hownp := Hownp.out
                go_wp2_with (first | (at_builtin; refine wpList_append_own _ rfl _ _ 22 rfl wk.heap.size 27 i0 (.agg #[.string ⟨#[]⟩, .string ⟨#[]⟩]) 2 32 Tryz.underlying22 hi hz0 hz1 hz2 rfl (by decide) _ _ _ rfl (World.ownsRow.alloc hownp _) ⟨wr.heap.size, 0, none⟩ 1 1 [.string ⟨x.toArray⟩, .string ⟨yy.toArray⟩] rfl rfl ?c1 ?c2 ?c3 ?c4 ?c5 ?_) | go_in)
                case c1 => exact fun j u hj => cell_two_new wr _ _ 27 j u hj
                case c2 => intro u hu; simp only [List.mem_cons, List.mem_nil_iff, or_false] at hu; rcases hu with rfl | rfl <;> rfl
                case c3 => have := Hfl.out; unfold maxLen; omega
                case c4 => have := Hfl.out; omega
                case c5 => have := Hbx.out.size; simp; omega
                intro v' w2 hown2 hgrow hnil
                have hown3 : OwnP w2 wk.heap.size v' (F ++ [(x, yy)]) := by
                  show w2.ownsRow wk.heap.size _ 2 v' (F ++ [(x, yy)]).length (pairCells (F ++ [(x, yy)]))
                  rw [pairCells_append, List.length_append]
                  exact hown2
                have hb3 : Below wk.heap.size wk w2 := (Hbx.out.alloc Hbx.out.size _).grown hgrow (by have := Hbx.out.size; simp; omega) (fun k hk => (hownp.lt k hk).1)
                obtain ⟨av2, cs2, rfl⟩ := hown3.slice
                have Hown3 := Lib.hid hown3
                have Hb3 := Lib.hid hb3
                clear hown2 hgrow hown3 hb3 hownp hnil
                go_wp2
                go_roundw
                case rel => exact ⟨k + 1, _, av2, cs2, rfl, by go_num, by omega, by rw [Hst.out, if_pos Hyy.out], Hown3.out, Hb3.out⟩
                case measure => simp [intOf]; omega
            · have hkn : k = M.length := by omega
              subst hkn
              have hFR : F = R := by rw [HF.out, List.take_length]; exact HR2.out
              subst hFR
              go_wp2
              go_ret
              exact ⟨Hb2.out.trans (Hbx.out.mono Hb2.out.size), _, rfl, Hownp.out.base Hb2.out.size⟩
end Go.Proofs.YtamenhkbmbaopaaGreatDoor
