/-
  Texts of this seat's proof, joined: their order is that of the build.
-/
import Derived.Test.YtjmmecokfijglaaGreatDoorJB15
import Derived.Maps.StringElems
import Derived.Deep.DeepCutAuto
import Derived.Deep.CutBlock
import Derived.Deep.QuietTactic
import Derived.BigQuiet
namespace Go.Proofs.YtjmmecokfijglaaGreatDoor
open Go.ChangeShapes Go.WideShapes Go.ChangeAt Go.RowKit Go.Maps

theorem zero_str (w : World) : (zeroValue 9).run Tryz.prog w = .ok (.string ⟨#[]⟩) w := by kernel_rfl
/-- A text in a map that the call owns. -/
theorem run_look {w : World} {b n : Nat} {D : DataW Unit} (h : w.ownsMap Tryz.prog 9 (plainElem Tryz.prog 9) b n D) (k x : List UInt8) (hk : k.length ≤ maxLen)
    (hat : D.atKey (.string k) (.lit (.string [])) = .lit (.string x)) : (Instr.lookup 70 (.map (some b)) (.string ⟨k.toArray⟩) false).run Tryz.prog w = .ok (.string ⟨x.toArray⟩) w := by
  obtain ⟨v, ps, hrun, hv⟩ := h.lookup (t := 70) (string_keyed Tryz.underlying9) Tryz.underlying70 (zero_str w) (plainElem_string Tryz.underlying9 (by simp [ByteArray.size])) (WideMaps.keyOf_string_mk Tryz.underlying9 (s := ⟨k.toArray⟩) (by simpa [ByteArray.size] using hk))
  obtain ⟨s, rfl, hs, -⟩ := plainElem_string_inv Tryz.underlying9 hv
  have hs2 := (congrArg Prod.fst hs).symm.trans hat
  obtain ⟨y, rfl⟩ := str_of s
  simp at hs2
  rw [hrun, hs2]
/-- Texts that a call has gathered. -/
theorem row_keys {w : World} {B n : Nat} {v : Value} {ks : List (List UInt8)} (h : w.ownsRow B 9 1 v n (ks.map Go.Proofs.encStr)) :
    ∃ ad cap, v = .slice ad ks.length cap ∧ ∀ i (hi : i < ks.length), ∃ gb, ad = some ⟨gb, 0, none⟩ ∧ gb < w.heap.size ∧ w.cell? ⟨gb, i, none⟩ = some (.string ⟨ks[i].toArray⟩) := by
  have hn : n = ks.length := by have := h.1; simpa using this.symm
  subst hn
  rcases h.2 with ⟨hv, hz⟩ | ⟨g, cap, cur, hv, -, hg, -⟩
  · exact ⟨none, 0, by rw [hv, hz], fun i hi => by omega⟩
  · refine ⟨_, cap, hv, fun i hi => ⟨g, rfl, ?_, ?_⟩⟩
    · rcases Nat.lt_or_ge g w.heap.size with hl | hl
      · exact hl
      · rw [Array.getElem?_eq_none hl] at hg; cases hg
    · have hc := h.cells (g := g) (by rw [hv]; rfl) i (.string ⟨ks[i].toArray⟩) (by rw [List.getElem?_map, List.getElem?_eq_getElem hi]; rfl)
      have add_at : (⟨g, 0, none⟩ : Addr).add i = ⟨g, i, none⟩ := by unfold Addr.add; split <;> simp_all
      rw [add_at] at hc
      exact hc
theorem OwnP.base {w : World} {B C : Nat} {v : Value} {l : List Pr} (h : OwnP w B v l) (hB : C ≤ B) : OwnP w C v l := by
  refine ⟨h.1, ?_⟩
  rcases h.2 with h | ⟨g, cap, cur, hv, hg, rest⟩
  · exact .inl h
  · exact .inr ⟨g, cap, cur, hv, Nat.le_trans hB hg, rest⟩
theorem OwnP.slice {w : World} {B : Nat} {v : Value} {l : List Pr} (h : OwnP w B v l) : ∃ av cs, v = .slice av l.length cs := by
  rcases h.2 with ⟨h1, h2⟩ | ⟨g, cap, cur, hv, rest⟩
  · exact ⟨none, 0, by rw [h1, h2]⟩
  · exact ⟨_, cap, hv⟩
/-- These records as the map that Merge writes. -/
abbrev OwnM (w : World) (b n : Nat) (l : List Pr) : Prop := w.ownsMap Tryz.prog 9 (plainElem Tryz.prog 9) b n (mData (H := Unit) l)
theorem OwnM.step {w w' : World} {b n : Nat} {l : List Pr} (h : OwnM w b n l) (hb : Below w.heap.size w w') : OwnM w' b n l :=
  World.ownsMap.kept h (row := none) ⟨hb.os, hb.tape, hb.output, hb.size, fun k hk _ => hb.block k hk⟩ (by simp)
theorem OwnM.put {w : World} {b n : Nat} {M : List Pr} {x y : List UInt8} (h : w.ownsMap Tryz.prog 9 (plainElem Tryz.prog 9) b n ((mData (H := Unit) M).put (.string (ByteArray.mk x.toArray).data.toList) (.lit (.string (ByteArray.mk y.toArray).data.toList)))) : OwnM w b n (mPut M (x, y)) := by
  have h2 : w.ownsMap Tryz.prog 9 (plainElem Tryz.prog 9) b n ((mData (H := Unit) M).put (.string x) (.lit (.string y))) := h
  rw [mData_put] at h2
  exact h2
theorem mAll_take {l : List Pr} (M : List Pr) {k : Nat} (hk : k < l.length) : mAll M (l.take (k + 1)) = mPut (mAll M (l.take k)) l[k] := by
  unfold mAll
  rw [List.take_succ_eq_append_getElem hk, List.foldl_append]
  rfl
def full (p : Pr) : Bool := !p.2.isEmpty
theorem filter_take {l : List Pr} {k : Nat} (hk : k < l.length) : (l.take (k + 1)).filter full = (l.take k).filter full ++ (if full l[k] = true then [l[k]] else []) := by
  rw [List.take_succ_eq_append_getElem hk, List.filter_append]
  cases h : full l[k] <;> simp [List.filter, h]

theorem mPut_fits {M : Nat} {l : List Pr} {p : Pr} (h : ∀ q ∈ l, q.1.length ≤ M) (hp : p.1.length ≤ M) : ∀ q ∈ mPut l p, q.1.length ≤ M := by
  intro q hq
  rcases mIns_mem hq with rfl | hq
  · exact hp
  · exact h q (List.mem_filter.1 hq).1
theorem mAll_fits {M : Nat} (g : List Pr) : ∀ l : List Pr, (∀ q ∈ l, q.1.length ≤ M) → (∀ q ∈ g, q.1.length ≤ M) → ∀ q ∈ mAll l g, q.1.length ≤ M := by
  induction g with
  | nil => exact fun l h _ => h
  | cons p g ih => exact fun l h hg => ih _ (mPut_fits h (hg p List.mem_cons_self)) (fun q hq => hg q (List.mem_cons_of_mem _ hq))

set_option maxRecDepth 100000 in
set_option maxHeartbeats 1000000 in
theorem merge_any (g l : List Pr) (ag al : Option Addr) (cg cl : Nat) (w : World) (hg : PairsIn w (.slice ag g.length cg) g) (hl : PairsIn w (.slice al l.length cl) l)
    (hfg : prFits 140737488355328 g) (hfl : prFits 140737488355328 l) (hlen : g.length + l.length ≤ 4398046511104) :
    Calls Tryz.prog 10 #[.slice ag g.length cg, .slice al l.length cl] w fun e w' => Below w.heap.size w w' ∧ ∃ v, e = .returned v ∧ OwnP w' w.heap.size v (mMerge g l) := by
  have Hg := Lib.hid (show ∀ k (hk : k < g.length), ∃ b o, ag = some ⟨b, o, none⟩ ∧ b < w.heap.size ∧ w.cell? ⟨b, o + k * 2, none⟩ = some (.string ⟨g[k].1.toArray⟩) ∧ w.cell? ⟨b, o + k * 2 + 1, none⟩ = some (.string ⟨g[k].2.toArray⟩) by
    intro k hk
    obtain ⟨ad, cap, hv, h⟩ := hg
    cases hv
    rcases h with rfl | ⟨b, o, ha, hb, hp⟩
    · simp at hk
    · exact ⟨b, o, ha, hb, hp k hk⟩)
  have Hl := Lib.hid (show ∀ k (hk : k < l.length), ∃ b o, al = some ⟨b, o, none⟩ ∧ b < w.heap.size ∧ w.cell? ⟨b, o + k * 2, none⟩ = some (.string ⟨l[k].1.toArray⟩) ∧ w.cell? ⟨b, o + k * 2 + 1, none⟩ = some (.string ⟨l[k].2.toArray⟩) by
    intro k hk
    obtain ⟨ad, cap, hv, h⟩ := hl
    cases hv
    rcases h with rfl | ⟨b, o, ha, hb, hp⟩
    · simp at hk
    · exact ⟨b, o, ha, hb, hp k hk⟩)
  have Hfg := Lib.hid hfg
  have Hfg0 := Lib.hid hfg
  have Hfl := Lib.hid hfl
  have Hlen := Lib.hid hlen
  generalize hR : mMerge g l = R
  have HR := Lib.hid hR
  clear hg hl hfg hfl hlen hR
  have hmm := @run_makeMap Tryz.prog
  go_enter Tryz.func10, Tryz.ntmps10
  go_wp2
  go_loopw [16] (fun i wr => ∃ k : Nat, i = .int .i64 k ∧ k ≤ g.length ∧ OwnM wr w.heap.size k (mAll [] (g.take k)) ∧ Below w.heap.size w wr) (fun i _ => g.length - (intOf i).toNat)
  case atStart => exact ⟨0, rfl, Nat.zero_le _, World.ownsMap_made w _ _ _, (Below.refl _ _).alloc (Nat.le_refl _) _⟩
  case round =>
    obtain ⟨k, rfl, hk, hown, hb⟩ := hrel
    have Hown := Lib.hid hown
    have Hb := Lib.hid hb
    clear hown hb
    by_cases hlt : k < g.length
    · obtain ⟨b, o, rfl, hb0, c1, c2⟩ := Hg.out k hlt
      rw [← Hb.out.cell (p := ⟨b, o + k * 2, none⟩) hb0] at c1
      rw [← Hb.out.cell (p := ⟨b, o + k * 2 + 1, none⟩) hb0] at c2
      have Hst := Lib.hid (mAll_take [] hlt)
      have hpf := Hfg.out _ (List.getElem_mem hlt)
      have Hlim := Lib.hid (show k < maxLen by have := Hlen.out; unfold maxLen; omega)
      generalize g[k] = p at *
      obtain ⟨x, y⟩ := p
      simp only at c1 c2 hpf
      have Hkey := Lib.hid (WideMaps.keyOf_string_mk Tryz.underlying9 (s := ⟨x.toArray⟩) (by simp only [ByteArray.size, List.size_toArray]; unfold maxLen; omega))
      have Hval := Lib.hid (plainElem_string (H := Unit) Tryz.underlying9 (s := ⟨y.toArray⟩) (by simp only [ByteArray.size, List.size_toArray]; unfold maxLen; omega))
      clear hpf
      generalize mAll [] (g.take k) = M at *
      have hkb : (k : Int) ≤ 4398046511104 := by have := Hlen.out; omega
      go_wp2_with (first
        | (at_mapUpdate; refine wpList_mapUpdate_own _ rfl _ _ _ 70 rfl 9 9 (string_keyed Tryz.underlying9) Tryz.underlying70 _ w.heap.size k _ rfl (World.ownsMap.alloc Hown.out _) Hlim.out _ _ _ rfl rfl Hkey.out _ [] Hval.out ?_; intro w1 hown1 hgrow1)
        | go_in)
      go_roundw
      case rel => exact ⟨k + 1, by go_num, by omega, by rw [Hst.out]; exact OwnM.put hown1, (Hb.out.alloc Hb.out.size _).grown hgrow1 (by have := Hb.out.size; simp; omega) (fun j hj => by cases hj; exact Nat.le_refl _)⟩
      case measure => simp [intOf]; omega
    · have hkn : k = g.length := by omega
      subst hkn
      rw [List.take_length] at Hown
      clear Hg Hfg
      generalize hG : mAll [] g = G at *
      have HG := Lib.hid hG
      clear hG hlt
      go_wp2
      go_loopw [28] (fun i wr => ∃ k : Nat, i = .int .i64 k ∧ k ≤ l.length ∧ OwnM wr w.heap.size (g.length + k) (mAll G (l.take k)) ∧ Below w.heap.size w wr) (fun i _ => l.length - (intOf i).toNat)
      case atStart => exact ⟨0, rfl, Nat.zero_le _, Hown.out, Hb.out⟩
      case round =>
        obtain ⟨k, rfl, hk, hown, hb⟩ := hrel
        clear Hown Hb
        have Hown := Lib.hid hown
        have Hb := Lib.hid hb
        clear hown hb
        by_cases hlt : k < l.length
        · obtain ⟨b, o, rfl, hb0, c1, c2⟩ := Hl.out k hlt
          rw [← Hb.out.cell (p := ⟨b, o + k * 2, none⟩) hb0] at c1
          rw [← Hb.out.cell (p := ⟨b, o + k * 2 + 1, none⟩) hb0] at c2
          have Hst := Lib.hid (mAll_take G hlt)
          have hpf := Hfl.out _ (List.getElem_mem hlt)
          have Hlim := Lib.hid (show g.length + k < maxLen by have := Hlen.out; unfold maxLen; omega)
          generalize l[k] = p at *
          obtain ⟨x, y⟩ := p
          simp only at c1 c2 hpf
          have Hkey := Lib.hid (WideMaps.keyOf_string_mk Tryz.underlying9 (s := ⟨x.toArray⟩) (by simp only [ByteArray.size, List.size_toArray]; unfold maxLen; omega))
          have Hval := Lib.hid (plainElem_string (H := Unit) Tryz.underlying9 (s := ⟨y.toArray⟩) (by simp only [ByteArray.size, List.size_toArray]; unfold maxLen; omega))
          clear hpf
          generalize mAll G (l.take k) = M at *
          have hkb : (k : Int) ≤ 4398046511104 := by have := Hlen.out; omega
          go_wp2_with (first
            | (at_mapUpdate; refine wpList_mapUpdate_own _ rfl _ _ _ 70 rfl 9 9 (string_keyed Tryz.underlying9) Tryz.underlying70 _ w.heap.size (g.length + k) _ rfl (World.ownsMap.alloc Hown.out _) Hlim.out _ _ _ rfl rfl Hkey.out _ [] Hval.out ?_; intro w1 hown1 hgrow1)
            | go_in)
          go_roundw
          case rel => exact ⟨k + 1, by go_num, by omega, by rw [Hst.out]; exact OwnM.put hown1, (Hb.out.alloc Hb.out.size _).grown hgrow1 (by have := Hb.out.size; simp; omega) (fun j hj => by cases hj; exact Nat.le_refl _)⟩
          case measure => simp [intOf]; omega
        · have hkn : k = l.length := by omega
          subst hkn
          rw [List.take_length] at Hown
          have HR2 := Lib.hid (show (mAll G l).filter full = R by rw [← HG.out]; exact HR.out)
          have Hris := Lib.hid (show Rising (mAll G l) by rw [← HG.out]; exact mAll_rising l _ (mAll_rising g [] List.Pairwise.nil))
          have Hfit := Lib.hid (show ∀ q ∈ mAll G l, q.1.length ≤ 140737488355328 by
            rw [← HG.out]
            exact mAll_fits l _ (mAll_fits g [] (by simp) (fun q hq => by have := Hfg0.out q hq; omega)) (fun q hq => by have := Hfl.out q hq; omega))
          generalize mAll G l = M at *
          clear Hl Hfl HR HG hlt
          have Hsz := Lib.hid (show M.length ≤ 4398046511104 by have h1 := Hown.out.size_le; rw [mData_size] at h1; have := Hlen.out; omega)
          have Hkeys := Lib.hid (callsIn_wide.1 (Tryz.maps_Keys_27 (some w.heap.size) wr))
          go_wp2_with fail
          refine Hkeys.out.mono ?_
          rintro e w1 ⟨rfl, rfl⟩
          have Hsort := Lib.hid (callsIn_wide.1 (Tryz.slices_Sorted_keys_26_27 w.heap.size (g.length + l.length) (mData (H := Unit) M) (plainElem Tryz.prog 9) wr Hown.out (by rw [mData_size]; have := Hsz.out; unfold maxLen; omega) (by rw [mData_size]; have := Hsz.out; omega)))
          clear Hkeys
          go_wp2_with fail
          refine Hsort.out.mono ?_
          rintro e wk ⟨v, ss, rfl, hperm, hrow, -, hbk⟩
          clear Hsort
          rw [mData_keys] at hperm
          rw [sorted_keys Hris.out hperm] at hrow
          have Hbk := Lib.hid (((Below.refl _ _).alloc (Nat.le_refl _) (.cells #[.map (some w.heap.size)] 70) : Below wr.heap.size wr _).trans (hbk.mono (by simp)))
          obtain ⟨ad, cap, rfl, hkeys⟩ := row_keys hrow
          have Hkeys := Lib.hid hkeys
          rw [List.length_map]
          have Hown2 := Lib.hid (Hown.out.step Hbk.out)
          have Hb2 := Lib.hid (Hb.out.trans (Hbk.out.mono Hb.out.size))
          clear hperm hrow hbk hkeys Hown Hb Hbk
          obtain ⟨i0, hi, hz0, hz1, hz2⟩ := info_parts zero_pair
          go_wp2
          go_loopw [10, 42] (fun s i wx => ∃ (k : Nat) (F : List Pr) (av : Option Addr) (cs : Nat), s = .slice av F.length cs ∧ i = .int .i64 k ∧ k ≤ M.length ∧ F = (M.take k).filter full ∧ OwnP wx wk.heap.size (.slice av F.length cs) F ∧ Below wk.heap.size wk wx) (fun _ i _ => M.length - (intOf i).toNat)
          case atStart => exact ⟨0, [], _, _, rfl, rfl, Nat.zero_le _, rfl, World.ownsRow_nil _ _ _ _, Below.refl _ _⟩
          case round =>
            obtain ⟨k, F, av, cs, rfl, rfl, hk, hF, hownp, hbx⟩ := hrel
            have Hownp := Lib.hid hownp
            have Hbx := Lib.hid hbx
            have HF := Lib.hid hF
            clear hownp hbx hF
            by_cases hlt : k < M.length
            · obtain ⟨gb, rfl, hgb, hc⟩ := Hkeys.out k (by simpa using hlt)
              rw [← Hbx.out.cell (p := ⟨gb, k, none⟩) hgb, List.getElem_map] at hc
              have Hst := Lib.hid (show (M.take (k + 1)).filter full = F ++ (if full M[k] = true then [M[k]] else []) by rw [filter_take hlt, ← HF.out])
              have Hlook := Lib.hid (fun z => mData_at (H := Unit) Hris.out (List.getElem_mem hlt) z)
              have hpf := Hfit.out _ (List.getElem_mem hlt)
              have hfl : F.length < 4398046511104 := by
                have h1 := List.length_filter_le full (M.take k)
                rw [List.length_take, ← HF.out] at h1
                have := Hsz.out
                omega
              have Hfl := Lib.hid hfl
              have hkb : (k : Int) ≤ 4398046511104 := by have := Hsz.out; omega
              clear hfl
              generalize M[k] = p at *
              obtain ⟨x, y⟩ := p
              simp only at hc hpf
              have hmax : x.length ≤ maxLen := by unfold maxLen; omega
              have hlk := run_look (OwnM.step Hown2.out Hbx.out) x y hmax (Hlook.out _)
              clear hpf hmax Hlook
              cases y with
              | nil =>
                go_wp2
                go_roundw
                case rel => exact ⟨k + 1, F, av, cs, rfl, by go_num, by omega, by rw [Hst.out]; simp [full], Hownp.out, Hbx.out⟩
                case measure => simp [intOf]; omega
              | cons y0 y =>
                generalize hyy : y0 :: y = yy at *
                have Hyy := Lib.hid (show full (x, yy) = true by rw [← hyy]; rfl)
                have hne : (yy == []) = false := by rw [← hyy]; rfl
                clear hyy
                have hownp := Hownp.out
                go_wp2_with (first | (at_builtin; refine wpList_append_own _ rfl _ _ 22 rfl wk.heap.size 27 i0 (.agg #[.string ⟨#[]⟩, .string ⟨#[]⟩]) 2 32 Tryz.underlying22 hi hz0 hz1 hz2 rfl (by decide) _ _ _ rfl (World.ownsRow.alloc hownp _) ⟨wr.heap.size, 0, none⟩ 1 1 [.string ⟨x.toArray⟩, .string ⟨yy.toArray⟩] rfl rfl ?c1 ?c2 ?c3 ?c4 ?c5 ?_) | go_in)
                case c1 => exact fun j u hj => cell_two_new wr _ _ 27 j u hj
                case c2 => intro u hu; simp only [List.mem_cons, List.mem_nil_iff, or_false] at hu; rcases hu with rfl | rfl <;> rfl
                case c3 => have := Hfl.out; unfold maxLen; omega
                case c4 => have := Hfl.out; omega
                case c5 => have := Hbx.out.size; simp; omega
                intro v' w2 hown2 hgrow hnil
                have hown3 : OwnP w2 wk.heap.size v' (F ++ [(x, yy)]) := by
                  show w2.ownsRow wk.heap.size _ 2 v' (F ++ [(x, yy)]).length (pairCells (F ++ [(x, yy)]))
                  rw [pairCells_append, List.length_append]
                  exact hown2
                have hb3 : Below wk.heap.size wk w2 := (Hbx.out.alloc Hbx.out.size _).grown hgrow (by have := Hbx.out.size; simp; omega) (fun k hk => (hownp.lt k hk).1)
                obtain ⟨av2, cs2, rfl⟩ := hown3.slice
                have Hown3 := Lib.hid hown3
                have Hb3 := Lib.hid hb3
                clear hown2 hgrow hown3 hb3 hownp hnil
                go_wp2
                go_roundw
                case rel => exact ⟨k + 1, _, av2, cs2, rfl, by go_num, by omega, by rw [Hst.out, if_pos Hyy.out], Hown3.out, Hb3.out⟩
                case measure => simp [intOf]; omega
            · have hkn : k = M.length := by omega
              subst hkn
              have hFR : F = R := by rw [HF.out, List.take_length]; exact HR2.out
              subst hFR
              go_wp2
              go_ret
              exact ⟨Hb2.out.trans (Hbx.out.mono Hb2.out.size), _, rfl, Hownp.out.base Hb2.out.size⟩
end Go.Proofs.YtjmmecokfijglaaGreatDoor
namespace Go.Proofs.YtjmmecokfijglaaGreatDoor
open Go.ChangeShapes Go.WideShapes Go.ChangeAt Go.RowKit Go.Maps

theorem bytesLess_before : ∀ (x y : List UInt8), Op.bytesLess x y = bytesBefore x y
  | [], [] => rfl
  | _ :: _, [] => rfl
  | [], _ :: _ => rfl
  | a :: x, b :: y => by
    unfold Op.bytesLess bytesBefore
    rw [bytesLess_before x y]
theorem leq_run (p x : List UInt8) (W : World) : (binOp .leq 9 (.string ⟨p.toArray⟩) (.string ⟨x.toArray⟩)).run Tryz.prog W = .ok (.bool (!bytesBefore x p)) W := by
  have e : (bytesBefore p x || p == x) = !bytesBefore x p := by
    by_cases h : p = x
    · subst h; rw [before_irrefl]; simp
    · have hb : (p == x) = false := by simpa using h
      rw [hb, Bool.or_false]
      rcases before_total h with h1 | h1
      · rw [h1, before_asymm h1]; rfl
      · rw [h1, before_asymm h1]; rfl
  simp [binOp, Op.stringOp, bytesLess_before, e]
theorem neq_run (p x : List UInt8) (W : World) : (binOp .neq 9 (.string ⟨p.toArray⟩) (.string ⟨x.toArray⟩)).run Tryz.prog W = .ok (.bool (!decide (p = x))) W := by
  by_cases h : p = x
  · subst h; simp [binOp, Op.stringOp]
  · simp [binOp, Op.stringOp, h]
theorem one_two (a b : ByteArray) : ∀ u ∈ [Value.string a, Value.string b], u.oneCell' = true := by
  intro u hu
  simp only [List.mem_cons, List.mem_nil_iff, or_false] at hu
  rcases hu with rfl | rfl <;> rfl
theorem geq_run (p x : List UInt8) (W : World) : (binOp .geq 9 (.string ⟨p.toArray⟩) (.string ⟨x.toArray⟩)).run Tryz.prog W = .ok (.bool (!bytesBefore p x)) W := by
  simp [binOp, Op.stringOp, bytesLess_before]
theorem OwnP.fresh (w : World) : OwnP (w.alloc (.cells #[] 27)) w.heap.size (.slice (some ⟨w.heap.size, 0, none⟩) 0 0) [] :=
  ⟨rfl, .inr ⟨w.heap.size, 0, #[], rfl, Nat.le_refl _, heap_alloc_new w _, Nat.le_refl _, by unfold maxLen; omega, rfl, rfl⟩⟩
theorem PairsIn.cells {w : World} {ad : Option Addr} {cap : Nat} {l : List Pr} (h : PairsIn w (.slice ad l.length cap) l) : ∀ k (hk : k < l.length), ∃ b o, ad = some ⟨b, o, none⟩ ∧ b < w.heap.size ∧ w.cell? ⟨b, o + k * 2, none⟩ = some (.string ⟨l[k].1.toArray⟩) ∧ w.cell? ⟨b, o + k * 2 + 1, none⟩ = some (.string ⟨l[k].2.toArray⟩) := by
  intro k hk
  obtain ⟨ad, cap, hv, h⟩ := h
  cases hv
  rcases h with rfl | ⟨b, o, ha, hb, hp⟩
  · simp at hk
  · exact ⟨b, o, ha, hb, hp k hk⟩
theorem rPut_step (p : Pr) (d : Bool) {l : List Pr} {k : Nat} (hk : k < l.length) : rPut p d (l.drop k) = (if d = false ∧ bytesBefore l[k].1 p.1 = false then [p] else []) ++ (if l[k].1 = p.1 then [] else [l[k]]) ++ rPut p (d || !bytesBefore l[k].1 p.1) (l.drop (k + 1)) := by
  rw [List.drop_eq_getElem_cons hk]; rfl

set_option maxRecDepth 100000 in
set_option maxHeartbeats 2000000 in
theorem refPut_any (l : List Pr) (p : Pr) (ad : Option Addr) (cap : Nat) (w : World) (hl : PairsIn w (.slice ad l.length cap) l) (hlen : l.length ≤ 1099511627776) :
    Calls Tryz.prog 28 #[.slice ad l.length cap, prVal p] w fun e w' => Below w.heap.size w w' ∧ ∃ v, e = .returned v ∧ OwnP w' w.heap.size v (rPut p false l) := by
  have Hl := Lib.hid hl.cells
  have Hlen := Lib.hid hlen
  generalize hR : rPut p false l = R
  have HR := Lib.hid hR
  clear hl hlen hR
  obtain ⟨i0, hi, hz0, hz1, hz2⟩ := info_parts zero_pair
  obtain ⟨p1, p2⟩ := p
  obtain ⟨W, hW⟩ : ∃ W : World, W = w.alloc (.cells #[.string ⟨p1.toArray⟩, .string ⟨p2.toArray⟩] 27) := ⟨_, rfl⟩
  have HW := Lib.hid (show W.heap.size = w.heap.size + 1 by rw [hW]; simp)
  have Hp := Lib.hid (show Holds W w.heap.size 27 [.string ⟨p1.toArray⟩, .string ⟨p2.toArray⟩] by rw [hW]; exact Holds.new w _ _)
  have Hb0 := Lib.hid (show Below w.heap.size w W by rw [hW]; exact (Below.refl _ _).alloc (Nat.le_refl _) _)
  unfold prVal
  go_enter Tryz.func28, Tryz.ntmps28
  go_wp2
  rw [← hW]
  clear hW
  go_loopw [5, 6, 7] (fun o d i wr => ∃ (k : Nat) (dn : Bool) (F : List Pr) (av : Option Addr) (cs : Nat), o = .slice av F.length cs ∧ d = .bool dn ∧ i = .int .i64 k ∧ k ≤ l.length ∧ F ++ rPut (p1, p2) dn (l.drop k) = R ∧ F.length ≤ 2 * k ∧ OwnP wr W.heap.size (.slice av F.length cs) F ∧ Below W.heap.size W wr) (fun _ _ i _ => l.length - (intOf i).toNat)
  case atStart =>
    refine ⟨0, false, [], some ⟨W.heap.size, 0, none⟩, 0, ?_, rfl, rfl, Nat.zero_le _, HR.out, Nat.zero_le _, OwnP.fresh W, (Below.refl _ _).alloc (Nat.le_refl _) _⟩
    rw [HW.out]; rfl
  case round =>
    obtain ⟨k, dn, F, av, cs, rfl, rfl, rfl, hk, hF, hFl, hown, hb⟩ := hrel
    have HF := Lib.hid hF
    have Hown := Lib.hid hown
    have Hb := Lib.hid hb
    clear hF hown hb
    by_cases hlt : k < l.length
    · obtain ⟨b, o, rfl, hb0, c1, c2⟩ := Hl.out k hlt
      have hbW : b < W.heap.size := by have := HW.out; omega
      have hpW : w.heap.size < W.heap.size := by have := HW.out; omega
      have hkb : (k : Int) ≤ 1099511627776 := by have := Hlen.out; omega
      rw [← Hb0.out.cell (p := ⟨b, o + k * 2, none⟩) hb0] at c1
      rw [← Hb0.out.cell (p := ⟨b, o + k * 2 + 1, none⟩) hb0] at c2
      have Hc1 := Lib.hid c1
      have Hc2 := Lib.hid c2
      clear c1 c2
      have Hst := Lib.hid (rPut_step (p1, p2) dn hlt)
      have hlt2 : (k : Int) < l.length := by omega
      generalize l[k] = x at *
      obtain ⟨x1, x2⟩ := x
      have hle := leq_run p1 x1
      have Hx := Lib.hid (fun (w1 : World) (hb : Below W.heap.size W w1) => show w1.cell? ⟨b, o + k * 2, none⟩ = some (.string ⟨x1.toArray⟩) ∧ w1.cell? ⟨b, o + k * 2 + 1, none⟩ = some (.string ⟨x2.toArray⟩) from ⟨(hb.cell (p := ⟨b, o + k * 2, none⟩) hbW).trans Hc1.out, (hb.cell (p := ⟨b, o + k * 2 + 1, none⟩) hbW).trans Hc2.out⟩)
      have Hy := Lib.hid (fun (w1 : World) (hb : Below W.heap.size W w1) => two_holds (Hp.out.under hb hpW))
      clear Hc1 Hc2
      generalize hbf : bytesBefore x1 p1 = bf at *
      have Hbf := Lib.hid hbf
      clear hbf
      go_upto_region 6 with (fail)
      go_cut [26] (fun t wx => t = .bool (!dn && !bf) ∧ OwnP wx W.heap.size (.slice av F.length cs) F ∧ Below W.heap.size W wx)
      case first =>
        obtain ⟨d1, d2, -, -⟩ := Hy.out _ Hb.out
        obtain ⟨e1, e2⟩ := Hx.out _ Hb.out
        cases dn
        · cases bf
          all_goals
            go_wp2_with (fail)
            go_quiet (fail)
            go_wp2
            go_meet
            case rel => exact ⟨rfl, Hown.out.step (below_drewN (Below.refl _ _) nq), below_drewN Hb.out nq⟩
        · go_wp2_with (fail)
          go_quiet (fail)
          go_wp2
          go_meet
          case rel => exact ⟨by simp, Hown.out.step (below_drewN (Below.refl _ _) nq), below_drewN Hb.out nq⟩
      case rest =>
        obtain ⟨rfl, hown1, hb1⟩ := hcut
        clear Hown Hb
        have Hown1 := Lib.hid hown1
        have Hb1 := Lib.hid hb1
        clear hown1 hb1
        rename World => w1
        go_upto_if 26 with (fail)
        go_cut [5, 6] (fun o d wx => ∃ (G : List Pr) (ag : Option Addr) (cg : Nat), o = .slice ag G.length cg ∧ d = .bool (dn || !bf) ∧ G = F ++ (if dn = false ∧ bf = false then [(p1, p2)] else []) ∧ OwnP wx W.heap.size (.slice ag G.length cg) G ∧ Below W.heap.size W wx)
        case first =>
          obtain ⟨d1, d2, -, -⟩ := Hy.out _ Hb1.out
          by_cases hdb : dn = false ∧ bf = false
          · have e1 : (!dn && !bf) = true := by rw [hdb.1, hdb.2]; rfl
            have Hd := Lib.hid (show (dn || !bf) = true by rw [hdb.1, hdb.2]; rfl)
            have Hnd := Lib.hid hdb
            rw [e1]
            clear hdb e1
            go_wp2_with (first | (at_builtin; go_loud (refine wpList_append_own _ rfl _ _ 22 rfl W.heap.size 27 i0 (.agg #[.string ⟨#[]⟩, .string ⟨#[]⟩]) 2 32 Tryz.underlying22 hi hz0 hz1 hz2 rfl (by decide) _ _ _ rfl (World.ownsRow.alloc Hown1.out _) ⟨w1.heap.size, 0, none⟩ 1 1 [.string ⟨p1.toArray⟩, .string ⟨p2.toArray⟩] rfl rfl (fun j u hj => cell_two_new w1 _ _ 27 j u hj) (one_two _ _) ?c3 ?c4 ?c5 ?_)) | go_in)
            case c3 => have := Hlen.out; unfold maxLen; omega
            case c4 => have := Hlen.out; omega
            case c5 => have := Hb1.out.size; simp; omega
            intro v' wn hownn hgrow hnil
            have hown3 : OwnP wn W.heap.size v' (F ++ [(p1, p2)]) := by
              show wn.ownsRow W.heap.size _ 2 v' (F ++ [(p1, p2)]).length (pairCells (F ++ [(p1, p2)]))
              rw [pairCells_append, List.length_append]
              exact hownn
            have hb3 : Below W.heap.size W wn := (Hb1.out.alloc Hb1.out.size _).grown hgrow (by have := Hb1.out.size; simp; omega) (fun k hk => (Hown1.out.lt k hk).1)
            obtain ⟨av2, cs2, rfl⟩ := hown3.slice
            have Hown3 := Lib.hid hown3
            have Hb3 := Lib.hid hb3
            clear hownn hgrow hown3 hb3 hnil

            go_wp2
            go_meet
            case rel => exact ⟨_, av2, cs2, rfl, by rw [Hd.out], by rw [if_pos Hnd.out], Hown3.out, Hb3.out⟩
          · have e1 : (!dn && !bf) = false := by
              cases dn <;> cases bf <;> simp_all
            have Hd := Lib.hid (show (dn || !bf) = dn by
              cases dn <;> cases bf <;> simp_all)
            rw [e1]
            have Hnd := Lib.hid hdb
            clear hdb e1
            go_wp2
            go_meet
            case rel => exact ⟨_, av, cs, rfl, by rw [Hd.out], by rw [if_neg Hnd.out, List.append_nil], Hown1.out, Hb1.out⟩
        case rest =>
          obtain ⟨G, ag, cg, rfl, rfl, hG, hown2, hb2⟩ := hcut
          clear Hown1 Hb1
          have Hown2 := Lib.hid hown2
          have Hb2 := Lib.hid hb2
          have hGl : G.length ≤ F.length + 1 := by
            rw [hG, List.length_append]
            split <;> simp
          have HG := Lib.hid hG
          clear hown2 hb2 hG
          rename World => w2
          obtain ⟨d1, d2, -, -⟩ := Hy.out _ Hb2.out
          obtain ⟨e1, e2⟩ := Hx.out _ Hb2.out
          generalize (dn || !bf) = dd at *
          have hnq := neq_run x1 p1
          generalize hqe : decide (x1 = p1) = qe at hnq
          have Hqe := Lib.hid hqe
          clear hqe
          go_wp2_with (fail)
          go_quiet (fail)
          have Hb4 := Lib.hid (show Below W.heap.size W (w2.drewN nq) from below_drewN Hb2.out _)
          have Hown4 := Lib.hid (show OwnP (w2.drewN nq) W.heap.size (.slice ag G.length cg) G from Hown2.out.step (below_drewN (Below.refl _ _) nq))
          clear Hb2 Hown2 d1 d2 e1 e2
          generalize w2.drewN nq = w4 at *
          obtain ⟨e1, e2⟩ := Hx.out _ Hb4.out
          have hqq : (x1 == p1) = qe := by rw [← Hqe.out]; by_cases h : x1 = p1 <;> simp [h]
          rw [hqq]
          clear hqq
          cases qe with
          | true =>
            have he : x1 = p1 := of_decide_eq_true Hqe.out
            have Hq := Lib.hid (show G ++ rPut (p1, p2) dd (l.drop (k + 1)) = R by
              rw [← HF.out, Hst.out, if_pos he, HG.out]; simp)
            clear he
            go_wp2
            go_roundw
            case rel => exact ⟨k + 1, dd, G, ag, cg, rfl, rfl, by go_num, by omega, Hq.out, by omega, Hown4.out, Hb4.out⟩
            case measure => simp [intOf]; omega
          | false =>
            have he : x1 ≠ p1 := of_decide_eq_false Hqe.out
            have Hq := Lib.hid (show (G ++ [(x1, x2)]) ++ rPut (p1, p2) dd (l.drop (k + 1)) = R by
              rw [← HF.out, Hst.out, if_neg he, HG.out]; simp)
            clear he
            go_wp2_with (first | (at_builtin; go_loud (refine wpList_append_own _ rfl _ _ 22 rfl W.heap.size 27 i0 (.agg #[.string ⟨#[]⟩, .string ⟨#[]⟩]) 2 32 Tryz.underlying22 hi hz0 hz1 hz2 rfl (by decide) _ _ _ rfl (World.ownsRow.alloc Hown4.out _) ⟨w4.heap.size, 0, none⟩ 1 1 [.string ⟨x1.toArray⟩, .string ⟨x2.toArray⟩] rfl rfl (fun j u hj => cell_two_new w4 _ _ 27 j u hj) (one_two _ _) ?c3 ?c4 ?c5 ?_)) | go_in)
            case c3 => have := Hlen.out; unfold maxLen; omega
            case c4 => have := Hlen.out; omega
            case c5 => have := Hb4.out.size; simp; omega
            intro v' wn hownn hgrow hnil
            have hown3 : OwnP wn W.heap.size v' (G ++ [(x1, x2)]) := by
              show wn.ownsRow W.heap.size _ 2 v' (G ++ [(x1, x2)]).length (pairCells (G ++ [(x1, x2)]))
              rw [pairCells_append, List.length_append]
              exact hownn
            have hb3 : Below W.heap.size W wn := (Hb4.out.alloc Hb4.out.size _).grown hgrow (by have := Hb4.out.size; simp; omega) (fun k hk => (Hown4.out.lt k hk).1)
            obtain ⟨av2, cs2, rfl⟩ := hown3.slice
            have Hown3 := Lib.hid hown3
            have Hb3 := Lib.hid hb3
            clear hownn hgrow hown3 hb3 hnil

            go_wp2
            go_roundw
            case rel => exact ⟨k + 1, dd, _, av2, cs2, rfl, rfl, by go_num, by omega, Hq.out, by simp; omega, Hown3.out, Hb3.out⟩
            case measure => simp [intOf]; omega
    · have hkn : k = l.length := by omega
      subst hkn
      rw [List.drop_length] at HF
      obtain ⟨d1, d2, -, -⟩ := two_holds (Hp.out.under Hb.out (show w.heap.size < W.heap.size by have := HW.out; omega))
      cases dn
      · have hq : F ++ [(p1, p2)] = R := HF.out
        have Hq := Lib.hid hq
        clear hq
        have Hownr := Hown
        have Hbr := Hb
        clear Hown Hb
        go_wp2_with (first | (at_builtin; go_loud (refine wpList_append_own _ rfl _ _ 22 rfl W.heap.size 27 i0 (.agg #[.string ⟨#[]⟩, .string ⟨#[]⟩]) 2 32 Tryz.underlying22 hi hz0 hz1 hz2 rfl (by decide) _ _ _ rfl (World.ownsRow.alloc Hownr.out _) ⟨wr.heap.size, 0, none⟩ 1 1 [.string ⟨p1.toArray⟩, .string ⟨p2.toArray⟩] rfl rfl (fun j u hj => cell_two_new wr _ _ 27 j u hj) (one_two _ _) ?c3 ?c4 ?c5 ?_)) | go_in)
        case c3 => have := Hlen.out; unfold maxLen; omega
        case c4 => have := Hlen.out; omega
        case c5 => have := Hbr.out.size; simp; omega
        intro v' wn hownn hgrow hnil
        have hown3 : OwnP wn W.heap.size v' (F ++ [(p1, p2)]) := by
          show wn.ownsRow W.heap.size _ 2 v' (F ++ [(p1, p2)]).length (pairCells (F ++ [(p1, p2)]))
          rw [pairCells_append, List.length_append]
          exact hownn
        have hb3 : Below W.heap.size W wn := (Hbr.out.alloc Hbr.out.size _).grown hgrow (by have := Hbr.out.size; simp; omega) (fun k hk => (Hownr.out.lt k hk).1)
        obtain ⟨av2, cs2, rfl⟩ := hown3.slice
        have Hown3 := Lib.hid hown3
        have Hb3 := Lib.hid hb3
        clear hownn hgrow hown3 hb3 hnil

        go_wp2
        go_ret
        have hR := Hq.out
        subst hR
        exact ⟨Hb0.out.trans (Hb3.out.mono Hb0.out.size), _, rfl, Hown3.out.base Hb0.out.size⟩
      · have hq : F ++ [] = R := HF.out
        rw [List.append_nil] at hq
        subst hq
        go_wp2
        go_ret
        exact ⟨Hb0.out.trans (Hb.out.mono Hb0.out.size), _, rfl, Hown.out.base Hb0.out.size⟩
end Go.Proofs.YtjmmecokfijglaaGreatDoor
