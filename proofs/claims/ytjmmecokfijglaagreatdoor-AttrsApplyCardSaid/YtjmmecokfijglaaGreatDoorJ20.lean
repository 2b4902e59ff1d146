/-
  Texts of this seat's proof, joined: their order is that of the build.
-/
import Derived.Test.YtjmmecokfijglaaGreatDoorJ19
import Derived.Deep.DeepCutAuto
import Derived.Deep.CutBlock
import Derived.Deep.QuietTactic
import Derived.BigQuiet
namespace Go.Proofs.YtjmmecokfijglaaGreatDoor
open Go.ChangeShapes Go.WideShapes Go.ChangeAt Go.RowKit Go.Maps

theorem bytesLess_before : ∀ (x y : List UInt8), Op.bytesLess x y = bytesBefore x y
  | [], [] => rfl
  | _ :: _, [] => rfl
  | [], _ :: _ => rfl
  | a :: x, b :: y => by
    unfold Op.bytesLess bytesBefore
    rw [bytesLess_before x y]
theorem leq_run (p x : List UInt8) (W : World) : (binOp .leq 9 (.string ⟨p.toArray⟩) (.string ⟨x.toArray⟩)).run Tryz.prog W = .ok (.bool (!bytesBefore x p)) W := by
  have e : (bytesBefore p x || p == x) = !bytesBefore x p := by
    by_cases h : p = x
    · subst h; rw [before_irrefl]; simp
    · have hb : (p == x) = false := by simpa using h
      rw [hb, Bool.or_false]
      rcases before_total h with h1 | h1
      · rw [h1, before_asymm h1]; rfl
      · rw [h1, before_asymm h1]; rfl
  simp [binOp, Op.stringOp, bytesLess_before, e]
theorem neq_run (p x : List UInt8) (W : World) : (binOp .neq 9 (.string ⟨p.toArray⟩) (.string ⟨x.toArray⟩)).run Tryz.prog W = .ok (.bool (!decide (p = x))) W := by
  by_cases h : p = x
  · subst h; simp [binOp, Op.stringOp]
  · simp [binOp, Op.stringOp, h]
theorem one_two (a b : ByteArray) : ∀ u ∈ [Value.string a, Value.string b], u.oneCell' = true := by
  intro u hu
  simp only [List.mem_cons, List.mem_nil_iff, or_false] at hu
  rcases hu with rfl | rfl <;> rfl
theorem geq_run (p x : List UInt8) (W : World) : (binOp .geq 9 (.string ⟨p.toArray⟩) (.string ⟨x.toArray⟩)).run Tryz.prog W = .ok (.bool (!bytesBefore p x)) W := by
  simp [binOp, Op.stringOp, bytesLess_before]
theorem OwnP.fresh (w : World) : OwnP (w.alloc (.cells #[] 27)) w.heap.size (.slice (some ⟨w.heap.size, 0, none⟩) 0 0) [] :=
  ⟨rfl, .inr ⟨w.heap.size, 0, #[], rfl, Nat.le_refl _, heap_alloc_new w _, Nat.le_refl _, by unfold maxLen; omega, rfl, rfl⟩⟩
theorem PairsIn.cells {w : World} {ad : Option Addr} {cap : Nat} {l : List Pr} (h : PairsIn w (.slice ad l.length cap) l) : ∀ k (hk : k < l.length), ∃ b o, ad = some ⟨b, o, none⟩ ∧ b < w.heap.size ∧ w.cell? ⟨b, o + k * 2, none⟩ = some (.string ⟨l[k].1.toArray⟩) ∧ w.cell? ⟨b, o + k * 2 + 1, none⟩ = some (.string ⟨l[k].2.toArray⟩) := by
  intro k hk
  obtain ⟨ad, cap, hv, h⟩ := h
  cases hv
  rcases h with rfl | ⟨b, o, ha, hb, hp⟩
  · simp at hk
  · exact ⟨b, o, ha, hb, hp k hk⟩
theorem rPut_step (p : Pr) (d : Bool) {l : List Pr} {k : Nat} (hk : k < l.length) : rPut p d (l.drop k) = (if d = false ∧ bytesBefore l[k].1 p.1 = false then [p] else []) ++ (if l[k].1 = p.1 then [] else [l[k]]) ++ rPut p (d || !bytesBefore l[k].1 p.1) (l.drop (k + 1)) := by
  rw [List.drop_eq_getElem_cons hk]; rfl

set_option maxRecDepth 100000 in
set_option maxHeartbeats 2000000 in
theorem refPut_any (l : List Pr) (p : Pr) (ad : Option Addr) (cap : Nat) (w : World) (hl : PairsIn w (.slice ad l.length cap) l) (hlen : l.length ≤ 1099511627776) :
    Calls Tryz.prog 28 #[.slice ad l.length cap, prVal p] w fun e w' => Below w.heap.size w w' ∧ ∃ v, e = .returned v ∧ OwnP w' w.heap.size v (rPut p false l) := by
  have Hl := Lib.hid hl.cells
  have Hlen := Lib.hid hlen
  generalize hR : rPut p false l = R
  have HR := Lib.hid hR
  clear hl hlen hR
  obtain ⟨i0, hi, hz0, hz1, hz2⟩ := info_parts zero_pair
  obtain ⟨p1, p2⟩ := p
  obtain ⟨W, hW⟩ : ∃ W : World, W = w.alloc (.cells #[.string ⟨p1.toArray⟩, .string ⟨p2.toArray⟩] 27) := ⟨_, rfl⟩
  have HW := Lib.hid (show W.heap.size = w.heap.size + 1 by rw [hW]; simp)
  have Hp := Lib.hid (show Holds W w.heap.size 27 [.string ⟨p1.toArray⟩, .string ⟨p2.toArray⟩] by rw [hW]; exact Holds.new w _ _)
  have Hb0 := Lib.hid (show Below w.heap.size w W by rw [hW]; exact (Below.refl _ _).alloc (Nat.le_refl _) _)
  unfold prVal
  go_enter Tryz.func28, Tryz.ntmps28
  go_wp2
  rw [← hW]
  clear hW
  go_loopw [5, 6, 7] (fun o d i wr => ∃ (k : Nat) (dn : Bool) (F : List Pr) (av : Option Addr) (cs : Nat), o = .slice av F.length cs ∧ d = .bool dn ∧ i = .int .i64 k ∧ k ≤ l.length ∧ F ++ rPut (p1, p2) dn (l.drop k) = R ∧ F.length ≤ 2 * k ∧ OwnP wr W.heap.size (.slice av F.length cs) F ∧ Below W.heap.size W wr) (fun _ _ i _ => l.length - (intOf i).toNat)
  case atStart =>
    refine ⟨0, false, [], some ⟨W.heap.size, 0, none⟩, 0, ?_, rfl, rfl, Nat.zero_le _, HR.out, Nat.zero_le _, OwnP.fresh W, (Below.refl _ _).alloc (Nat.le_refl _) _⟩
    rw [HW.out]; rfl
  case round =>
    obtain ⟨k, dn, F, av, cs, rfl, rfl, rfl, hk, hF, hFl, hown, hb⟩ := hrel
    have HF := Lib.hid hF
    have Hown := Lib.hid hown
    have Hb := Lib.hid hb
    clear hF hown hb
    by_cases hlt : k < l.length
    · obtain ⟨b, o, rfl, hb0, c1, c2⟩ := Hl.out k hlt
      have hbW : b < W.heap.size := by have := HW.out; omega
      have hpW : w.heap.size < W.heap.size := by have := HW.out; omega
      have hkb : (k : Int) ≤ 1099511627776 := by have := Hlen.out; omega
      rw [← Hb0.out.cell (p := ⟨b, o + k * 2, none⟩) hb0] at c1
      rw [← Hb0.out.cell (p := ⟨b, o + k * 2 + 1, none⟩) hb0] at c2
      have Hc1 := Lib.hid c1
      have Hc2 := Lib.hid c2
      clear c1 c2
      have Hst := Lib.hid (rPut_step (p1, p2) dn hlt)
      have hlt2 : (k : Int) < l.length := by omega
      generalize l[k] = x at *
      obtain ⟨x1, x2⟩ := x
      have hle := leq_run p1 x1
      have Hx := Lib.hid (fun (w1 : World) (hb : Below W.heap.size W w1) => show w1.cell? ⟨b, o + k * 2, none⟩ = some (.string ⟨x1.toArray⟩) ∧ w1.cell? ⟨b, o + k * 2 + 1, none⟩ = some (.string ⟨x2.toArray⟩) from ⟨(hb.cell (p := ⟨b, o + k * 2, none⟩) hbW).trans Hc1.out, (hb.cell (p := ⟨b, o + k * 2 + 1, none⟩) hbW).trans Hc2.out⟩)
      have Hy := Lib.hid (fun (w1 : World) (hb : Below W.heap.size W w1) => two_holds (Hp.out.under hb hpW))
      clear Hc1 Hc2
      generalize hbf : bytesBefore x1 p1 = bf at *
      have Hbf := Lib.hid hbf
      clear hbf
      go_upto_region 6 with (fail)
      go_cut [26] (fun t wx => t = .bool (!dn && !bf) ∧ OwnP wx W.heap.size (.slice av F.length cs) F ∧ Below W.heap.size W wx)
      case first =>
        obtain ⟨d1, d2, -, -⟩ := Hy.out _ Hb.out
        obtain ⟨e1, e2⟩ := Hx.out _ Hb.out
        cases dn
        · cases bf
          all_goals
            go_wp2_with (fail)
            go_quiet (fail)
            go_wp2
            go_meet
            case rel => exact ⟨rfl, Hown.out.step (below_drewN (Below.refl _ _) nq), below_drewN Hb.out nq⟩
        · go_wp2_with (fail)
          go_quiet (fail)
          go_wp2
          go_meet
          case rel => exact ⟨by simp, Hown.out.step (below_drewN (Below.refl _ _) nq), below_drewN Hb.out nq⟩
      case rest =>
        obtain ⟨rfl, hown1, hb1⟩ := hcut
        clear Hown Hb
        have Hown1 := Lib.hid hown1
        have Hb1 := Lib.hid hb1
        clear hown1 hb1
        rename World => w1
        go_upto_if 26 with (fail)
        go_cut [5, 6] (fun o d wx => ∃ (G : List Pr) (ag : Option Addr) (cg : Nat), o = .slice ag G.length cg ∧ d = .bool (dn || !bf) ∧ G = F ++ (if dn = false ∧ bf = false then [(p1, p2)] else []) ∧ OwnP wx W.heap.size (.slice ag G.length cg) G ∧ Below W.heap.size W wx)
        case first =>
          obtain ⟨d1, d2, -, -⟩ := Hy.out _ Hb1.out
          by_cases hdb : dn = false ∧ bf = false
          · have e1 : (!dn && !bf) = true := by rw [hdb.1, hdb.2]; rfl
            have Hd := Lib.hid (show (dn || !bf) = true by rw [hdb.1, hdb.2]; rfl)
            have Hnd := Lib.hid hdb
            rw [e1]
            clear hdb e1
            go_wp2_with (first | (at_builtin; go_loud (refine wpList_append_own _ rfl _ _ 22 rfl W.heap.size 27 i0 (.agg #[.string ⟨#[]⟩, .string ⟨#[]⟩]) 2 32 Tryz.underlying22 hi hz0 hz1 hz2 rfl (by decide) _ _ _ rfl (World.ownsRow.alloc Hown1.out _) ⟨w1.heap.size, 0, none⟩ 1 1 [.string ⟨p1.toArray⟩, .string ⟨p2.toArray⟩] rfl rfl (fun j u hj => cell_two_new w1 _ _ 27 j u hj) (one_two _ _) ?c3 ?c4 ?c5 ?_)) | go_in)
            case c3 => have := Hlen.out; unfold maxLen; omega
            case c4 => have := Hlen.out; omega
            case c5 => have := Hb1.out.size; simp; omega
            intro v' wn hownn hgrow hnil
            have hown3 : OwnP wn W.heap.size v' (F ++ [(p1, p2)]) := by
              show wn.ownsRow W.heap.size _ 2 v' (F ++ [(p1, p2)]).length (pairCells (F ++ [(p1, p2)]))
              rw [pairCells_append, List.length_append]
              exact hownn
            have hb3 : Below W.heap.size W wn := (Hb1.out.alloc Hb1.out.size _).grown hgrow (by have := Hb1.out.size; simp; omega) (fun k hk => (Hown1.out.lt k hk).1)
            obtain ⟨av2, cs2, rfl⟩ := hown3.slice
            have Hown3 := Lib.hid hown3
            have Hb3 := Lib.hid hb3
            clear hownn hgrow hown3 hb3 hnil

            go_wp2
            go_meet
            case rel => exact ⟨_, av2, cs2, rfl, by rw [Hd.out], by rw [if_pos Hnd.out], Hown3.out, Hb3.out⟩
          · have e1 : (!dn && !bf) = false := by
              cases dn <;> cases bf <;> simp_all
            have Hd := Lib.hid (show (dn || !bf) = dn by
              cases dn <;> cases bf <;> simp_all)
            rw [e1]
            have Hnd := Lib.hid hdb
            clear hdb e1
            go_wp2
            go_meet
            case rel => exact ⟨_, av, cs, rfl, by rw [Hd.out], by rw [if_neg Hnd.out, List.append_nil], Hown1.out, Hb1.out⟩
        case rest =>
          obtain ⟨G, ag, cg, rfl, rfl, hG, hown2, hb2⟩ := hcut
          clear Hown1 Hb1
          have Hown2 := Lib.hid hown2
          have Hb2 := Lib.hid hb2
          have hGl : G.length ≤ F.length + 1 := by
            rw [hG, List.length_append]
            split <;> simp
          have HG := Lib.hid hG
          clear hown2 hb2 hG
          rename World => w2
          obtain ⟨d1, d2, -, -⟩ := Hy.out _ Hb2.out
          obtain ⟨e1, e2⟩ := Hx.out _ Hb2.out
          generalize (dn || !bf) = dd at *
          have hnq := neq_run x1 p1
          generalize hqe : decide (x1 = p1) = qe at hnq
          have Hqe := Lib.hid hqe
          clear hqe
          go_wp2_with (fail)
          go_quiet (fail)
          have Hb4 := Lib.hid (show Below W.heap.size W (w2.drewN nq) from below_drewN Hb2.out _)
          have Hown4 := Lib.hid (show OwnP (w2.drewN nq) W.heap.size (.slice ag G.length cg) G from Hown2.out.step (below_drewN (Below.refl _ _) nq))
          clear Hb2 Hown2 d1 d2 e1 e2
          generalize w2.drewN nq = w4 at *
          obtain ⟨e1, e2⟩ := Hx.out _ Hb4.out
          have hqq : (x1 == p1) = qe := by rw [← Hqe.out]; by_cases h : x1 = p1 <;> simp [h]
          rw [hqq]
          clear hqq
          cases qe with
          | true =>
            have he : x1 = p1 := of_decide_eq_true Hqe.out
            have Hq := Lib.hid (show G ++ rPut (p1, p2) dd (l.drop (k + 1)) = R by
              rw [← HF.out, Hst.out, if_pos he, HG.out]; simp)
            clear he
            go_wp2
            go_roundw
            case rel => exact ⟨k + 1, dd, G, ag, cg, rfl, rfl, by go_num, by omega, Hq.out, by omega, Hown4.out, Hb4.out⟩
            case measure => simp [intOf]; omega
          | false =>
            have he : x1 ≠ p1 := of_decide_eq_false Hqe.out
            have Hq := Lib.hid (show (G ++ [(x1, x2)]) ++ rPut (p1, p2) dd (l.drop (k + 1)) = R by
              rw [← HF.out, Hst.out, if_neg he, HG.out]; simp)
            clear he
            go_wp2_with (first | (at_builtin; go_loud (refine wpList_append_own _ rfl _ _ 22 rfl W.heap.size 27 i0 (.agg #[.string ⟨#[]⟩, .string ⟨#[]⟩]) 2 32 Tryz.underlying22 hi hz0 hz1 hz2 rfl (by decide) _ _ _ rfl (World.ownsRow.alloc Hown4.out _) ⟨w4.heap.size, 0, none⟩ 1 1 [.string ⟨x1.toArray⟩, .string ⟨x2.toArray⟩] rfl rfl (fun j u hj => cell_two_new w4 _ _ 27 j u hj) (one_two _ _) ?c3 ?c4 ?c5 ?_)) | go_in)
            case c3 => have := Hlen.out; unfold maxLen; omega
            case c4 => have := Hlen.out; omega
            case c5 => have := Hb4.out.size; simp; omega
            intro v' wn hownn hgrow hnil
            have hown3 : OwnP wn W.heap.size v' (G ++ [(x1, x2)]) := by
              show wn.ownsRow W.heap.size _ 2 v' (G ++ [(x1, x2)]).length (pairCells (G ++ [(x1, x2)]))
              rw [pairCells_append, List.length_append]
              exact hownn
            have hb3 : Below W.heap.size W wn := (Hb4.out.alloc Hb4.out.size _).grown hgrow (by have := Hb4.out.size; simp; omega) (fun k hk => (Hown4.out.lt k hk).1)
            obtain ⟨av2, cs2, rfl⟩ := hown3.slice
            have Hown3 := Lib.hid hown3
            have Hb3 := Lib.hid hb3
            clear hownn hgrow hown3 hb3 hnil

            go_wp2
            go_roundw
            case rel => exact ⟨k + 1, dd, _, av2, cs2, rfl, rfl, by go_num, by omega, Hq.out, by simp; omega, Hown3.out, Hb3.out⟩
            case measure => simp [intOf]; omega
    · have hkn : k = l.length := by omega
      subst hkn
      rw [List.drop_length] at HF
      obtain ⟨d1, d2, -, -⟩ := two_holds (Hp.out.under Hb.out (show w.heap.size < W.heap.size by have := HW.out; omega))
      cases dn
      · have hq : F ++ [(p1, p2)] = R := HF.out
        have Hq := Lib.hid hq
        clear hq
        have Hownr := Hown
        have Hbr := Hb
        clear Hown Hb
        go_wp2_with (first | (at_builtin; go_loud (refine wpList_append_own _ rfl _ _ 22 rfl W.heap.size 27 i0 (.agg #[.string ⟨#[]⟩, .string ⟨#[]⟩]) 2 32 Tryz.underlying22 hi hz0 hz1 hz2 rfl (by decide) _ _ _ rfl (World.ownsRow.alloc Hownr.out _) ⟨wr.heap.size, 0, none⟩ 1 1 [.string ⟨p1.toArray⟩, .string ⟨p2.toArray⟩] rfl rfl (fun j u hj => cell_two_new wr _ _ 27 j u hj) (one_two _ _) ?c3 ?c4 ?c5 ?_)) | go_in)
        case c3 => have := Hlen.out; unfold maxLen; omega
        case c4 => have := Hlen.out; omega
        case c5 => have := Hbr.out.size; simp; omega
        intro v' wn hownn hgrow hnil
        have hown3 : OwnP wn W.heap.size v' (F ++ [(p1, p2)]) := by
          show wn.ownsRow W.heap.size _ 2 v' (F ++ [(p1, p2)]).length (pairCells (F ++ [(p1, p2)]))
          rw [pairCells_append, List.length_append]
          exact hownn
        have hb3 : Below W.heap.size W wn := (Hbr.out.alloc Hbr.out.size _).grown hgrow (by have := Hbr.out.size; simp; omega) (fun k hk => (Hownr.out.lt k hk).1)
        obtain ⟨av2, cs2, rfl⟩ := hown3.slice
        have Hown3 := Lib.hid hown3
        have Hb3 := Lib.hid hb3
        clear hownn hgrow hown3 hb3 hnil

        go_wp2
        go_ret
        have hR := Hq.out
        subst hR
        exact ⟨Hb0.out.trans (Hb3.out.mono Hb0.out.size), _, rfl, Hown3.out.base Hb0.out.size⟩
      · have hq : F ++ [] = R := HF.out
        rw [List.append_nil] at hq
        subst hq
        go_wp2
        go_ret
        exact ⟨Hb0.out.trans (Hb.out.mono Hb0.out.size), _, rfl, Hown.out.base Hb0.out.size⟩
end Go.Proofs.YtjmmecokfijglaaGreatDoor
