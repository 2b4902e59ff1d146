/-
  Contract of the document's own Merge.
-/
import Derived.Test.YtamenhkbmbaopaaGreatDoorMrgR
namespace Go.Proofs.YtamenhkbmbaopaaGreatDoor
open Go.ChangeShapes Go.WideShapes Go.ChangeAt Go.RowKit Go.Maps

theorem mPut_length (l : List Pr) (p : Pr) : (mPut l p).length ≤ l.length + 1 := by
  have h1 : ∀ m : List Pr, (mIns p m).length = m.length + 1 := by
    intro m
    induction m with
    | nil => rfl
    | cons y r ih => unfold mIns; split <;> simp [ih]
  unfold mPut
  rw [h1]
  have := List.length_filter_le (fun y : Pr => !(y.1 == p.1)) l
  omega

set_option maxRecDepth 100000 in
set_option maxHeartbeats 1000000 in
theorem refMerge_any (g l : List Pr) (ag al : Option Addr) (cg cl : Nat) (w : World) (hg : PairsIn w (.slice ag g.length cg) g) (hl : PairsIn w (.slice al l.length cl) l)
    (hlen : g.length + l.length ≤ 1099511627776) :
    Calls Tryz.prog 10 #[.slice ag g.length cg, .slice al l.length cl] w fun e w' => Below w.heap.size w w' ∧ ∃ v, e = .returned v ∧ OwnP w' w.heap.size v (mMerge g l) := by
  have Hg := Lib.hid hg.cells
  have Hl := Lib.hid hl.cells
  have Hlen := Lib.hid hlen
  generalize hR : mMerge g l = R
  have HR := Lib.hid hR
  clear hg hl hlen hR
  go_enter Tryz.func10, Tryz.ntmps10
  go_wp2
  go_loopw [5, 6] (fun o i wr => ∃ (k : Nat) (M : List Pr) (av : Option Addr) (cs : Nat), o = .slice av M.length cs ∧ i = .int .i64 k ∧ k ≤ g.length ∧ M = mAll [] (g.take k) ∧ Rising M ∧ M.length ≤ k ∧ PairsIn wr (.slice av M.length cs) M ∧ Below w.heap.size w wr) (fun _ i _ => g.length - (intOf i).toNat)
  case atStart => exact ⟨0, [], some ⟨w.heap.size, 0, none⟩, 0, rfl, rfl, Nat.zero_le _, rfl, List.Pairwise.nil, Nat.zero_le _, (OwnP.fresh w).pairs, (Below.refl _ _).alloc (Nat.le_refl _) _⟩
  case round =>
    obtain ⟨k, M, av, cs, rfl, rfl, hk, hM, hris, hMl, hin, hb⟩ := hrel
    have HM := Lib.hid hM
    have Hris := Lib.hid hris
    have Hin := Lib.hid hin
    have Hb := Lib.hid hb
    clear hM hris hin hb
    by_cases hlt : k < g.length
    · obtain ⟨b, o, rfl, hb0, c1, c2⟩ := Hg.out k hlt
      have hkb : (k : Int) ≤ 1099511627776 := by have := Hlen.out; omega
      rw [← Hb.out.cell (p := ⟨b, o + k * 2, none⟩) hb0] at c1
      rw [← Hb.out.cell (p := ⟨b, o + k * 2 + 1, none⟩) hb0] at c2
      have Hst := Lib.hid (show mAll [] (g.take (k + 1)) = mPut M g[k] by rw [mAll_take [] hlt, ← HM.out])
      have hlt2 : (k : Int) < g.length := by omega
      generalize g[k] = p at *
      obtain ⟨x, y⟩ := p
      have hput := refPut_any M (x, y) av cs wr Hin.out (by have := Hlen.out; omega)
      unfold prVal at hput
      rw [rPut_eq (x, y) M Hris.out] at hput
      have Hput := Lib.hid hput
      clear hput
      go_wp2_with (fail)
      refine Hput.out.mono ?_
      rintro e w1 ⟨hb1, v, rfl, hown⟩
      obtain ⟨av2, cs2, rfl⟩ := hown.slice
      have Hin1 := Lib.hid hown.pairs
      have Hb1 := Lib.hid (Hb.out.trans (hb1.mono Hb.out.size))
      have hl1 := mPut_length M (x, y)
      clear hown hb1
      go_wp2
      go_roundw
      case rel => exact ⟨k + 1, _, av2, cs2, rfl, by go_num, by omega, Hst.out.symm, mPut_rising Hris.out, by omega, Hin1.out, Hb1.out⟩
      case measure => simp [intOf]; omega
    · have hkn : k = g.length := by omega
      subst hkn
      rw [List.take_length] at HM
      clear Hg hlt
      go_wp2
      go_loopw [5, 7] (fun o i wr => ∃ (k : Nat) (N : List Pr) (av : Option Addr) (cs : Nat), o = .slice av N.length cs ∧ i = .int .i64 k ∧ k ≤ l.length ∧ N = mAll M (l.take k) ∧ Rising N ∧ N.length ≤ g.length + k ∧ PairsIn wr (.slice av N.length cs) N ∧ Below w.heap.size w wr) (fun _ i _ => l.length - (intOf i).toNat)
      case atStart => exact ⟨0, M, av, cs, rfl, rfl, Nat.zero_le _, rfl, Hris.out, by omega, Hin.out, Hb.out⟩
      case round =>
        obtain ⟨k, N, av, cs, rfl, rfl, hk, hN, hris, hNl, hin, hb⟩ := hrel
        have HN := Lib.hid hN
        clear Hris Hin Hb
        have Hris := Lib.hid hris
        have Hin := Lib.hid hin
        have Hb := Lib.hid hb
        clear hN hris hin hb
        by_cases hlt : k < l.length
        · obtain ⟨b, o, rfl, hb0, c1, c2⟩ := Hl.out k hlt
          have hkb : (k : Int) ≤ 1099511627776 := by have := Hlen.out; omega
          rw [← Hb.out.cell (p := ⟨b, o + k * 2, none⟩) hb0] at c1
          rw [← Hb.out.cell (p := ⟨b, o + k * 2 + 1, none⟩) hb0] at c2
          have Hst := Lib.hid (show mAll M (l.take (k + 1)) = mPut N l[k] by rw [mAll_take M hlt, ← HN.out])
          have hlt2 : (k : Int) < l.length := by omega
          generalize l[k] = p at *
          obtain ⟨x, y⟩ := p
          have hput := refPut_any N (x, y) av cs wr Hin.out (by have := Hlen.out; omega)
          unfold prVal at hput
          rw [rPut_eq (x, y) N Hris.out] at hput
          have Hput := Lib.hid hput
          clear hput
          go_wp2_with (fail)
          refine Hput.out.mono ?_
          rintro e w1 ⟨hb1, v, rfl, hown⟩
          obtain ⟨av2, cs2, rfl⟩ := hown.slice
          have Hin1 := Lib.hid hown.pairs
          have Hb1 := Lib.hid (Hb.out.trans (hb1.mono Hb.out.size))
          have hl1 := mPut_length N (x, y)
          clear hown hb1
          go_wp2
          go_roundw
          case rel => exact ⟨k + 1, _, av2, cs2, rfl, by go_num, by omega, Hst.out.symm, mPut_rising Hris.out, by omega, Hin1.out, Hb1.out⟩
          case measure => simp [intOf]; omega
        · have hkn : k = l.length := by omega
          subst hkn
          rw [List.take_length, HM.out] at HN
          have HR2 := Lib.hid (show N.filter full = R by rw [HN.out]; exact HR.out)
          have Hc := Lib.hid Hin.out.cells
          have HNl := Lib.hid (show N.length ≤ 1099511627776 by have := Hlen.out; omega)
          obtain ⟨i0, hi, hz0, hz1, hz2⟩ := info_parts zero_pair
          clear Hl hlt HM HN Hris Hin hNl hMl
          go_wp2
          go_loopw [8, 9] (fun s i wx => ∃ (j : Nat) (F : List Pr) (au : Option Addr) (cu : Nat), s = .slice au F.length cu ∧ i = .int .i64 j ∧ j ≤ N.length ∧ F = (N.take j).filter full ∧ OwnP wx wr.heap.size (.slice au F.length cu) F ∧ Below wr.heap.size wr wx) (fun _ i _ => N.length - (intOf i).toNat)
          case atStart => exact ⟨0, [], some ⟨wr.heap.size, 0, none⟩, 0, rfl, rfl, Nat.zero_le _, rfl, OwnP.fresh wr, (Below.refl _ _).alloc (Nat.le_refl _) _⟩
          case round =>
            obtain ⟨j, F, au, cu, rfl, rfl, hj, hF, hownp, hbx⟩ := hrel
            rename World => wx
            have Hownp := Lib.hid hownp
            have Hbx := Lib.hid hbx
            have HF := Lib.hid hF
            clear hownp hbx hF
            by_cases hlt : j < N.length
            · obtain ⟨b, o, rfl, hb0, c1, c2⟩ := Hc.out j hlt
              rw [← Hbx.out.cell (p := ⟨b, o + j * 2, none⟩) hb0] at c1
              rw [← Hbx.out.cell (p := ⟨b, o + j * 2 + 1, none⟩) hb0] at c2
              have Hst := Lib.hid (show (N.take (j + 1)).filter full = F ++ (if full N[j] = true then [N[j]] else []) by rw [filter_take hlt, ← HF.out])
              have hfl : F.length ≤ j := by
                have h1 := List.length_filter_le full (N.take j)
                rw [List.length_take, ← HF.out] at h1
                omega
              have hjb : (j : Int) ≤ 1099511627776 := by have := HNl.out; omega
              have hlt2 : (j : Int) < N.length := by omega
              generalize N[j] = p at *
              obtain ⟨x, y⟩ := p
              simp only at c1 c2
              cases y with
              | nil =>
                go_wp2
                go_roundw
                case rel => exact ⟨j + 1, F, au, cu, rfl, by go_num, by omega, by rw [Hst.out]; simp [full], Hownp.out, Hbx.out⟩
                case measure => simp [intOf]; omega
              | cons y0 y =>
                generalize hyy : y0 :: y = yy at *
                have Hyy := Lib.hid (show full (x, yy) = true by rw [← hyy]; rfl)
                have hne : (yy == []) = false := by rw [← hyy]; rfl
                clear hyy
                go_wp2_with (first | (at_builtin; go_loud (refine wpList_append_own _ rfl _ _ 22 rfl wr.heap.size 27 i0 (.agg #[.string ⟨#[]⟩, .string ⟨#[]⟩]) 2 32 Tryz.underlying22 hi hz0 hz1 hz2 rfl (by decide) _ _ _ rfl (World.ownsRow.alloc Hownp.out _) ⟨wx.heap.size, 0, none⟩ 1 1 [.string ⟨x.toArray⟩, .string ⟨yy.toArray⟩] rfl rfl (fun j u hj => cell_two_new wx _ _ 27 j u hj) (one_two _ _) ?c3 ?c4 ?c5 ?_)) | go_in)
                case c3 => have := HNl.out; unfold maxLen; omega
                case c4 => have := HNl.out; omega
                case c5 => have := Hbx.out.size; simp; omega
                intro v' w2 hown2 hgrow hnil
                have hown3 : OwnP w2 wr.heap.size v' (F ++ [(x, yy)]) := by
                  show w2.ownsRow wr.heap.size _ 2 v' (F ++ [(x, yy)]).length (pairCells (F ++ [(x, yy)]))
                  rw [pairCells_append, List.length_append]
                  exact hown2
                have hb3 : Below wr.heap.size wr w2 := (Hbx.out.alloc Hbx.out.size _).grown hgrow (by have := Hbx.out.size; simp; omega) (fun k hk => (Hownp.out.lt k hk).1)
                obtain ⟨av2, cs2, rfl⟩ := hown3.slice
                have Hown3 := Lib.hid hown3
                have Hb3 := Lib.hid hb3
                clear hown2 hgrow hown3 hb3 hnil
                go_wp2
                go_roundw
                case rel => exact ⟨j + 1, _, av2, cs2, rfl, by go_num, by omega, by rw [Hst.out, if_pos Hyy.out], Hown3.out, Hb3.out⟩
                case measure => simp [intOf]; omega
            · have hjn : j = N.length := by omega
              subst hjn
              have hFR : F = R := by rw [HF.out, List.take_length]; exact HR2.out
              subst hFR
              go_wp2
              go_ret
              exact ⟨Hb.out.trans (Hbx.out.mono Hb.out.size), _, rfl, Hownp.out.base Hb.out.size⟩
end Go.Proofs.YtamenhkbmbaopaaGreatDoor
