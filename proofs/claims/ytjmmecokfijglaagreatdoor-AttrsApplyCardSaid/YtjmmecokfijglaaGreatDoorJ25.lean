/-
  Texts of this seat's proof, joined: their order is that of the build.
-/
import Derived.Test.YtjmmecokfijglaaGreatDoorJ20
import Derived.Test.YtjmmecokfijglaaGreatDoorJ18
import Derived.Deep.QuietTactic
import Derived.BigQuiet
namespace Go.Proofs.YtjmmecokfijglaaGreatDoor
open Go.ChangeShapes Go.WideShapes Go.ChangeAt Go.RowKit Go.Maps

theorem mPut_length (l : List Pr) (p : Pr) : (mPut l p).length ≤ l.length + 1 := by
  have h1 : ∀ m : List Pr, (mIns p m).length = m.length + 1 := by
    intro m
    induction m with
    | nil => rfl
    | cons y r ih => unfold mIns; split <;> simp [ih]
  unfold mPut
  rw [h1]
  have := List.length_filter_le (fun y : Pr => !(y.1 == p.1)) l
  omega

set_option maxRecDepth 100000 in
set_option maxHeartbeats 1000000 in
theorem refMerge_any (g l : List Pr) (ag al : Option Addr) (cg cl : Nat) (w : World) (hg : PairsIn w (.slice ag g.length cg) g) (hl : PairsIn w (.slice al l.length cl) l)
    (hlen : g.length + l.length ≤ 1099511627776) :
    Calls Tryz.prog 12 #[.slice ag g.length cg, .slice al l.length cl] w fun e w' => Below w.heap.size w w' ∧ ∃ v, e = .returned v ∧ OwnP w' w.heap.size v (mMerge g l) := by
  have Hg := Lib.hid hg.cells
  have Hl := Lib.hid hl.cells
  have Hlen := Lib.hid hlen
  generalize hR : mMerge g l = R
  have HR := Lib.hid hR
  clear hg hl hlen hR
  go_enter Tryz.func12, Tryz.ntmps12
  go_wp2
  go_loopw [5, 6] (fun o i wr => ∃ (k : Nat) (M : List Pr) (av : Option Addr) (cs : Nat), o = .slice av M.length cs ∧ i = .int .i64 k ∧ k ≤ g.length ∧ M = mAll [] (g.take k) ∧ Rising M ∧ M.length ≤ k ∧ PairsIn wr (.slice av M.length cs) M ∧ Below w.heap.size w wr) (fun _ i _ => g.length - (intOf i).toNat)
  case atStart => exact ⟨0, [], some ⟨w.heap.size, 0, none⟩, 0, rfl, rfl, Nat.zero_le _, rfl, List.Pairwise.nil, Nat.zero_le _, (OwnP.fresh w).pairs, (Below.refl _ _).alloc (Nat.le_refl _) _⟩
  case round =>
    obtain ⟨k, M, av, cs, rfl, rfl, hk, hM, hris, hMl, hin, hb⟩ := hrel
    have HM := Lib.hid hM
    have Hris := Lib.hid hris
    have Hin := Lib.hid hin
    have Hb := Lib.hid hb
    clear hM hris hin hb
    by_cases hlt : k < g.length
    · obtain ⟨b, o, rfl, hb0, c1, c2⟩ := Hg.out k hlt
      have hkb : (k : Int) ≤ 1099511627776 := by have := Hlen.out; omega
      rw [← Hb.out.cell (p := ⟨b, o + k * 2, none⟩) hb0] at c1
      rw [← Hb.out.cell (p := ⟨b, o + k * 2 + 1, none⟩) hb0] at c2
      have Hst := Lib.hid (show mAll [] (g.take (k + 1)) = mPut M g[k] by rw [mAll_take [] hlt, ← HM.out])
      have hlt2 : (k : Int) < g.length := by omega
      generalize g[k] = p at *
      obtain ⟨x, y⟩ := p
      have hput := refPut_any M (x, y) av cs wr Hin.out (by have := Hlen.out; omega)
      unfold prVal at hput
      rw [rPut_eq (x, y) M Hris.out] at hput
      have Hput := Lib.hid hput
      clear hput
      go_wp2_with (fail)
      refine Hput.out.mono ?_
      rintro e w1 ⟨hb1, v, rfl, hown⟩
      obtain ⟨av2, cs2, rfl⟩ := hown.slice
      have Hin1 := Lib.hid hown.pairs
      have Hb1 := Lib.hid (Hb.out.trans (hb1.mono Hb.out.size))
      have hl1 := mPut_length M (x, y)
      clear hown hb1
      go_wp2
      go_roundw
      case rel => exact ⟨k + 1, _, av2, cs2, rfl, by go_num, by omega, Hst.out.symm, mPut_rising Hris.out, by omega, Hin1.out, Hb1.out⟩
      case measure => simp [intOf]; omega
    · have hkn : k = g.length := by omega
      subst hkn
      rw [List.take_length] at HM
      clear Hg hlt
      go_wp2
      go_loopw [5, 7] (fun o i wr => ∃ (k : Nat) (N : List Pr) (av : Option Addr) (cs : Nat), o = .slice av N.length cs ∧ i = .int .i64 k ∧ k ≤ l.length ∧ N = mAll M (l.take k) ∧ Rising N ∧ N.length ≤ g.length + k ∧ PairsIn wr (.slice av N.length cs) N ∧ Below w.heap.size w wr) (fun _ i _ => l.length - (intOf i).toNat)
      case atStart => exact ⟨0, M, av, cs, rfl, rfl, Nat.zero_le _, rfl, Hris.out, by omega, Hin.out, Hb.out⟩
      case round =>
        obtain ⟨k, N, av, cs, rfl, rfl, hk, hN, hris, hNl, hin, hb⟩ := hrel
        have HN := Lib.hid hN
        clear Hris Hin Hb
        have Hris := Lib.hid hris
        have Hin := Lib.hid hin
        have Hb := Lib.hid hb
        clear hN hris hin hb
        by_cases hlt : k < l.length
        · obtain ⟨b, o, rfl, hb0, c1, c2⟩ := Hl.out k hlt
          have hkb : (k : Int) ≤ 1099511627776 := by have := Hlen.out; omega
          rw [← Hb.out.cell (p := ⟨b, o + k * 2, none⟩) hb0] at c1
          rw [← Hb.out.cell (p := ⟨b, o + k * 2 + 1, none⟩) hb0] at c2
          have Hst := Lib.hid (show mAll M (l.take (k + 1)) = mPut N l[k] by rw [mAll_take M hlt, ← HN.out])
          have hlt2 : (k : Int) < l.length := by omega
          generalize l[k] = p at *
          obtain ⟨x, y⟩ := p
          have hput := refPut_any N (x, y) av cs wr Hin.out (by have := Hlen.out; omega)
          unfold prVal at hput
          rw [rPut_eq (x, y) N Hris.out] at hput
          have Hput := Lib.hid hput
          clear hput
          go_wp2_with (fail)
          refine Hput.out.mono ?_
          rintro e w1 ⟨hb1, v, rfl, hown⟩
          obtain ⟨av2, cs2, rfl⟩ := hown.slice
          have Hin1 := Lib.hid hown.pairs
          have Hb1 := Lib.hid (Hb.out.trans (hb1.mono Hb.out.size))
          have hl1 := mPut_length N (x, y)
          clear hown hb1
          go_wp2
          go_roundw
          case rel => exact ⟨k + 1, _, av2, cs2, rfl, by go_num, by omega, Hst.out.symm, mPut_rising Hris.out, by omega, Hin1.out, Hb1.out⟩
          case measure => simp [intOf]; omega
        · have hkn : k = l.length := by omega
          subst hkn
          rw [List.take_length, HM.out] at HN
          have HR2 := Lib.hid (show N.filter full = R by rw [HN.out]; exact HR.out)
          have Hc := Lib.hid Hin.out.cells
          have HNl := Lib.hid (show N.length ≤ 1099511627776 by have := Hlen.out; omega)
          obtain ⟨i0, hi, hz0, hz1, hz2⟩ := info_parts zero_pair
          clear Hl hlt HM HN Hris Hin hNl hMl
          go_wp2
          go_loopw [8, 9] (fun s i wx => ∃ (j : Nat) (F : List Pr) (au : Option Addr) (cu : Nat), s = .slice au F.length cu ∧ i = .int .i64 j ∧ j ≤ N.length ∧ F = (N.take j).filter full ∧ OwnP wx wr.heap.size (.slice au F.length cu) F ∧ Below wr.heap.size wr wx) (fun _ i _ => N.length - (intOf i).toNat)
          case atStart => exact ⟨0, [], some ⟨wr.heap.size, 0, none⟩, 0, rfl, rfl, Nat.zero_le _, rfl, OwnP.fresh wr, (Below.refl _ _).alloc (Nat.le_refl _) _⟩
          case round =>
            obtain ⟨j, F, au, cu, rfl, rfl, hj, hF, hownp, hbx⟩ := hrel
            rename World => wx
            have Hownp := Lib.hid hownp
            have Hbx := Lib.hid hbx
            have HF := Lib.hid hF
            clear hownp hbx hF
            by_cases hlt : j < N.length
            · obtain ⟨b, o, rfl, hb0, c1, c2⟩ := Hc.out j hlt
              rw [← Hbx.out.cell (p := ⟨b, o + j * 2, none⟩) hb0] at c1
              rw [← Hbx.out.cell (p := ⟨b, o + j * 2 + 1, none⟩) hb0] at c2
              have Hst := Lib.hid (show (N.take (j + 1)).filter full = F ++ (if full N[j] = true then [N[j]] else []) by rw [filter_take hlt, ← HF.out])
              have hfl : F.length ≤ j := by
                have h1 := List.length_filter_le full (N.take j)
                rw [List.length_take, ← HF.out] at h1
                omega
              have hjb : (j : Int) ≤ 1099511627776 := by have := HNl.out; omega
              have hlt2 : (j : Int) < N.length := by omega
              generalize N[j] = p at *
              obtain ⟨x, y⟩ := p
              simp only at c1 c2
              cases y with
              | nil =>
                go_wp2
                go_roundw
                case rel => exact ⟨j + 1, F, au, cu, rfl, by go_num, by omega, by rw [Hst.out]; simp [full], Hownp.out, Hbx.out⟩
                case measure => simp [intOf]; omega
              | cons y0 y =>
                generalize hyy : y0 :: y = yy at *
                have Hyy := Lib.hid (show full (x, yy) = true by rw [← hyy]; rfl)
                have hne : (yy == []) = false := by rw [← hyy]; rfl
                clear hyy
                go_wp2_with (first | (at_builtin; go_loud (refine wpList_append_own _ rfl _ _ 22 rfl wr.heap.size 27 i0 (.agg #[.string ⟨#[]⟩, .string ⟨#[]⟩]) 2 32 Tryz.underlying22 hi hz0 hz1 hz2 rfl (by decide) _ _ _ rfl (World.ownsRow.alloc Hownp.out _) ⟨wx.heap.size, 0, none⟩ 1 1 [.string ⟨x.toArray⟩, .string ⟨yy.toArray⟩] rfl rfl (fun j u hj => cell_two_new wx _ _ 27 j u hj) (one_two _ _) ?c3 ?c4 ?c5 ?_)) | go_in)
                case c3 => have := HNl.out; unfold maxLen; omega
                case c4 => have := HNl.out; omega
                case c5 => have := Hbx.out.size; simp; omega
                intro v' w2 hown2 hgrow hnil
                have hown3 : OwnP w2 wr.heap.size v' (F ++ [(x, yy)]) := by
                  show w2.ownsRow wr.heap.size _ 2 v' (F ++ [(x, yy)]).length (pairCells (F ++ [(x, yy)]))
                  rw [pairCells_append, List.length_append]
                  exact hown2
                have hb3 : Below wr.heap.size wr w2 := (Hbx.out.alloc Hbx.out.size _).grown hgrow (by have := Hbx.out.size; simp; omega) (fun k hk => (Hownp.out.lt k hk).1)
                obtain ⟨av2, cs2, rfl⟩ := hown3.slice
                have Hown3 := Lib.hid hown3
                have Hb3 := Lib.hid hb3
                clear hown2 hgrow hown3 hb3 hnil
                go_wp2
                go_roundw
                case rel => exact ⟨j + 1, _, av2, cs2, rfl, by go_num, by omega, by rw [Hst.out, if_pos Hyy.out], Hown3.out, Hb3.out⟩
                case measure => simp [intOf]; omega
            · have hjn : j = N.length := by omega
              subst hjn
              have hFR : F = R := by rw [HF.out, List.take_length]; exact HR2.out
              subst hFR
              go_wp2
              go_ret
              exact ⟨Hb.out.trans (Hbx.out.mono Hb.out.size), _, rfl, Hownp.out.base Hb.out.size⟩
end Go.Proofs.YtjmmecokfijglaaGreatDoor
namespace Go.Proofs.YtjmmecokfijglaaGreatDoor
open Go.ChangeShapes Go.WideShapes Go.ChangeAt Go.RowKit Go.Maps

def longP (p : Pr) : Bool := decide (300 < p.1.length) || decide (300 < p.2.length)
def tooLong (l : List Pr) : Bool := decide (12 < l.length) || l.any longP
theorem tooLong_fits {l : List Pr} (h : tooLong l = false) : l.length ≤ 12 ∧ prFits 600 l := by
  unfold tooLong at h
  rw [Bool.or_eq_false_iff] at h
  refine ⟨by have := of_decide_eq_false h.1; omega, fun p hp => ?_⟩
  have h2 := List.any_eq_false.1 h.2 p hp
  unfold longP at h2
  simp only [Bool.or_eq_true, decide_eq_true_eq, not_or] at h2
  omega

set_option maxRecDepth 100000 in
set_option maxHeartbeats 1000000 in
theorem long_any (l : List Pr) (al : Option Addr) (cl : Nat) (w : World) (hl : PairsIn w (.slice al l.length cl) l) :
    Calls Tryz.prog 8 #[.slice al l.length cl] w fun e w' => Below w.heap.size w w' ∧ e = .returned (.bool (tooLong l)) := by
  have Hl := Lib.hid hl.cells
  generalize hR : tooLong l = R
  have HR := Lib.hid hR
  clear hl hR
  by_cases h12 : 12 < l.length
  · have Hq := Lib.hid (show R = true by rw [← HR.out]; unfold tooLong; rw [decide_eq_true h12]; rfl)
    have h1 : (12 : Int) < l.length := by omega
    clear h12
    go_enter Tryz.func8, Tryz.ntmps8
    go_wp2
    go_ret
    rw [Hq.out]
    exact ⟨Below.refl _ _, rfl⟩
  · have h1 : ¬ (12 : Int) < l.length := by omega
    have HR2 := Lib.hid (show l.any longP = R by rw [← HR.out]; unfold tooLong; rw [decide_eq_false h12]; rfl)
    clear HR
    go_enter Tryz.func8, Tryz.ntmps8
    go_wp2
    go_loopw [10] (fun i wr => ∃ k : Nat, i = .int .i64 k ∧ k ≤ l.length ∧ (l.take k).any longP = false ∧ Below w.heap.size w wr) (fun i _ => l.length - (intOf i).toNat)
    case atStart => exact ⟨0, rfl, Nat.zero_le _, rfl, Below.refl _ _⟩
    case round =>
      obtain ⟨k, rfl, hk, hf, hb⟩ := hrel
      have Hf := Lib.hid hf
      have Hb := Lib.hid hb
      clear hf hb
      by_cases hlt : k < l.length
      · obtain ⟨b, o, rfl, hb0, c1, c2⟩ := Hl.out k hlt
        rw [← Hb.out.cell (p := ⟨b, o + k * 2, none⟩) hb0] at c1
        rw [← Hb.out.cell (p := ⟨b, o + k * 2 + 1, none⟩) hb0] at c2
        have hlt2 : (k : Int) < l.length := by omega
        have Hst := Lib.hid (show longP l[k] = false → (l.take (k + 1)).any longP = false from fun h => by
          rw [List.take_succ_eq_append_getElem hlt, List.any_append, Hf.out, List.any_cons, h]; rfl)
        have Hyes := Lib.hid (show longP l[k] = true → R = true from fun h => by
          rw [← HR2.out, List.any_eq_true]; exact ⟨l[k], List.getElem_mem hlt, h⟩)
        generalize l[k] = p at *
        obtain ⟨x, y⟩ := p
        simp only at c1 c2
        by_cases hx : 300 < x.length
        · have Hq := Lib.hid (Hyes.out (by unfold longP; rw [decide_eq_true hx]; rfl))
          have h2 : (300 : Int) < x.length := by omega
          clear hx Hyes Hst
          go_wp2
          go_ret
          rw [Hq.out]
          exact ⟨Hb.out.alloc Hb.out.size _, rfl⟩
        · have h2 : ¬ (300 : Int) < x.length := by omega
          by_cases hy : 300 < y.length
          · have Hq := Lib.hid (Hyes.out (by unfold longP; rw [decide_eq_true hy, Bool.or_true]))
            have h3 : (300 : Int) < y.length := by omega
            clear hx hy Hyes Hst
            go_wp2
            go_ret
            rw [Hq.out]
            exact ⟨Hb.out.alloc Hb.out.size _, rfl⟩
          · have h3 : ¬ (300 : Int) < y.length := by omega
            have Hq := Lib.hid (Hst.out (by unfold longP; rw [decide_eq_false hx, decide_eq_false hy]; rfl))
            clear hx hy Hyes Hst
            go_wp2
            go_roundw
            case rel => exact ⟨k + 1, by go_num, by omega, Hq.out, Hb.out.alloc Hb.out.size _⟩
            case measure => simp [intOf]; omega
      · have hkn : k = l.length := by omega
        subst hkn
        have Hq := Lib.hid (show R = false by rw [← HR2.out, ← Hf.out, List.take_length])
        go_wp2
        go_ret
        rw [Hq.out]
        exact ⟨Hb.out, rfl⟩
end Go.Proofs.YtjmmecokfijglaaGreatDoor
namespace Go.Proofs.YtjmmecokfijglaaGreatDoor
open Go.ChangeShapes Go.WideShapes Go.ChangeAt Go.RowKit

theorem same_any (x y : List Pr) (b o c : Nat) (b2 o2 c2 : Nat) (w : World) (hx : PairsAt w b o x) (hy : PairsAt w b2 o2 y) (hlx : x.length ≤ 140737488355328) (hly : y.length ≤ 140737488355328) :
    Calls Tryz.prog 11 #[.slice (some ⟨b, o, none⟩) x.length c, .slice (some ⟨b2, o2, none⟩) y.length c2] w fun e w' => e = .returned (.bool (decide (x = y))) ∧ ∃ m, w' = w.drewN m := by
  go_enter Tryz.func11, Tryz.ntmps11
  go_wp2
  · have hne : (x.length : Int) ≠ y.length := by have h : ((x.length : Int) != y.length) = true := (by assumption); simpa using h
    have Hq := Lib.hid (show decide (x = y) = false from decide_eq_false (fun e => hne (by rw [e])))
    go_ret
    rw [Hq.out]
    exact ⟨rfl, 0, rfl⟩
  · have hll : (x.length : Int) = y.length := by have h : ((x.length : Int) != y.length) = false := (by assumption); simpa using h
    have Hll := Lib.hid (show x.length = y.length by omega)
    go_loopw [5] (fun i wr => ∃ k m : Nat, i = .int .i64 k ∧ k ≤ x.length ∧ x.take k = y.take k ∧ wr = w.drewN m) (fun i _ => x.length - (intOf i).toNat)
    case atStart => exact ⟨0, 0, rfl, Nat.zero_le _, rfl, rfl⟩
    case round =>
      obtain ⟨k, m, rfl, hk, hs, rfl⟩ := hrel
      have Hs := Lib.hid hs
      clear hs
      by_cases hlt : k < x.length
      · have hly2 : k < y.length := by omega
        obtain ⟨c1, c2⟩ := (show PairsAt (w.drewN m) b o x from hx) k hlt
        obtain ⟨d1, d2⟩ := (show PairsAt (w.drewN m) b2 o2 y from hy) k hly2
        have Hdr := Lib.hid (fun j => show (w.drewN m).drewN j = w.drewN (m + j) from drewN_add w m j)
        generalize w.drewN m = wd at *
        have Heq := Lib.hid (show x[k] = y[k] → x.take (k + 1) = y.take (k + 1) from fun e => by rw [List.take_succ_eq_append_getElem hlt, List.take_succ_eq_append_getElem hly2, Hs.out, e])
        have Hne := Lib.hid (show x[k] ≠ y[k] → decide (x = y) = false from fun e => decide_eq_false (fun h => e (by subst h; rfl)))
        generalize hD : decide (x = y) = D at *
        have HD := Lib.hid hD
        clear hD
        have hlt1 : (k : Int) < x.length := by omega
        have hlt2 : (k : Int) < y.length := by omega
        generalize x[k] = p at *
        generalize y[k] = q at *
        obtain ⟨p1, p2⟩ := p
        obtain ⟨q1, q2⟩ := q
        by_cases hpq : ((p1, p2) : Pr) = (q1, q2)
        · have Hq := Lib.hid (Heq.out hpq)
          have hneq := fun W => pair_neq (p1, p2) (q1, q2) W
          rw [decide_eq_true hpq] at hneq
          simp only at hneq c1 c2 d1 d2
          clear hpq Heq Hne
          go_wp2
          go_quiet (fail)
          go_wp2
          go_roundw
          case rel => exact ⟨k + 1, m + nq, by go_num, by omega, Hq.out, Hdr.out nq⟩
          case measure => simp [intOf]; omega
        · have Hq := Lib.hid (Hne.out hpq)
          have hneq := fun W => pair_neq (p1, p2) (q1, q2) W
          rw [decide_eq_false hpq] at hneq
          simp only at hneq c1 c2 d1 d2
          clear hpq Heq Hne
          go_wp2
          go_quiet (fail)
          go_wp2
          go_ret
          rw [HD.out, Hq.out]
          exact ⟨rfl, m + nq, Hdr.out nq⟩
      · have hkn : k = x.length := by omega
        subst hkn
        have Hq := Lib.hid (show decide (x = y) = true from decide_eq_true (by
          have := Hs.out
          rwa [List.take_length, Hll.out, List.take_length] at this))
        go_wp2
        go_ret
        rw [Hq.out]
        exact ⟨rfl, m, rfl⟩


theorem same_nil (ad ad2 : Option Addr) (c c2 : Nat) (w : World) :
    Calls Tryz.prog 11 #[.slice ad 0 c, .slice ad2 0 c2] w fun e w' => e = .returned (.bool true) ∧ ∃ m, w' = w.drewN m := by
  go_enter Tryz.func11, Tryz.ntmps11
  go_wp2
  go_loop [5] (fun i => i = .int .i64 0) (fun _ => 0)
  case atStart => exact rfl
  case round =>
    obtain rfl := hrel
    go_wp2
    go_ret
    exact ⟨rfl, 0, rfl⟩
theorem same_len (ad ad2 : Option Addr) (n n2 c c2 : Nat) (w : World) (hn : n ≠ n2) :
    Calls Tryz.prog 11 #[.slice ad n c, .slice ad2 n2 c2] w fun e w' => e = .returned (.bool false) ∧ ∃ m, w' = w.drewN m := by
  have hne : ((n : Int) != n2) = true := by
    rw [bne_iff_ne]; omega
  go_enter Tryz.func11, Tryz.ntmps11
  go_wp2
  go_ret
  exact ⟨rfl, 0, rfl⟩
theorem sameIn_any (x y : List Pr) (v u : Value) (w : World) (hx : PairsIn w v x) (hy : PairsIn w u y) (hlx : x.length ≤ 140737488355328) (hly : y.length ≤ 140737488355328) :
    Calls Tryz.prog 11 #[v, u] w fun e w' => e = .returned (.bool (decide (x = y))) ∧ ∃ m, w' = w.drewN m := by
  obtain ⟨ad, c, rfl, h⟩ := hx
  obtain ⟨ad2, c2, rfl, h2⟩ := hy
  by_cases hl : x.length = y.length
  · by_cases hn : x = []
    · have hn2 : y = [] := by subst hn; exact List.length_eq_zero_iff.1 hl.symm
      subst hn hn2
      rw [decide_eq_true rfl]
      exact same_nil ad ad2 c c2 w
    · have hn2 : y ≠ [] := fun e => hn (by subst e; exact List.length_eq_zero_iff.1 hl)
      rcases h with h | ⟨b, o, rfl, hb, hp⟩
      · exact absurd h hn
      · rcases h2 with h2 | ⟨b2, o2, rfl, hb2, hp2⟩
        · exact absurd h2 hn2
        · exact same_any x y b o c b2 o2 c2 w hp hp2 hlx hly
  · rw [decide_eq_false (fun e => hl (by rw [e]))]
    exact same_len ad ad2 _ _ c c2 w hl
end Go.Proofs.YtjmmecokfijglaaGreatDoor
