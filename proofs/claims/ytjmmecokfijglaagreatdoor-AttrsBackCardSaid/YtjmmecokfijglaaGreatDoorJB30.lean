/-
  Texts of this seat's proof, joined: their order is that of the build.
-/
import Derived.Test.YtjmmecokfijglaaGreatDoorJB29
import Derived.Test.YtjmmecokfijglaaGreatDoorJB25
import Derived.Test.YtjmmecokfijglaaGreatDoorJB22
namespace Go.Proofs.YtjmmecokfijglaaGreatDoor
open Go.ChangeShapes Go.WideShapes Go.ChangeAt Go.RowKit Go.Maps

def longP (p : Pr) : Bool := decide (300 < p.1.length) || decide (300 < p.2.length)
def tooLong (l : List Pr) : Bool := decide (12 < l.length) || l.any longP
theorem tooLong_fits {l : List Pr} (h : tooLong l = false) : l.length ≤ 12 ∧ prFits 600 l := by
  unfold tooLong at h
  rw [Bool.or_eq_false_iff] at h
  refine ⟨by have := of_decide_eq_false h.1; omega, fun p hp => ?_⟩
  have h2 := List.any_eq_false.1 h.2 p hp
  unfold longP at h2
  simp only [Bool.or_eq_true, decide_eq_true_eq, not_or] at h2
  omega

set_option maxRecDepth 100000 in
set_option maxHeartbeats 1000000 in
theorem long_any (l : List Pr) (al : Option Addr) (cl : Nat) (w : World) (hl : PairsIn w (.slice al l.length cl) l) :
    Calls Tryz.prog 8 #[.slice al l.length cl] w fun e w' => Below w.heap.size w w' ∧ e = .returned (.bool (tooLong l)) := by
  have Hl := Lib.hid hl.cells
  generalize hR : tooLong l = R
  have HR := Lib.hid hR
  clear hl hR
  by_cases h12 : 12 < l.length
  · have Hq := Lib.hid (show R = true by rw [← HR.out]; unfold tooLong; rw [decide_eq_true h12]; rfl)
    have h1 : (12 : Int) < l.length := by omega
    clear h12
    go_enter Tryz.func8, Tryz.ntmps8
    go_wp2
    go_ret
    rw [Hq.out]
    exact ⟨Below.refl _ _, rfl⟩
  · have h1 : ¬ (12 : Int) < l.length := by omega
    have HR2 := Lib.hid (show l.any longP = R by rw [← HR.out]; unfold tooLong; rw [decide_eq_false h12]; rfl)
    clear HR
    go_enter Tryz.func8, Tryz.ntmps8
    go_wp2
    go_loopw [10] (fun i wr => ∃ k : Nat, i = .int .i64 k ∧ k ≤ l.length ∧ (l.take k).any longP = false ∧ Below w.heap.size w wr) (fun i _ => l.length - (intOf i).toNat)
    case atStart => exact ⟨0, rfl, Nat.zero_le _, rfl, Below.refl _ _⟩
    case round =>
      obtain ⟨k, rfl, hk, hf, hb⟩ := hrel
      have Hf := Lib.hid hf
      have Hb := Lib.hid hb
      clear hf hb
      by_cases hlt : k < l.length
      · obtain ⟨b, o, rfl, hb0, c1, c2⟩ := Hl.out k hlt
        rw [← Hb.out.cell (p := ⟨b, o + k * 2, none⟩) hb0] at c1
        rw [← Hb.out.cell (p := ⟨b, o + k * 2 + 1, none⟩) hb0] at c2
        have hlt2 : (k : Int) < l.length := by omega
        have Hst := Lib.hid (show longP l[k] = false → (l.take (k + 1)).any longP = false from fun h => by
          rw [List.take_succ_eq_append_getElem hlt, List.any_append, Hf.out, List.any_cons, h]; rfl)
        have Hyes := Lib.hid (show longP l[k] = true → R = true from fun h => by
          rw [← HR2.out, List.any_eq_true]; exact ⟨l[k], List.getElem_mem hlt, h⟩)
        generalize l[k] = p at *
        obtain ⟨x, y⟩ := p
        simp only at c1 c2
        by_cases hx : 300 < x.length
        · have Hq := Lib.hid (Hyes.out (by unfold longP; rw [decide_eq_true hx]; rfl))
          have h2 : (300 : Int) < x.length := by omega
          clear hx Hyes Hst
          go_wp2
          go_ret
          rw [Hq.out]
          exact ⟨Hb.out.alloc Hb.out.size _, rfl⟩
        · have h2 : ¬ (300 : Int) < x.length := by omega
          by_cases hy : 300 < y.length
          · have Hq := Lib.hid (Hyes.out (by unfold longP; rw [decide_eq_true hy, Bool.or_true]))
            have h3 : (300 : Int) < y.length := by omega
            clear hx hy Hyes Hst
            go_wp2
            go_ret
            rw [Hq.out]
            exact ⟨Hb.out.alloc Hb.out.size _, rfl⟩
          · have h3 : ¬ (300 : Int) < y.length := by omega
            have Hq := Lib.hid (Hst.out (by unfold longP; rw [decide_eq_false hx, decide_eq_false hy]; rfl))
            clear hx hy Hyes Hst
            go_wp2
            go_roundw
            case rel => exact ⟨k + 1, by go_num, by omega, Hq.out, Hb.out.alloc Hb.out.size _⟩
            case measure => simp [intOf]; omega
      · have hkn : k = l.length := by omega
        subst hkn
        have Hq := Lib.hid (show R = false by rw [← HR2.out, ← Hf.out, List.take_length])
        go_wp2
        go_ret
        rw [Hq.out]
        exact ⟨Hb.out, rfl⟩
end Go.Proofs.YtjmmecokfijglaaGreatDoor
namespace Go.Proofs.YtjmmecokfijglaaGreatDoor
open Go.ChangeShapes Go.WideShapes Go.ChangeAt Go.RowKit Go.Maps

set_option maxRecDepth 100000 in
set_option maxHeartbeats 1000000 in
theorem refLong_any (l : List Pr) (al : Option Addr) (cl : Nat) (w : World) (hl : PairsIn w (.slice al l.length cl) l) (hlen : l.length ≤ 9223372036854775807) :
    Calls Tryz.prog 34 #[.slice al l.length cl] w fun e w' => Below w.heap.size w w' ∧ e = .returned (.bool (tooLong l)) := by
  have Hl := Lib.hid hl.cells
  generalize hR : tooLong l = R
  have HR := Lib.hid hR
  have Hlen := Lib.hid hlen
  clear hl hR hlen
  by_cases h12 : 12 < l.length
  · have Hq := Lib.hid (show R = true by rw [← HR.out]; unfold tooLong; rw [decide_eq_true h12]; rfl)
    have h1 : (12 : Int) < l.length := by omega
    clear h12
    go_enter Tryz.func34, Tryz.ntmps34
    go_wp2
    go_ret
    rw [Hq.out]
    exact ⟨Below.refl _ _, rfl⟩
  · have h1 : ¬ (12 : Int) < l.length := by omega
    have HR2 := Lib.hid (show l.any longP = R by rw [← HR.out]; unfold tooLong; rw [decide_eq_false h12]; rfl)
    clear HR
    go_enter Tryz.func34, Tryz.ntmps34
    go_wp2
    go_loopw [3] (fun i wr => ∃ k : Nat, i = .int .i64 k ∧ k ≤ l.length ∧ (l.take k).any longP = false ∧ Below w.heap.size w wr) (fun i _ => l.length - (intOf i).toNat)
    case atStart => exact ⟨0, rfl, Nat.zero_le _, rfl, Below.refl _ _⟩
    case round =>
      obtain ⟨k, rfl, hk, hf, hb⟩ := hrel
      have Hf := Lib.hid hf
      have Hb := Lib.hid hb
      clear hf hb
      by_cases hlt : k < l.length
      · obtain ⟨b, o, rfl, hb0, c1, c2⟩ := Hl.out k hlt
        rw [← Hb.out.cell (p := ⟨b, o + k * 2, none⟩) hb0] at c1
        rw [← Hb.out.cell (p := ⟨b, o + k * 2 + 1, none⟩) hb0] at c2
        have hlt2 : (k : Int) < l.length := by omega
        have Hst := Lib.hid (show longP l[k] = false → (l.take (k + 1)).any longP = false from fun h => by
          rw [List.take_succ_eq_append_getElem hlt, List.any_append, Hf.out, List.any_cons, h]; rfl)
        have Hyes := Lib.hid (show longP l[k] = true → R = true from fun h => by
          rw [← HR2.out, List.any_eq_true]; exact ⟨l[k], List.getElem_mem hlt, h⟩)
        generalize l[k] = p at *
        obtain ⟨x, y⟩ := p
        simp only at c1 c2
        by_cases hx : 300 < x.length
        · have Hq := Lib.hid (Hyes.out (by unfold longP; rw [decide_eq_true hx]; rfl))
          have h2 : (300 : Int) < x.length := by omega
          clear hx Hyes Hst
          go_wp2
          go_ret
          rw [Hq.out]
          exact ⟨Hb.out, rfl⟩
        · have h2 : ¬ (300 : Int) < x.length := by omega
          by_cases hy : 300 < y.length
          · have Hq := Lib.hid (Hyes.out (by unfold longP; rw [decide_eq_true hy, Bool.or_true]))
            have h3 : (300 : Int) < y.length := by omega
            clear hx hy Hyes Hst
            go_wp2
            go_ret
            rw [Hq.out]
            exact ⟨Hb.out, rfl⟩
          · have h3 : ¬ (300 : Int) < y.length := by omega
            have Hq := Lib.hid (Hst.out (by unfold longP; rw [decide_eq_false hx, decide_eq_false hy]; rfl))
            clear hx hy Hyes Hst
            go_wp2
            go_roundw
            case rel => exact ⟨k + 1, by go_num, by omega, Hq.out, Hb.out⟩
            case measure => simp [intOf]; omega
      · have hkn : k = l.length := by omega
        subst hkn
        have Hq := Lib.hid (show R = false by rw [← HR2.out, ← Hf.out, List.take_length])
        go_wp2
        go_ret
        rw [Hq.out]
        exact ⟨Hb.out, rfl⟩

/-- Is a member too long to be gone through? -/
def mbLong (m : Mb) (X : List Pr) : Bool := tooLong X || (decide (600 < m.name.length) || (decide (600 < m.link.length) || (decide (100 < m.uname.length) || (decide (100 < m.gname.length) || decide (2000 < m.data.length)))))
set_option maxRecDepth 100000 in
set_option maxHeartbeats 1000000 in
theorem refLongM_any (m : Mb) (X : List Pr) (ax : Option Addr) (cx : Nat) (w : World) (hx : m.extra = .slice ax X.length cx) (hX : PairsIn w (.slice ax X.length cx) X) (hlen : X.length ≤ 9223372036854775807) :
    Calls Tryz.prog 16 #[m.val] w fun e w' => Below w.heap.size w w' ∧ e = .returned (.bool (mbLong m X)) := by
  have Ho := Lib.hid (Holds.new w 34 m.cells)
  have Hb0 := Lib.hid ((Below.refl w.heap.size w).alloc (Nat.le_refl _) (.cells m.cells.toArray 34))
  have HL := Lib.hid (refLong_any X ax cx (w.alloc (.cells m.cells.toArray 34)) (hX.under ((Below.refl w.heap.size w).alloc (Nat.le_refl _) _)) hlen)
  have K12 := Lib.hid (show m.cells[12]? = some (.slice ax X.length cx) by rw [← hx]; rfl)
  have K0 := Lib.hid (show m.cells[0]? = some (.string ⟨m.name.toArray⟩) from rfl)
  have K1 := Lib.hid (show m.cells[1]? = some (.string ⟨m.link.toArray⟩) from rfl)
  have K6 := Lib.hid (show m.cells[6]? = some (.string ⟨m.uname.toArray⟩) from rfl)
  have K7 := Lib.hid (show m.cells[7]? = some (.string ⟨m.gname.toArray⟩) from rfl)
  have K13 := Lib.hid (show m.cells[13]? = some (.string ⟨m.data.toArray⟩) from rfl)
  have HR := Lib.hid (show (tooLong X || (decide (600 < m.name.length) || (decide (600 < m.link.length) || (decide (100 < m.uname.length) || (decide (100 < m.gname.length) || decide (2000 < m.data.length)))))) = mbLong m X from rfl)
  generalize mbLong m X = R at *
  unfold Mb.val
  generalize m.name = nm at *
  generalize m.link = lk at *
  generalize m.uname = un at *
  generalize m.gname = gn at *
  generalize m.data = da at *
  generalize m.cells = C at *
  generalize tooLong X = tl at *
  clear hx hX hlen
  have c12 := Ho.out.at K12.out
  cases tl with
  | true =>
    go_enter Tryz.func16, Tryz.ntmps16
    go_wp2_with (fail)
    refine HL.out.mono ?_
    rintro e w1 ⟨hb1, rfl⟩
    have Hb1 := Lib.hid (Hb0.out.trans (hb1.mono (by simp)))
    clear hb1
    go_wp2
    go_ret
    rw [← HR.out]
    exact ⟨Hb1.out, rfl⟩
  | false =>
    go_enter Tryz.func16, Tryz.ntmps16
    go_wp2_with (fail)
    refine HL.out.mono ?_
    rintro e w1 ⟨hb1, rfl⟩
    have Hb1 := Lib.hid (Hb0.out.trans (hb1.mono (by simp)))
    have Ho1 := Lib.hid (Ho.out.under hb1 Ho.out.lt)
    have c0 := Ho1.out.at K0.out
    have c1 := Ho1.out.at K1.out
    have c6 := Ho1.out.at K6.out
    have c7 := Ho1.out.at K7.out
    have c13 := Ho1.out.at K13.out
    clear hb1 c12
    by_cases d0 : 600 < nm.length
    · have e0 : (600 : Int) < nm.length := by omega
      have Hq := Lib.hid (show R = true by rw [← HR.out, decide_eq_true d0]; rfl)
      clear d0
      go_wp2
      go_ret
      rw [Hq.out]
      exact ⟨Hb1.out, rfl⟩
    · have e0 : ¬ (600 : Int) < nm.length := by omega
      by_cases d1 : 600 < lk.length
      · have e1 : (600 : Int) < lk.length := by omega
        have Hq := Lib.hid (show R = true by rw [← HR.out, decide_eq_false d0, decide_eq_true d1]; rfl)
        clear d0 d1
        go_wp2
        go_ret
        rw [Hq.out]
        exact ⟨Hb1.out, rfl⟩
      · have e1 : ¬ (600 : Int) < lk.length := by omega
        by_cases d2 : 100 < un.length
        · have e2 : (100 : Int) < un.length := by omega
          have Hq := Lib.hid (show R = true by rw [← HR.out, decide_eq_false d0, decide_eq_false d1, decide_eq_true d2]; rfl)
          clear d0 d1 d2
          go_wp2
          go_ret
          rw [Hq.out]
          exact ⟨Hb1.out, rfl⟩
        · have e2 : ¬ (100 : Int) < un.length := by omega
          by_cases d3 : 100 < gn.length
          · have e3 : (100 : Int) < gn.length := by omega
            have Hq := Lib.hid (show R = true by rw [← HR.out, decide_eq_false d0, decide_eq_false d1, decide_eq_false d2, decide_eq_true d3]; rfl)
            clear d0 d1 d2 d3
            go_wp2
            go_ret
            rw [Hq.out]
            exact ⟨Hb1.out, rfl⟩
          · have e3 : ¬ (100 : Int) < gn.length := by omega
            by_cases d4 : 2000 < da.length
            · have e4 : (2000 : Int) < da.length := by omega
              have Hq := Lib.hid (show R = true by rw [← HR.out, decide_eq_false d0, decide_eq_false d1, decide_eq_false d2, decide_eq_false d3, decide_eq_true d4]; rfl)
              clear d0 d1 d2 d3 d4
              go_wp2
              go_ret
              rw [Hq.out]
              exact ⟨Hb1.out, rfl⟩
            · have e4 : ¬ (2000 : Int) < da.length := by omega
              have Hq := Lib.hid (show R = false by rw [← HR.out, decide_eq_false d0, decide_eq_false d1, decide_eq_false d2, decide_eq_false d3, decide_eq_false d4]; rfl)
              clear d0 d1 d2 d3 d4
              go_wp2
              go_ret
              rw [Hq.out]
              exact ⟨Hb1.out, by simp [e0, e1, e2, e3, e4]⟩
theorem mbLong_no {m : Mb} {X : List Pr} (h : mbLong m X = false) : tooLong X = false ∧ m.name.length ≤ 600 ∧ m.link.length ≤ 600 ∧ m.uname.length ≤ 100 ∧ m.gname.length ≤ 100 := by
  unfold mbLong at h
  simp only [Bool.or_eq_false_iff, decide_eq_false_iff_not] at h
  obtain ⟨h1, h2, h3, h4, h5, -⟩ := h
  exact ⟨h1, by omega, by omega, by omega, by omega⟩
end Go.Proofs.YtjmmecokfijglaaGreatDoor
namespace Go.Proofs.YtjmmecokfijglaaGreatDoor
open Go.ChangeShapes Go.WideShapes Go.ChangeAt Go.RowKit

theorem info_head : (Tryz.prog.info? 30).map (fun i => (i.zero, i.size)) = some (some (.agg Hd.zero.cells.toArray), 13) := by kernel_rfl
theorem built_zero : Tryz.prog.built 30 [] = some Hd.zero.cells.toArray := by kernel_rfl
theorem built_form (F : Int) : Tryz.prog.built 30 [(12, .int .i64 F)] = some (Hd.ofForm F).cells.toArray := by kernel_rfl

/-- A result that is a struct in a cell, and one in a slot. -/
theorem results_row2 {P : Program} {fn : Func} {p q : Tmp} {ty : TypeId} (h : fn.results = #[.cell p ty, .tmp q]) (tmps : Array Value) (w : World) (g : Nat) (t : TypeId) (cs : Array Value) (fr : Nat × Nat) (d : TypeDesc) (v : Value)
    (hp : tmps.getD p undef = .pointer (some ⟨g, 0, none⟩)) (hq : tmps.getD q undef = v) (hg : w.heap[g]? = some (.cells cs t fr))
    (hu : P.underlying ty = some d) (hd : (match d with | .struct _ | .array _ _ => true | _ => false) = true) (hi : (P.info? ty).map (·.size) = some cs.size) :
    (results fn tmps).run P w = .ok (.tuple #[.agg cs, v]) w := by
  have hp' : tmps[p]?.getD undef = .pointer (some ⟨g, 0, none⟩) := by simpa using hp
  have hq' : tmps[q]?.getD undef = v := by simpa using hq
  simp [results, h, hp', hq', asAddr, run_loadVar_row w g t ty cs fr d hg hu hd hi]

theorem readNumbers_any (l : List UInt8) (h : Hd) (g : Nat) (w : World) (hl : l.length = 512) (hh : Holds w g 30 h.cells) :
    Calls Tryz.prog 48 #[.pointer (some ⟨g, 0, none⟩), .string ⟨l.toArray⟩] w fun e w' =>
      ∃ C', Rd w g C' w' ∧ e = .returned (.int .i64 (firstE (rE l h.form) 7 0)) ∧ (firstE (rE l h.form) 7 0 = 0 → C' = (rH l h 7).cells) := by
  have rvp : ∀ k, ¬ ((octRead (fld l (numF k))).2 = 0 ∧ (octRead (fld l (numF k))).1 < 0 ∧ k ≠ 4) → rv l k = octRead (fld l (numF k)) := fun k hc => by
    unfold rv hdNum
    rw [if_neg (by intro hx; exact hc ⟨hx.1, hx.2.1, by simpa using hx.2.2⟩)]
  have rvn : ∀ k, (octRead (fld l (numF k))).2 = 0 ∧ (octRead (fld l (numF k))).1 < 0 ∧ k ≠ 4 → rv l k = (0, 6) := fun k hc => by
    unfold rv hdNum
    rw [if_pos ⟨hc.1, hc.2.1, by simpa using hc.2.2⟩]
  have e1 : ∀ k, hdIn h.form (numF k) = false → rE l h.form k = 0 := fun k he => if_neg (by rw [he]; simp)
  have e2 : ∀ k, hdIn h.form (numF k) = true → rE l h.form k = (rv l k).2 := fun k he => if_pos he
  refine readNumbers_walk l g w h.form (fun k => (rH l h k).cells) (fun k => hdIn h.form (numF k)) (fun k => fld l (numF k)) (fun k => (octRead (fld l (numF k))).1) (fun k => (octRead (fld l (numF k))).2) (fun k => nv (rH l h k) k) (fun k => firstE (rE l h.form) (7 - k) k) ?_ ?_ ?_ ?_ ?_ ?_ ?_ ?_ ?_ ?_ ?_
  · exact Lib.hid hh
  · exact Lib.hid fun k _ => by rw [← rH_form l h k]; rfl
  · exact Lib.hid fun k hk => cells_num _ k hk
  · exact Lib.hid fun k _ w => isIn_any h.form (numF k) w
  · exact Lib.hid fun k hk w => cut_any l (numF k) w hl (numF_lt k hk)
  · exact Lib.hid fun k hk w => read_any (fld l (numF k)) w (by rw [fld_length l hl _ (numF_lt k hk)]; have := pl_bd (numF k) (numF_lt k hk); unfold maxLen; omega)
  · refine Lib.hid fun k hk hb => ⟨?_, ?_⟩
    · show (if hdIn h.form (numF k) then _ else _ : Hd).cells = _
      rw [if_neg (by rw [hb]; simp)]
    · have := firstE_step (rE l h.form) k hk
      rw [if_pos (e1 k hb)] at this
      exact this.symm
  · refine Lib.hid fun k hk hb he => ?_
    have hr := rvp k (by intro hx; exact he hx.1)
    have := firstE_step (rE l h.form) k hk
    rw [e2 k hb, hr, if_neg he] at this
    exact this
  · refine Lib.hid fun k hk hb he hv h4 => ?_
    have hr := rvn k ⟨he, hv, h4⟩
    have := firstE_step (rE l h.form) k hk
    rw [e2 k hb, hr, if_neg (by decide)] at this
    exact this
  · refine Lib.hid fun k hk hb he hv => ⟨?_, ?_⟩
    · show (if hdIn h.form (numF k) then _ else _ : Hd).cells = _
      rw [if_pos hb, setN_cells _ _ _ hk, rvp k (by intro hx; exact hv hx.2)]
    · have hr := rvp k (by intro hx; exact hv hx.2)
      have := firstE_step (rE l h.form) k hk
      rw [e2 k hb, hr, if_pos he] at this
      exact this.symm
  · exact Lib.hid rfl

theorem readTexts_any (l : List UInt8) (h : Hd) (g : Nat) (w : World) (hl : l.length = 512) (hh : Holds w g 30 h.cells) (hm : MaxSet w) (hne : 0 ≠ g) :
    Calls Tryz.prog 49 #[.pointer (some ⟨g, 0, none⟩), .string ⟨l.toArray⟩] w fun e w' => Rd w g (rW l (h.named (hdName l h.form)) 3).cells w' ∧ e = .returned (.tuple #[]) := by
  have fl : ∀ f, f < 15 → (fld l f).length < 4294967281 := fun f hf => by rw [fld_length l hl f hf]; have := pl_bd f hf; omega
  have tl : ∀ f, f < 15 → (txtRead (fld l f)).length ≤ 155 := fun f hf => by
    have h1 := take_txtRead (fld l f)
    have h2 : ((fld l f).take (txtRead (fld l f)).length).length ≤ (fld l f).length := by rw [List.length_take]; exact Nat.min_le_right _ _
    rw [h1, fld_length l hl f hf] at h2
    have := pl_bd f hf
    omega
  have hpl : (hdPre l h.form).length ≤ 155 := by
    unfold hdPre
    split
    · exact tl 14 (by decide)
    · exact Nat.zero_le _
  refine readTexts_walk l g w h.form h.cells (fun k => (rW l (h.named (hdName l h.form)) k).cells) (hdIn h.form 14) (fun k => hdIn h.form (wordF k)) (fld l 14) (fld l 0) (txtRead (fld l 14)) (txtRead (fld l 0)) (hdPre l h.form) (hdName l h.form) h.name (fun k => fld l (wordF k)) (fun k => txtRead (fld l (wordF k))) (fun k => wt (rW l (h.named (hdName l h.form)) k) k) (Lib.hid hh) (Lib.hid hm) (Lib.hid hne) ?_ ?_ ?_ ?_ ?_ ?_ ?_ ?_ ?_ ?_ ?_ ?_ ?_ ?_ ?_ ?_ ?_
  · exact Lib.hid rfl
  · exact Lib.hid rfl
  · exact Lib.hid fun k _ => by
      have hf : (rW l (h.named (hdName l h.form)) k).form = h.form := rW_form l _ k
      exact Eq.trans (rfl : (rW l (h.named (hdName l h.form)) k).cells[12]? = some (Value.int .i64 (rW l (h.named (hdName l h.form)) k).form)) (congrArg (fun x => some (Value.int .i64 x)) hf)
  · exact Lib.hid fun k hk => cells_word _ k hk
  · exact Lib.hid fun w => isIn_any h.form 14 w
  · exact Lib.hid fun w => cut_any l 14 w hl (by decide)
  · exact Lib.hid fun w => cut_any l 0 w hl (by decide)
  · exact Lib.hid fun w hm => tRead_any _ w (fl 14 (by decide)) hm
  · exact Lib.hid fun w hm => tRead_any _ w (fl 0 (by decide)) hm
  · exact Lib.hid rfl
  · exact Lib.hid fun w => tJoin_any _ _ w (by have := tl 0 (by decide); omega)
  · exact Lib.hid rfl
  · exact Lib.hid fun k _ w => isIn_any h.form (wordF k) w
  · exact Lib.hid fun k hk w => cut_any l (wordF k) w hl (wordF_lt k hk)
  · exact Lib.hid fun k hk w hm => tRead_any _ w (fl _ (wordF_lt k hk)) hm
  · refine Lib.hid fun k _ hb => ?_
    show (if hdIn h.form (wordF k) then _ else _ : Hd).cells = _
    rw [if_neg (by rw [hb]; simp)]
  · refine Lib.hid fun k hk hb => ?_
    show (if hdIn h.form (wordF k) then _ else _ : Hd).cells = _
    rw [if_pos hb, setW_cells _ _ _ hk]

set_option maxRecDepth 100000 in
theorem parse_len (l : List UInt8) (w : World) (h : l.length ≠ 512) :
    Calls Tryz.prog 20 #[.string ⟨l.toArray⟩] w fun e w' => Below w.heap.size w w' ∧ e = .returned (.tuple #[Hd.zero.val, .int .i64 1]) := by
  have hz := (zero_of_info info_head).1
  have Hs1 := Lib.hid (head_size Hd.zero)
  have Hone := Lib.hid Hd.zero.cells_one
  have Hbz := Lib.hid built_zero
  have e1 : ((l.length : Int) == 512) = false := by rw [beq_eq_false_iff_ne]; omega
  have Hst := Lib.hid (Holds.new w 30 Hd.zero.cells)
  unfold Hd.val
  generalize Hd.zero.cells = Z at *
  clear h
  go_enter Tryz.func20, Tryz.ntmps20
  go_wp2_with (first
    | (refine wpList_build_is (by rfl) 30 _ (by rfl) [] _ Hbz.out ?_ ?_; rfl)
    | (refine wpList_store_row (by rfl) 30 _ _ (by rfl) w.heap.size Z.toArray (by rfl) (by rfl) _ _ Hst.out Hs1.out (by rfl) Hone.out ?_; rw [World.setRow_alloc_new])
    | fail)
  exact bodyPost_ret (results_row2 Tryz.results20 _ _ w.heap.size _ Z.toArray _ _ _ (by rfl) (by rfl) Hst.out Tryz.underlying30 rfl Hs1.out) rfl ⟨(Below.refl _ _).alloc (Nat.le_refl _) _, rfl⟩

/-- The fields of one byte. -/
theorem fld_kind (l : List UInt8) (hl : l.length = 512) : fld l 7 = [l.getD 156 0] := by
  show (l.drop 156).take 1 = _
  rw [List.drop_eq_getElem_cons (by omega), List.take_succ_cons, List.take_zero, List.getD_eq_getElem?_getD, List.getElem?_eq_getElem (by omega)]
  rfl

theorem below_rd {B g : Nat} {w0 w1 w2 : World} {C : List Value} (hb : Below B w0 w1) (r : Rd w1 g C w2) (h : B ≤ g) (hz : B ≤ w1.heap.size) : Below B w0 w2 := below_grown hb r.1 h hz

set_option maxRecDepth 100000 in
set_option maxHeartbeats 1000000 in
theorem hparse_right (l : List UInt8) (w : World) (hl : l.length = 512) (hm : MaxSet w) :
    Calls Tryz.prog 20 #[.string ⟨l.toArray⟩] w fun e w' => Below w.heap.size w w' ∧ e = .returned (.tuple #[(hdParse l).1.val, .int .i64 (hdParse l).2]) := by
  have hz := (zero_of_info info_head).1
  have Hs1 := Lib.hid (head_size Hd.zero)
  have Hone := Lib.hid Hd.zero.cells_one
  have Hbz := Lib.hid built_zero
  have e1 : ((l.length : Int) == 512) = true := by rw [beq_iff_eq]; omega
  have Hst := Lib.hid (Holds.new w 30 Hd.zero.cells)
  have Hq : hdParse l = if sRight l = true then (if hdForm (fld l 9) = 0 then (Hd.zero, 2) else if firstE (rE l (hdForm (fld l 9))) 7 0 = 0 then (hdHead l (hdForm (fld l 9)), 0) else (Hd.zero, firstE (rE l (hdForm (fld l 9))) 7 0)) else (Hd.zero, 4) := if_pos hl
  have HR := Lib.hid (fun w => sRight_any l w)
  have Hc9 := Lib.hid (fun w => cut_any l 9 w hl (by decide))
  have HfF := Lib.hid (fun w => formOf_any (fld l 9) w)
  have Hc7 := Lib.hid (fun w => cut_any l 7 w hl (by decide))
  rw [fld_kind l hl] at Hc7
  have Hkd := Lib.hid (fun w => kindOf_any ((l.getD 156 0).toNat : Int) w)
  have hkb : 0 ≤ hdKind ((l.getD 156 0).toNat : Int) ∧ hdKind ((l.getD 156 0).toNat : Int) < 256 := by
    have := byte_lt (l.getD 156 0)
    unfold hdKind; split <;> omega
  unfold Hd.val
  cases hR : sRight l
  · rw [if_neg (by rw [hR]; simp)] at Hq
    rw [Hq]
    rw [hR] at HR
    simp only
    clear Hq hR hkb
    generalize Hd.zero.cells = Z at *
    go_enter Tryz.func20, Tryz.ntmps20
    go_wp2_with fail
    refine (HR.out _).mono ?_
    rintro e w1 ⟨hb1, rfl⟩
    have Hst1 := Lib.hid (Hst.out.under hb1 Hst.out.lt)
    have Hb1 := Lib.hid (((Below.refl w.heap.size w).alloc (Nat.le_refl _) (.cells Z.toArray 30)).trans (hb1.mono (by simp)))
    clear hb1 Hst
    go_wp2_with (first
      | (refine wpList_build_is (by rfl) 30 _ (by rfl) [] _ Hbz.out ?_ ?_; rfl)
      | (refine wpList_store_row (by rfl) 30 _ _ (by rfl) w.heap.size Z.toArray (by rfl) (by rfl) _ _ Hst1.out Hs1.out (by rfl) Hone.out ?_)
      | fail)
    exact bodyPost_ret (results_row2 Tryz.results20 _ _ w.heap.size _ Z.toArray _ _ _ (by rfl) (by rfl) (setRow_heap _ _ _ _ _ _ Hst1.out) Tryz.underlying30 rfl Hs1.out) rfl ⟨below_setRow Hb1.out (Nat.le_refl _) _, rfl⟩
  · rw [if_pos hR] at Hq
    rw [hR] at HR
    have HRN := Lib.hid (fun g w hh => readNumbers_any l (Hd.ofForm (hdForm (fld l 9))) g w hl hh)
    have HRT := Lib.hid (fun g w hh hm hne => readTexts_any l (rH l (Hd.ofForm (hdForm (fld l 9))) 7) g w hl hh hm hne)
    have hfm : (rH l (Hd.ofForm (hdForm (fld l 9))) 7).form = hdForm (fld l 9) := rH_form l _ 7
    have hfo : (Hd.ofForm (hdForm (fld l 9))).form = hdForm (fld l 9) := rfl
    rw [hfm] at HRT
    rw [hfo] at HRN
    have Hbf := Lib.hid (built_form (hdForm (fld l 9)))
    have Hof := Lib.hid (Hd.ofForm (hdForm (fld l 9))).cells_one
    have Hsf := Lib.hid (head_size (Hd.ofForm (hdForm (fld l 9))))
    have Hszf := Lib.hid (show Hd.zero.cells.toArray.size = (Hd.ofForm (hdForm (fld l 9))).cells.toArray.size from rfl)
    have hzl : Hd.zero.cells.length = 13 := rfl
    have hset : Hd.zero.cells.set 12 (.int .i64 (hdForm (fld l 9))) = (Hd.ofForm (hdForm (fld l 9))).cells := rfl
    have Hcf := Lib.hid (show (Hd.ofForm (hdForm (fld l 9))).cells[12]? = some (.int .i64 (hdForm (fld l 9))) from rfl)
    have Hfin := Lib.hid (show ((rW l ((rH l (Hd.ofForm (hdForm (fld l 9))) 7).named (hdName l (hdForm (fld l 9)))) 3).cells.set 2 (.int .u8 (hdKind ((l.getD 156 0).toNat : Int)))) = (hdHead l (hdForm (fld l 9))).cells from rfl)
    have Hc2 := Lib.hid (show (rW l ((rH l (Hd.ofForm (hdForm (fld l 9))) 7).named (hdName l (hdForm (fld l 9)))) 3).cells[2]? = some (.int .u8 (rW l ((rH l (Hd.ofForm (hdForm (fld l 9))) 7).named (hdName l (hdForm (fld l 9)))) 3).kind) from rfl)
    have Hsh := Lib.hid (head_size (hdHead l (hdForm (fld l 9))))
    have Hoh := Lib.hid (hdHead l (hdForm (fld l 9))).cells_one
    have Hszh := Lib.hid (show Hd.zero.cells.toArray.size = (hdHead l (hdForm (fld l 9))).cells.toArray.size from rfl)
    generalize (rW l ((rH l (Hd.ofForm (hdForm (fld l 9))) 7).named (hdName l (hdForm (fld l 9)))) 3).kind = K0 at *
    generalize (rW l ((rH l (Hd.ofForm (hdForm (fld l 9))) 7).named (hdName l (hdForm (fld l 9)))) 3).cells = CT at *
    generalize (rH l (Hd.ofForm (hdForm (fld l 9))) 7).cells = CN at *
    generalize (Hd.ofForm (hdForm (fld l 9))).cells = CF at *
    generalize firstE (rE l (hdForm (fld l 9))) 7 0 = E at *
    generalize hdHead l (hdForm (fld l 9)) = HH at *
    generalize hdForm (fld l 9) = F at *
    generalize fld l 9 = m9 at *
    generalize l.getD 156 0 = kb at *
    change Hid (∀ w : World, Calls Tryz.prog 43 #[.int .u8 (kb.toNat : Int)] w fun e w' => w = w' ∧ e = .returned (.int .u8 (hdKind (kb.toNat : Int)))) at Hkd
    generalize hdKind (kb.toNat : Int) = K at *
    generalize hdParse l = R at *
    have Hq := Lib.hid Hq
    clear hfm hfo hR
    have HM := Lib.hid hm
    clear hm
    generalize hZ : Hd.zero.cells = Z at *
    have HZ := Lib.hid hZ
    clear hZ
    go_enter Tryz.func20, Tryz.ntmps20
    go_wp2_with fail
    refine (HR.out _).mono ?_
    rintro e w1 ⟨hb1, rfl⟩
    have Hst1 := Lib.hid (Hst.out.under hb1 Hst.out.lt)
    have Hb1 := Lib.hid (((Below.refl w.heap.size w).alloc (Nat.le_refl _) (.cells Z.toArray 30)).trans (hb1.mono (by simp)))
    clear hb1 Hst
    go_wp2_with fail
    refine (Hc9.out _).mono ?_
    rintro e w2 ⟨hb2, rfl⟩
    have Hst2 := Lib.hid (Hst1.out.under hb2 Hst1.out.lt)
    have Hb2 := Lib.hid (Hb1.out.trans (hb2.mono Hb1.out.size))
    have hz2 : w.heap.size < w2.heap.size := Hst2.out.lt
    clear hb2 Hst1 Hb1
    go_wp2_with fail
    refine (HfF.out _).mono ?_
    rintro e w' ⟨rfl, rfl⟩
    have Hnew := Lib.hid (Holds.new w2 30 Z)
    have Hnf := Lib.hid (Holds.new w2 30 CF)
    have Hst3 := Lib.hid (Hst2.out.behind (.cells CF.toArray 30))
    have Hb3 := Lib.hid (Hb2.out.alloc Hb2.out.size (.cells CF.toArray 30))
    have c12 : (w2.alloc (.cells CF.toArray 30)).cell? ⟨w2.heap.size, 12, none⟩ = some (.int .i64 F) := Hnf.out.at Hcf.out
    clear Hst2 Hb2
    by_cases hF : F = 0
    · have Hq2 := Lib.hid (show R = (Hd.zero, 2) by rw [Hq.out, if_pos hF])
      have e2 : (F == 0) = true := by rw [hF]; rfl
      clear hF HRN HRT Hc7 Hkd hkb
      go_wp2_with (first
        | (refine wpList_store_row (by rfl) 30 _ _ (by rfl) w2.heap.size CF.toArray (by rfl) (by rfl) _ _ Hnew.out Hsf.out Hszf.out Hof.out ?_; rw [World.setRow_alloc_new])
        | (refine wpList_store_row (by rfl) 30 _ _ (by rfl) w.heap.size Z.toArray (by rfl) (by rfl) _ _ Hst3.out Hs1.out (by rfl) Hone.out ?_)
        | fail)
      exact bodyPost_ret (results_row2 Tryz.results20 _ _ w.heap.size _ Z.toArray _ _ _ (by rfl) (by rfl) (setRow_heap _ _ _ _ _ _ Hst3.out) Tryz.underlying30 rfl Hs1.out) rfl ⟨below_setRow Hb3.out (Nat.le_refl _) _, by rw [Hq2.out]; simp only; rw [HZ.out]; rfl⟩
    · have Hq2 := Lib.hid (show R = if E = 0 then (HH, 0) else (Hd.zero, E) by rw [Hq.out, if_neg hF])
      have e2 : (F == 0) = false := by rw [beq_eq_false_iff_ne]; exact hF
      have HRN := Lib.hid (HRN.out w2.heap.size _ Hnf.out)
      clear hF
      go_wp2_with (first
        | (refine wpList_store_row (by rfl) 30 _ _ (by rfl) w2.heap.size CF.toArray (by rfl) (by rfl) _ _ Hnew.out Hsf.out Hszf.out Hof.out ?_; rw [World.setRow_alloc_new])
        | (refine wpList_store_row (by rfl) 30 _ _ (by rfl) w.heap.size Z.toArray (by rfl) (by rfl) _ _ Hst3.out Hs1.out (by rfl) Hone.out ?_)
        | fail)
      clear c12 e2 hset
      refine HRN.out.mono ?_
      rintro e w4 ⟨C', hrd, rfl, hcn⟩
      have hb4 := below_rd Hb3.out hrd (by omega) Hb3.out.size
      have hst4 := Hst3.out.grown hrd.1 (by intro e; injection e with e; omega)
      have Hst4 := Lib.hid hst4
      have Hb4 := Lib.hid hb4
      have Hrd := Lib.hid hrd
      have hz4 : w2.heap.size < w4.heap.size := hrd.2.1.lt
      clear hb4 hst4 hrd
      by_cases hE : E = 0
      · have Hq3 := Lib.hid (show R = (HH, 0) by rw [Hq2.out, if_pos hE])
        subst hE
        have hh4 : Holds w4 w2.heap.size 30 CN := by rw [← hcn rfl]; exact Hrd.out.2.1
        have hm4 : MaxSet w4 := HM.out.below Hb4.out
        have hg0 : 0 ≠ w2.heap.size := by have := HM.out.lt; omega
        have HRT := Lib.hid (HRT.out _ _ hh4 hm4 hg0)
        clear hcn hh4 hm4 hg0 Hrd HRN
        generalize w2.heap.size = g at *
        go_wp2_with fail
        refine HRT.out.mono ?_
        rintro e w5 ⟨hrd, rfl⟩
        have Hst5 := Lib.hid (Hst4.out.grown hrd.1 (by intro e; injection e with e; omega))
        have Hb5 := Lib.hid (below_rd Hb4.out hrd (by omega) Hb4.out.size)
        have Hh5 := Lib.hid hrd.2.1
        clear hrd HRT
        go_wp2_with fail
        refine (Hc7.out _).mono ?_
        rintro e w6 ⟨hb6, rfl⟩
        have Hst6 := Lib.hid (Hst5.out.under hb6 Hst5.out.lt)
        have Hh6 := Lib.hid (Hh5.out.under hb6 Hh5.out.lt)
        have Hb6 := Lib.hid (Hb5.out.trans (hb6.mono Hb5.out.size))
        have c2 : w6.cell? ⟨g, 2, none⟩ = some (.int .u8 K0) := Hh6.out.at Hc2.out
        have f2 : w6.frozen? ⟨g, 2, none⟩ = false := Hh6.out.frozen 2
        clear hb6 Hst5 Hh5 Hb5
        go_wp2_with fail
        refine (Hkd.out _).mono ?_
        rintro e w' ⟨rfl, rfl⟩
        have Hh7 := Lib.hid (show Holds (w6.setCell ⟨g, 2, none⟩ (.int .u8 K)) g 30 HH.cells by rw [← Hfin.out]; exact Hh6.out.put 2 _)
        have Hst7 := Lib.hid (Hst6.out.other (p := ⟨g, 2, none⟩) (by show w.heap.size ≠ g; omega) (.int .u8 K))
        have Hb7 := Lib.hid (Hb6.out.setCell (p := ⟨g, 2, none⟩) (by show w.heap.size ≤ g; omega) (.int .u8 K))
        clear Hst6 Hh6 Hb6
        go_wp2_with (first
          | (refine wpList_load_row (by rfl) 30 _ (by rfl) g (by rfl) _ _ _ _ Hh7.out Tryz.underlying30 rfl Hsh.out ?_)
          | (refine wpList_store_row (by rfl) 30 _ _ (by rfl) w.heap.size HH.cells.toArray (by rfl) (by rfl) _ _ Hst7.out Hsh.out Hszh.out Hoh.out ?_)
          | fail)
        exact bodyPost_ret (results_row2 Tryz.results20 _ _ w.heap.size _ HH.cells.toArray _ _ _ (by rfl) (by rfl) (setRow_heap _ _ _ _ _ _ Hst7.out) Tryz.underlying30 rfl Hsh.out) rfl ⟨below_setRow Hb7.out (Nat.le_refl _) _, by rw [Hq3.out]; rfl⟩
      · have Hq3 := Lib.hid (show R = (Hd.zero, E) by rw [Hq2.out, if_neg hE])
        have e3 : (E == 0) = false := by rw [beq_eq_false_iff_ne]; exact hE
        clear hE hcn HRT Hc7 Hkd hkb Hrd HRN
        go_wp2_with (first
          | (refine wpList_store_row (by rfl) 30 _ _ (by rfl) w.heap.size Z.toArray (by rfl) (by rfl) _ _ Hst4.out Hs1.out (by rfl) Hone.out ?_)
          | fail)
        exact bodyPost_ret (results_row2 Tryz.results20 _ _ w.heap.size _ Z.toArray _ _ _ (by rfl) (by rfl) (setRow_heap _ _ _ _ _ _ Hst4.out) Tryz.underlying30 rfl Hs1.out) rfl ⟨below_setRow Hb4.out (Nat.le_refl _) _, by rw [Hq3.out]; simp only; rw [HZ.out]; rfl⟩

theorem hparse_any (l : List UInt8) (w : World) (hm : MaxSet w) :
    Calls Tryz.prog 20 #[.string ⟨l.toArray⟩] w fun e w' => Below w.heap.size w w' ∧ e = .returned (.tuple #[(hdParse l).1.val, .int .i64 (hdParse l).2]) := by
  by_cases hl : l.length = 512
  · exact hparse_right l w hl hm
  · have hq : hdParse l = (Hd.zero, 1) := if_neg hl
    rw [hq]
    exact parse_len l w hl
end Go.Proofs.YtjmmecokfijglaaGreatDoor
