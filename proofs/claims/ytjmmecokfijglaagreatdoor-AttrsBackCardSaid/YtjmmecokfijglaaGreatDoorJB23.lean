/-
  Texts of this seat's proof, joined: their order is that of the build.
-/
import Derived.Test.YtjmmecokfijglaaGreatDoorJB22
namespace Go.Proofs.YtjmmecokfijglaaGreatDoor
open Go.ChangeShapes Go.WideShapes Go.ChangeAt Go.RowKit

/-- What a number's field holds in octal. -/
theorem octal_within (v : Int) (n : Nat) (hn : n = 8 ∨ n = 12) (hv : -9223372036854775808 ≤ v ∧ v ≤ 9223372036854775807) :
    (octalOf v n).isSome = decide (0 ≤ v ∧ v < if n = 8 then 2097152 else 8589934592) := by
  unfold octalOf
  rcases hn with rfl | rfl
  · have h8 : (2 : Int) ^ (3 * (((8 : Nat) : Int).toNat - 1)) = 2097152 := by decide
    rw [h8, if_pos rfl]
    by_cases h : 0 ≤ v ∧ v < 2097152
    · rw [if_pos ⟨by decide, h.1, by omega⟩, decide_eq_true h]; rfl
    · rw [if_neg (by intro hx; exact h ⟨hx.2.1, by omega⟩), decide_eq_false h]; rfl
  · have h8 : (2 : Int) ^ (3 * (((12 : Nat) : Int).toNat - 1)) = 8589934592 := by decide
    rw [h8]
    simp only [show ((12 : Nat) = 8) = False from by decide, if_false]
    by_cases h : 0 ≤ v ∧ v < 8589934592
    · rw [if_pos ⟨by decide, h.1, by omega⟩, decide_eq_true h]; rfl
    · rw [if_neg (by intro hx; exact h ⟨hx.2.1, by omega⟩), decide_eq_false h]; rfl

theorem quiet_eq0 {P : Program} {f : FuncId} {args : Array Value} {w : World} {n : Nat} {v : Value} (h : Calls P f args (w.drewN n) fun e w' => w.drewN n = w' ∧ e = .returned v) :
    Calls P f args (w.drewN n) fun e w'' => e = .returned v ∧ ∃ m, w'' = w.drewN m :=
  h.mono fun _ _ ⟨hm, he⟩ => ⟨he, n, hm.symm⟩
def inN (v m : Int) : Bool := decide (0 ≤ v ∧ v < m)
theorem hdNums_all (h : Hd) (hok : h.okN) : hdNums h = (inN h.mode 2097152 && (inN h.uid 2097152 && (inN h.gid 2097152 && (inN h.major 2097152 && (inN h.minor 2097152 && (inN h.size 8589934592 && inN h.time 8589934592)))))) := by
  have e0 := octal_within (nv h 0) 8 (.inl rfl) (hok 0 (by decide))
  have e1 := octal_within (nv h 1) 8 (.inl rfl) (hok 1 (by decide))
  have e2 := octal_within (nv h 2) 8 (.inl rfl) (hok 2 (by decide))
  have e3 := octal_within (nv h 3) 12 (.inr rfl) (hok 3 (by decide))
  have e4 := octal_within (nv h 4) 12 (.inr rfl) (hok 4 (by decide))
  have e5 := octal_within (nv h 5) 8 (.inl rfl) (hok 5 (by decide))
  have e6 := octal_within (nv h 6) 8 (.inl rfl) (hok 6 (by decide))
  have hq : hdNums h = ((octalOf (nv h 0) (8 : Nat)).isSome && ((octalOf (nv h 1) (8 : Nat)).isSome && ((octalOf (nv h 2) (8 : Nat)).isSome && ((octalOf (nv h 3) (12 : Nat)).isSome && ((octalOf (nv h 4) (12 : Nat)).isSome && ((octalOf (nv h 5) (8 : Nat)).isSome && ((octalOf (nv h 6) (8 : Nat)).isSome && true))))))) := rfl
  rw [hq, e0, e1, e2, e3, e4, e5, e6]
  show _ = (inN (nv h 0) _ && (inN (nv h 1) _ && (inN (nv h 2) _ && (inN (nv h 5) _ && (inN (nv h 6) _ && (inN (nv h 3) _ && inN (nv h 4) _))))))
  simp only [if_pos, inN, Bool.and_true, show ¬ (12 : Nat) = 8 by decide, if_false]
  generalize decide (0 ≤ nv h 0 ∧ nv h 0 < 2097152) = a0
  generalize decide (0 ≤ nv h 1 ∧ nv h 1 < 2097152) = a1
  generalize decide (0 ≤ nv h 2 ∧ nv h 2 < 2097152) = a2
  generalize decide (0 ≤ nv h 3 ∧ nv h 3 < 8589934592) = a3
  generalize decide (0 ≤ nv h 4 ∧ nv h 4 < 8589934592) = a4
  generalize decide (0 ≤ nv h 5 ∧ nv h 5 < 2097152) = a5
  generalize decide (0 ≤ nv h 6 ∧ nv h 6 < 2097152) = a6
  cases a0 <;> cases a1 <;> cases a2 <;> cases a3 <;> cases a4 <;> cases a5 <;> cases a6 <;> rfl


set_option maxRecDepth 100000 in
set_option maxHeartbeats 2000000 in
theorem refFits_any (h : Hd) (w : World) (hok : h.okN) (hl : h.name.length ≤ 9223372036854775807 ∧ h.link.length ≤ 9223372036854775807 ∧ h.uname.length ≤ 9223372036854775807 ∧ h.gname.length ≤ 9223372036854775807) :
    Calls Tryz.prog 51 #[h.val] w fun e w' => Below w.heap.size w w' ∧ e = .returned (.int .i64 (hdFits h)) := by
  obtain ⟨l0, l1, l2, l3⟩ := hl
  have R0 := Lib.hid (fun w => refTRead_any h.name w l0)
  have R1 := Lib.hid (fun w => refTRead_any h.link w l1)
  have R2 := Lib.hid (fun w => refTRead_any h.uname w l2)
  have R3 := Lib.hid (fun w => refTRead_any h.gname w l3)
  have RP := Lib.hid (fun w => refTPart_any h.name w l0)
  clear l0 l1 l2 l3
  have i0 : ∀ l : List UInt8, (txtRead l == l) = decide (0 ∉ l) := fun l => by
    by_cases hx : 0 ∈ l
    · rw [decide_eq_false (by simpa using hx), beq_eq_false_iff_ne]; intro e; exact (txtRead_eq_iff l).1 e hx
    · rw [decide_eq_true hx, beq_iff_eq]; exact (txtRead_eq_iff l).2 hx
  have hnul : hdNul h = (! (txtRead h.name == h.name) || (! (txtRead h.link == h.link) || (! (txtRead h.uname == h.uname) || ! (txtRead h.gname == h.gname)))) := by
    rw [i0, i0, i0, i0]
    unfold hdNul
    by_cases a0 : 0 ∈ h.name <;> by_cases a1 : 0 ∈ h.link <;> by_cases a2 : 0 ∈ h.uname <;> by_cases a3 : 0 ∈ h.gname <;> simp [a0, a1, a2, a3]
  have htx : hdTexts h = ((txtPart h.name).isSome && (decide (h.link.length ≤ 100) && (decide (h.uname.length ≤ 32) && decide (h.gname.length ≤ 32)))) := by
    unfold hdTexts
    by_cases a1 : h.link.length ≤ 100 <;> by_cases a2 : h.uname.length ≤ 32 <;> by_cases a3 : h.gname.length ≤ 32 <;> simp [a1, a2, a3]
  have hnm := hdNums_all h hok
  have W0 := Lib.hid (fun w => refWithin_any h.mode 2097152 w)
  have W1 := Lib.hid (fun w => refWithin_any h.uid 2097152 w)
  have W2 := Lib.hid (fun w => refWithin_any h.gid 2097152 w)
  have W3 := Lib.hid (fun w => refWithin_any h.major 2097152 w)
  have W4 := Lib.hid (fun w => refWithin_any h.minor 2097152 w)
  have W5 := Lib.hid (fun w => refWithin_any h.size 8589934592 w)
  have W6 := Lib.hid (fun w => refWithin_any h.time 8589934592 w)
  change Hid (∀ w, Calls Tryz.prog 105 #[.int .i64 h.mode, .int .i64 2097152] w fun e w' => w = w' ∧ e = .returned (.bool (inN h.mode 2097152))) at W0
  change Hid (∀ w, Calls Tryz.prog 105 #[.int .i64 h.uid, .int .i64 2097152] w fun e w' => w = w' ∧ e = .returned (.bool (inN h.uid 2097152))) at W1
  change Hid (∀ w, Calls Tryz.prog 105 #[.int .i64 h.gid, .int .i64 2097152] w fun e w' => w = w' ∧ e = .returned (.bool (inN h.gid 2097152))) at W2
  change Hid (∀ w, Calls Tryz.prog 105 #[.int .i64 h.major, .int .i64 2097152] w fun e w' => w = w' ∧ e = .returned (.bool (inN h.major 2097152))) at W3
  change Hid (∀ w, Calls Tryz.prog 105 #[.int .i64 h.minor, .int .i64 2097152] w fun e w' => w = w' ∧ e = .returned (.bool (inN h.minor 2097152))) at W4
  change Hid (∀ w, Calls Tryz.prog 105 #[.int .i64 h.size, .int .i64 8589934592] w fun e w' => w = w' ∧ e = .returned (.bool (inN h.size 8589934592))) at W5
  change Hid (∀ w, Calls Tryz.prog 105 #[.int .i64 h.time, .int .i64 8589934592] w fun e w' => w = w' ∧ e = .returned (.bool (inN h.time 8589934592))) at W6
  have hq : hdFits h = if hdNul h then 2 else if hdTexts h then (if hdNums h then 0 else 6) else 12 := rfl
  rw [hnul, htx, hnm] at hq
  obtain ⟨wb, hwb⟩ : ∃ wb, w.alloc (.cells h.cells.toArray 30) = wb := ⟨_, rfl⟩
  have Ho : Holds wb w.heap.size 30 h.cells := by rw [← hwb]; exact Holds.new _ _ _
  have Hb := Lib.hid (show Below w.heap.size w wb by rw [← hwb]; exact (Below.refl _ _).alloc (Nat.le_refl _) _)
  have Hwb := Lib.hid hwb
  clear hwb hnul htx hnm i0 hok
  have c0 : wb.cell? ⟨w.heap.size, 0, none⟩ = some (.string ⟨h.name.toArray⟩) := Ho.at rfl
  have c1 : wb.cell? ⟨w.heap.size, 1, none⟩ = some (.string ⟨h.link.toArray⟩) := Ho.at rfl
  have c8 : wb.cell? ⟨w.heap.size, 8, none⟩ = some (.string ⟨h.uname.toArray⟩) := Ho.at rfl
  have c9 : wb.cell? ⟨w.heap.size, 9, none⟩ = some (.string ⟨h.gname.toArray⟩) := Ho.at rfl
  have d3 : wb.cell? ⟨w.heap.size, 3, none⟩ = some (.int .i64 h.mode) := Ho.at rfl
  have d4 : wb.cell? ⟨w.heap.size, 4, none⟩ = some (.int .i64 h.uid) := Ho.at rfl
  have d5 : wb.cell? ⟨w.heap.size, 5, none⟩ = some (.int .i64 h.gid) := Ho.at rfl
  have d6 : wb.cell? ⟨w.heap.size, 6, none⟩ = some (.int .i64 h.size) := Ho.at rfl
  have d7 : wb.cell? ⟨w.heap.size, 7, none⟩ = some (.int .i64 h.time) := Ho.at rfl
  have d10 : wb.cell? ⟨w.heap.size, 10, none⟩ = some (.int .i64 h.major) := Ho.at rfl
  have d11 : wb.cell? ⟨w.heap.size, 11, none⟩ = some (.int .i64 h.minor) := Ho.at rfl
  unfold Hd.val
  generalize h.cells = C at *
  generalize inN h.mode 2097152 = b0 at *
  generalize inN h.uid 2097152 = b1 at *
  generalize inN h.gid 2097152 = b2 at *
  generalize inN h.major 2097152 = b3 at *
  generalize inN h.minor 2097152 = b4 at *
  generalize inN h.size 8589934592 = b5 at *
  generalize inN h.time 8589934592 = b6 at *
  generalize txtRead h.name = x0 at *
  generalize txtRead h.link = x1 at *
  generalize txtRead h.uname = x2 at *
  generalize txtRead h.gname = x3 at *
  generalize hdFits h = R at *
  generalize txtPart h.name = o at *
  generalize h.name = y0 at *
  generalize h.link = y1 at *
  generalize h.uname = y2 at *
  generalize h.gname = y3 at *
  generalize h.mode = m0 at *
  generalize h.uid = m1 at *
  generalize h.gid = m2 at *
  generalize h.major = m3 at *
  generalize h.minor = m4 at *
  generalize h.size = m5 at *
  generalize h.time = m6 at *
  have Hq := Lib.hid hq
  clear hq Ho
  cases g0 : (x0 == y0)
  · rw [g0] at Hq
    have Hq := Lib.hid (show R = 2 from Hq.out)
    clear W0 W1 W2 W3 W4 W5 W6 RP
    go_enter Tryz.func51, Tryz.ntmps51
    go_wp2_with fail
    rw [Hwb.out]
    go_quiet ((go_at_call 33; exact quiet_eq0 (R0.out _)))
    have Hbn := Lib.hid (show Below w.heap.size w (wb.drewN nq) from below_drewN Hb.out _)
    go_wp2
    go_ret
    rw [Hq.out]
    exact ⟨Hbn.out, rfl⟩
  · cases g1 : (x1 == y1)
    · rw [g0, g1] at Hq
      have Hq := Lib.hid (show R = 2 from Hq.out)
      clear W0 W1 W2 W3 W4 W5 W6 RP
      go_enter Tryz.func51, Tryz.ntmps51
      go_wp2_with fail
      rw [Hwb.out]
      go_quiet (first
        | (go_at_call_of 33 (#[Value.string ⟨y0.toArray⟩]); exact quiet_eq0 (R0.out _))
        | (go_at_call_of 33 (#[Value.string ⟨y1.toArray⟩]); exact quiet_eq0 (R1.out _)))
      have Hbn := Lib.hid (show Below w.heap.size w (wb.drewN nq) from below_drewN Hb.out _)
      go_wp2
      go_ret
      rw [Hq.out]
      exact ⟨Hbn.out, rfl⟩
    · cases g2 : (x2 == y2)
      · rw [g0, g1, g2] at Hq
        have Hq := Lib.hid (show R = 2 from Hq.out)
        clear W0 W1 W2 W3 W4 W5 W6 RP
        go_enter Tryz.func51, Tryz.ntmps51
        go_wp2_with fail
        rw [Hwb.out]
        go_quiet (first
          | (go_at_call_of 33 (#[Value.string ⟨y0.toArray⟩]); exact quiet_eq0 (R0.out _))
          | (go_at_call_of 33 (#[Value.string ⟨y1.toArray⟩]); exact quiet_eq0 (R1.out _))
          | (go_at_call_of 33 (#[Value.string ⟨y2.toArray⟩]); exact quiet_eq0 (R2.out _)))
        have Hbn := Lib.hid (show Below w.heap.size w (wb.drewN nq) from below_drewN Hb.out _)
        go_wp2
        go_ret
        rw [Hq.out]
        exact ⟨Hbn.out, rfl⟩
      · cases g3 : (x3 == y3)
        · rw [g0, g1, g2, g3] at Hq
          have Hq := Lib.hid (show R = 2 from Hq.out)
          clear W0 W1 W2 W3 W4 W5 W6 RP
          go_enter Tryz.func51, Tryz.ntmps51
          go_wp2_with fail
          rw [Hwb.out]
          go_quiet (first
            | (go_at_call_of 33 (#[Value.string ⟨y0.toArray⟩]); exact quiet_eq0 (R0.out _))
            | (go_at_call_of 33 (#[Value.string ⟨y1.toArray⟩]); exact quiet_eq0 (R1.out _))
            | (go_at_call_of 33 (#[Value.string ⟨y2.toArray⟩]); exact quiet_eq0 (R2.out _))
            | (go_at_call_of 33 (#[Value.string ⟨y3.toArray⟩]); exact quiet_eq0 (R3.out _)))
          have Hbn := Lib.hid (show Below w.heap.size w (wb.drewN nq) from below_drewN Hb.out _)
          go_wp2
          go_ret
          rw [Hq.out]
          exact ⟨Hbn.out, rfl⟩
        · rw [g0, g1, g2, g3] at Hq
          have Hq := Lib.hid (show R = if (o.isSome && (decide (y1.length ≤ 100) && (decide (y2.length ≤ 32) && decide (y3.length ≤ 32)))) then (if (b0 && (b1 && (b2 && (b3 && (b4 && (b5 && b6)))))) then 0 else 6) else 12 from Hq.out)
          go_enter Tryz.func51, Tryz.ntmps51
          go_wp2_with fail
          rw [Hwb.out]
          go_quiet (first
            | (go_at_call_of 33 (#[Value.string ⟨y0.toArray⟩]); exact quiet_eq0 (R0.out _))
            | (go_at_call_of 33 (#[Value.string ⟨y1.toArray⟩]); exact quiet_eq0 (R1.out _))
            | (go_at_call_of 33 (#[Value.string ⟨y2.toArray⟩]); exact quiet_eq0 (R2.out _))
            | (go_at_call_of 33 (#[Value.string ⟨y3.toArray⟩]); exact quiet_eq0 (R3.out _)))
          have Hbn := Lib.hid (show Below w.heap.size w (wb.drewN nq) from below_drewN Hb.out _)
          have Hz := Lib.hid (cell_ltT c0)
          have hz : w.heap.size < (wb.drewN nq).heap.size := Hz.out
          have c0 : (wb.drewN nq).cell? ⟨w.heap.size, 0, none⟩ = some (.string ⟨y0.toArray⟩) := c0
          have c1 : (wb.drewN nq).cell? ⟨w.heap.size, 1, none⟩ = some (.string ⟨y1.toArray⟩) := c1
          have c8 : (wb.drewN nq).cell? ⟨w.heap.size, 8, none⟩ = some (.string ⟨y2.toArray⟩) := c8
          have c9 : (wb.drewN nq).cell? ⟨w.heap.size, 9, none⟩ = some (.string ⟨y3.toArray⟩) := c9
          have d3 : (wb.drewN nq).cell? ⟨w.heap.size, 3, none⟩ = some (.int .i64 m0) := d3
          have d4 : (wb.drewN nq).cell? ⟨w.heap.size, 4, none⟩ = some (.int .i64 m1) := d4
          have d5 : (wb.drewN nq).cell? ⟨w.heap.size, 5, none⟩ = some (.int .i64 m2) := d5
          have d6 : (wb.drewN nq).cell? ⟨w.heap.size, 6, none⟩ = some (.int .i64 m5) := d6
          have d7 : (wb.drewN nq).cell? ⟨w.heap.size, 7, none⟩ = some (.int .i64 m6) := d7
          have d10 : (wb.drewN nq).cell? ⟨w.heap.size, 10, none⟩ = some (.int .i64 m3) := d10
          have d11 : (wb.drewN nq).cell? ⟨w.heap.size, 11, none⟩ = some (.int .i64 m4) := d11
          generalize wb.drewN nq = wc at *
          clear g0 g1 g2 g3 R0 R1 R2 R3
          go_wp2_with fail
          refine (RP.out _).mono ?_
          rintro e w2 ⟨hb2, rfl⟩
          have Hb2 := Lib.hid (Hbn.out.trans (hb2.mono Hbn.out.size))
          have c1 : w2.cell? ⟨w.heap.size, 1, none⟩ = some (.string ⟨y1.toArray⟩) := by rw [hb2.cell (p := ⟨w.heap.size, 1, none⟩) hz]; exact c1
          have c8 : w2.cell? ⟨w.heap.size, 8, none⟩ = some (.string ⟨y2.toArray⟩) := by rw [hb2.cell (p := ⟨w.heap.size, 8, none⟩) hz]; exact c8
          have c9 : w2.cell? ⟨w.heap.size, 9, none⟩ = some (.string ⟨y3.toArray⟩) := by rw [hb2.cell (p := ⟨w.heap.size, 9, none⟩) hz]; exact c9
          have d3 : w2.cell? ⟨w.heap.size, 3, none⟩ = some (.int .i64 m0) := by rw [hb2.cell (p := ⟨w.heap.size, 3, none⟩) hz]; exact d3
          have d4 : w2.cell? ⟨w.heap.size, 4, none⟩ = some (.int .i64 m1) := by rw [hb2.cell (p := ⟨w.heap.size, 4, none⟩) hz]; exact d4
          have d5 : w2.cell? ⟨w.heap.size, 5, none⟩ = some (.int .i64 m2) := by rw [hb2.cell (p := ⟨w.heap.size, 5, none⟩) hz]; exact d5
          have d6 : w2.cell? ⟨w.heap.size, 6, none⟩ = some (.int .i64 m5) := by rw [hb2.cell (p := ⟨w.heap.size, 6, none⟩) hz]; exact d6
          have d7 : w2.cell? ⟨w.heap.size, 7, none⟩ = some (.int .i64 m6) := by rw [hb2.cell (p := ⟨w.heap.size, 7, none⟩) hz]; exact d7
          have d10 : w2.cell? ⟨w.heap.size, 10, none⟩ = some (.int .i64 m3) := by rw [hb2.cell (p := ⟨w.heap.size, 10, none⟩) hz]; exact d10
          have d11 : w2.cell? ⟨w.heap.size, 11, none⟩ = some (.int .i64 m4) := by rw [hb2.cell (p := ⟨w.heap.size, 11, none⟩) hz]; exact d11
          clear hb2 hz Hz
          rcases o with _ | ⟨p, b⟩
          · unfold part3
            go_wp2
            go_ret
            rw [Hq.out]
            exact ⟨Hb2.out, rfl⟩
          · unfold part3
            by_cases t1 : y1.length ≤ 100
            · by_cases t2 : y2.length ≤ 32
              · by_cases t3 : y3.length ≤ 32
                · have Hq := Lib.hid (show R = if (b0 && (b1 && (b2 && (b3 && (b4 && (b5 && b6)))))) then 0 else 6 by rw [Hq.out, decide_eq_true t1, decide_eq_true t2, decide_eq_true t3]; rfl)
                  have e1 : ¬ (100 : Int) < (y1.length : Int) := by omega
                  have e2 : ¬ (32 : Int) < (y2.length : Int) := by omega
                  have e3 : ¬ (32 : Int) < (y3.length : Int) := by omega
                  clear t1 t2 t3
                  go_wp2_with fail
                  refine (W0.out _).mono ?_
                  rintro e w' ⟨rfl, rfl⟩
                  cases b0
                  · go_wp2
                    go_ret
                    rw [Hq.out]
                    exact ⟨Hb2.out, rfl⟩
                  · clear W0
                    go_wp2_with fail
                    refine (W1.out _).mono ?_
                    rintro e w' ⟨rfl, rfl⟩
                    cases b1
                    · go_wp2
                      go_ret
                      rw [Hq.out]
                      exact ⟨Hb2.out, rfl⟩
                    · clear W1
                      go_wp2_with fail
                      refine (W2.out _).mono ?_
                      rintro e w' ⟨rfl, rfl⟩
                      cases b2
                      · go_wp2
                        go_ret
                        rw [Hq.out]
                        exact ⟨Hb2.out, rfl⟩
                      · clear W2
                        go_wp2_with fail
                        refine (W3.out _).mono ?_
                        rintro e w' ⟨rfl, rfl⟩
                        cases b3
                        · go_wp2
                          go_ret
                          rw [Hq.out]
                          exact ⟨Hb2.out, rfl⟩
                        · clear W3
                          go_wp2_with fail
                          refine (W4.out _).mono ?_
                          rintro e w' ⟨rfl, rfl⟩
                          cases b4
                          · go_wp2
                            go_ret
                            rw [Hq.out]
                            exact ⟨Hb2.out, rfl⟩
                          · clear W4
                            go_wp2_with fail
                            refine (W5.out _).mono ?_
                            rintro e w' ⟨rfl, rfl⟩
                            cases b5
                            · go_wp2
                              go_ret
                              rw [Hq.out]
                              exact ⟨Hb2.out, rfl⟩
                            · clear W5
                              go_wp2_with fail
                              refine (W6.out _).mono ?_
                              rintro e w' ⟨rfl, rfl⟩
                              cases b6
                              · go_wp2
                                go_ret
                                rw [Hq.out]
                                exact ⟨Hb2.out, rfl⟩
                              · go_wp2
                                go_ret
                                rw [Hq.out]
                                exact ⟨Hb2.out, rfl⟩
                · have Hq := Lib.hid (show R = 12 by rw [Hq.out, decide_eq_true t1, decide_eq_true t2, decide_eq_false t3]; rfl)
                  have e1 : ¬ (100 : Int) < (y1.length : Int) := by omega
                  have e2 : ¬ (32 : Int) < (y2.length : Int) := by omega
                  have e3 : (32 : Int) < (y3.length : Int) := by omega
                  clear t1 t2 t3
                  go_wp2
                  go_ret
                  rw [Hq.out]
                  exact ⟨Hb2.out, rfl⟩
              · have Hq := Lib.hid (show R = 12 by rw [Hq.out, decide_eq_true t1, decide_eq_false t2]; rfl)
                have e1 : ¬ (100 : Int) < (y1.length : Int) := by omega
                have e2 : (32 : Int) < (y2.length : Int) := by omega
                clear t1 t2
                go_wp2
                go_ret
                rw [Hq.out]
                exact ⟨Hb2.out, rfl⟩
            · have Hq := Lib.hid (show R = 12 by rw [Hq.out, decide_eq_false t1]; rfl)
              have e1 : (100 : Int) < (y1.length : Int) := by omega
              clear t1
              go_wp2
              go_ret
              rw [Hq.out]
              exact ⟨Hb2.out, rfl⟩
end Go.Proofs.YtjmmecokfijglaaGreatDoor
