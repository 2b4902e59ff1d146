/-
  Contracts of attrs.putIn: a value is put into a head, if it fits.
-/
import Derived.Test.YtamenhkbmbaopaaGreatDoorAtK
import Derived.Test.YtamenhkbmbaopaaGreatDoorHdF
import Derived.Deep.DeepCutAuto
import Derived.Deep.CutBlock
namespace Go.Proofs.YtamenhkbmbaopaaGreatDoor
open Go.ChangeShapes Go.WideShapes Go.ChangeAt Go.RowKit

theorem grown_setCell (w : World) (p : Addr) (u : Value) : w.grownBy (w.setCell p u) (some p.block) :=
  ⟨rfl, rfl, rfl, by simp [World.setCell], fun k _ hne => Below.heap_setCell w p u k (fun e => hne (by rw [e]))⟩
theorem grown_below {w w' : World} (hb : Below w.heap.size w w') (row : Option Nat) : w.grownBy w' row := ⟨hb.os, hb.tape, hb.output, hb.size, fun k hk _ => hb.block k hk⟩
theorem grown_trans {a b c : World} {row : Option Nat} (h : a.grownBy b row) (g : b.grownBy c row) : a.grownBy c row :=
  ⟨g.os.trans h.os, g.tape.trans h.tape, g.output.trans h.output, Nat.le_trans h.size g.size, fun k hk hne => (g.block k (Nat.lt_of_lt_of_le hk h.size) hne).trans (h.block k hk hne)⟩
/-- The cells of a head that lies behind fifteen others. -/
theorem head_at {w : World} {b : Nat} {t : TypeId} {mc : List Value} (hm : mc.length = 15) {h : Hd} (H : Holds w b t (mc ++ h.cells)) (j : Nat) (v : Value) (hj : h.cells[j]? = some v) : w.cell? ⟨b, 15 + j, none⟩ = some v := by
  refine H.at ?_
  rw [List.getElem?_append_right (by omega), hm, Nat.add_sub_cancel_left]
  exact hj
theorem head_set {mc : List Value} (hm : mc.length = 15) {h h' : Hd} {j : Nat} {v : Value} (hs : h.cells.set j v = h'.cells) : (mc ++ h.cells).set (15 + j) v = mc ++ h'.cells := by
  rw [List.set_append_right _ _ (by omega), hm, Nat.add_sub_cancel_left, hs]
def Cells13 (b : Nat) (h : Hd) (w : World) : Prop := w.cell? ⟨b, 15, none⟩ = some (.string ⟨h.name.toArray⟩) ∧ w.cell? ⟨b, 16, none⟩ = some (.string ⟨h.link.toArray⟩) ∧ w.cell? ⟨b, 17, none⟩ = some (.int .u8 h.kind) ∧ w.cell? ⟨b, 18, none⟩ = some (.int .i64 h.mode) ∧ w.cell? ⟨b, 19, none⟩ = some (.int .i64 h.uid) ∧ w.cell? ⟨b, 20, none⟩ = some (.int .i64 h.gid) ∧ w.cell? ⟨b, 21, none⟩ = some (.int .i64 h.size) ∧ w.cell? ⟨b, 22, none⟩ = some (.int .i64 h.time) ∧ w.cell? ⟨b, 23, none⟩ = some (.string ⟨h.uname.toArray⟩) ∧ w.cell? ⟨b, 24, none⟩ = some (.string ⟨h.gname.toArray⟩) ∧ w.cell? ⟨b, 25, none⟩ = some (.int .i64 h.major) ∧ w.cell? ⟨b, 26, none⟩ = some (.int .i64 h.minor) ∧ w.cell? ⟨b, 27, none⟩ = some (.int .i64 h.form)
theorem cells13 {w : World} {b : Nat} {t : TypeId} {mc : List Value} (hm : mc.length = 15) {h : Hd} (H : Holds w b t (mc ++ h.cells)) : Cells13 b h w :=
  ⟨head_at hm H 0 _ rfl, head_at hm H 1 _ rfl, head_at hm H 2 _ rfl, head_at hm H 3 _ rfl, head_at hm H 4 _ rfl, head_at hm H 5 _ rfl, head_at hm H 6 _ rfl, head_at hm H 7 _ rfl, head_at hm H 8 _ rfl, head_at hm H 9 _ rfl, head_at hm H 10 _ rfl, head_at hm H 11 _ rfl, head_at hm H 12 _ rfl⟩

/-- The head, as putIn leaves it. -/
def putEnd (h h' : Hd) : Hd := if hdFits h' = 0 then h' else h
set_option maxRecDepth 100000 in
set_option maxHeartbeats 1000000 in
theorem putInt_any (mc : List Value) (hm : mc.length = 15) (h h' : Hd) (i : Nat) (x v : Int) (hx : h.cells[i]? = some (.int .i64 x)) (hs : h.cells.set i (.int .i64 v) = h'.cells) (hs' : h'.cells.set i (.int .i64 x) = h.cells)
    (hok : h'.okN) (hl : h'.name.length ≤ 9223372036854775807) (b : Nat) (w : World) (hh : Holds w b 59 (mc ++ h.cells)) :
    Calls Tryz.prog 83 #[.pointer (some ⟨b, 15, none⟩), .pointer (some ⟨b, 15 + i, none⟩), .int .i64 v] w fun e w' =>
      w.grownBy w' (some b) ∧ Holds w' b 59 (mc ++ (putEnd h h').cells) ∧ e = .returned (.bool (hdFits h' == 0)) := by
  have Hm := Lib.hid hm
  have c0 := head_at hm hh i _ hx
  have f0 := hh.frozen (15 + i)
  have hfit := fun w1 => fits_any h' w1 hok hl
  have H1 := Lib.hid (show Holds (w.setCell ⟨b, 15 + i, none⟩ (.int .i64 v)) b 59 (mc ++ h'.cells) by rw [← head_set hm hs]; exact hh.put (15 + i) _)
  have G1 := Lib.hid (show w.grownBy (w.setCell ⟨b, 15 + i, none⟩ (.int .i64 v)) (some b) from grown_setCell w ⟨b, 15 + i, none⟩ (.int .i64 v))
  have Hs' := Lib.hid (head_set hm hs')
  have hv' := (show (mc ++ h'.cells)[15 + i]? = some (.int .i64 v) by
    rw [List.getElem?_append_right (by omega), hm, Nat.add_sub_cancel_left, ← hs, List.getElem?_set_self (List.getElem?_eq_some_iff.1 hx).1])
  have Hv' := Lib.hid hv'
  have HE := Lib.hid (show (if hdFits h' = 0 then h' else h) = putEnd h h' from rfl)
  clear hh hx hs hs' hok hl hv'
  generalize putEnd h h' = E at *
  generalize hdFits h' = R at *
  go_enter Tryz.func83, Tryz.ntmps83
  go_upto_region 3 with (fail)
  generalize w.setCell ⟨b, 15 + i, none⟩ (.int .i64 v) = w1 at *
  obtain ⟨z0, z1, z2, z3, z4, z5, z6, z7, z8, z9, z10, z11, z12⟩ := cells13 hm H1.out
  have hval : h'.val = .agg #[.string ⟨h'.name.toArray⟩, .string ⟨h'.link.toArray⟩, .int .u8 h'.kind, .int .i64 h'.mode, .int .i64 h'.uid, .int .i64 h'.gid, .int .i64 h'.size, .int .i64 h'.time, .string ⟨h'.uname.toArray⟩, .string ⟨h'.gname.toArray⟩, .int .i64 h'.major, .int .i64 h'.minor, .int .i64 h'.form] := rfl
  rw [hval] at hfit
  have Hfit := Lib.hid hfit
  clear hfit hval hm c0 f0
  go_wp2_with (fail)
  refine (Hfit.out _).mono ?_
  rintro e w2 ⟨hb2, rfl⟩
  have H2 := Lib.hid (H1.out.under hb2 H1.out.lt)
  have G2 := Lib.hid (grown_trans G1.out (grown_below hb2 (some b)))
  clear hb2 z0 z1 z2 z3 z4 z5 z6 z7 z8 z9 z10 z11 z12 Hfit H1 G1
  by_cases hR : R = 0
  · subst hR
    go_wp2
    go_ret
    rw [← HE.out]
    exact ⟨G2.out, H2.out, rfl⟩
  · have hR0 : (R == 0) = false := by simpa using hR
    have HR := Lib.hid hR
    have c2 := H2.out.at Hv'.out
    have f2 := H2.out.frozen (15 + i)
    clear hR
    go_wp2
    go_ret
    rw [← HE.out, if_neg HR.out]
    exact ⟨grown_trans G2.out (grown_setCell w2 ⟨b, 15 + i, none⟩ _), by rw [← Hs'.out]; exact H2.out.put (15 + i) _, by simp [hR0]⟩

set_option maxRecDepth 100000 in
set_option maxHeartbeats 1000000 in
theorem putText_any (mc : List Value) (hm : mc.length = 15) (h h' : Hd) (i : Nat) (x v : List UInt8) (hx : h.cells[i]? = some (.string ⟨x.toArray⟩)) (hs : h.cells.set i (.string ⟨v.toArray⟩) = h'.cells) (hs' : h'.cells.set i (.string ⟨x.toArray⟩) = h.cells)
    (hok : h'.okN) (hl : h'.name.length ≤ 9223372036854775807) (b : Nat) (w : World) (hh : Holds w b 59 (mc ++ h.cells)) :
    Calls Tryz.prog 88 #[.pointer (some ⟨b, 15, none⟩), .pointer (some ⟨b, 15 + i, none⟩), .string ⟨v.toArray⟩] w fun e w' =>
      w.grownBy w' (some b) ∧ Holds w' b 59 (mc ++ (putEnd h h').cells) ∧ e = .returned (.bool (hdFits h' == 0)) := by
  have Hm := Lib.hid hm
  have c0 := head_at hm hh i _ hx
  have f0 := hh.frozen (15 + i)
  have hfit := fun w1 => fits_any h' w1 hok hl
  have H1 := Lib.hid (show Holds (w.setCell ⟨b, 15 + i, none⟩ (.string ⟨v.toArray⟩)) b 59 (mc ++ h'.cells) by rw [← head_set hm hs]; exact hh.put (15 + i) _)
  have G1 := Lib.hid (show w.grownBy (w.setCell ⟨b, 15 + i, none⟩ (.string ⟨v.toArray⟩)) (some b) from grown_setCell w ⟨b, 15 + i, none⟩ (.string ⟨v.toArray⟩))
  have Hs' := Lib.hid (head_set hm hs')
  have hv' := (show (mc ++ h'.cells)[15 + i]? = some (.string ⟨v.toArray⟩) by
    rw [List.getElem?_append_right (by omega), hm, Nat.add_sub_cancel_left, ← hs, List.getElem?_set_self (List.getElem?_eq_some_iff.1 hx).1])
  have Hv' := Lib.hid hv'
  have HE := Lib.hid (show (if hdFits h' = 0 then h' else h) = putEnd h h' from rfl)
  clear hh hx hs hs' hok hl hv'
  generalize putEnd h h' = E at *
  generalize hdFits h' = R at *
  go_enter Tryz.func88, Tryz.ntmps88
  go_upto_region 3 with (fail)
  generalize w.setCell ⟨b, 15 + i, none⟩ (.string ⟨v.toArray⟩) = w1 at *
  obtain ⟨z0, z1, z2, z3, z4, z5, z6, z7, z8, z9, z10, z11, z12⟩ := cells13 hm H1.out
  have hval : h'.val = .agg #[.string ⟨h'.name.toArray⟩, .string ⟨h'.link.toArray⟩, .int .u8 h'.kind, .int .i64 h'.mode, .int .i64 h'.uid, .int .i64 h'.gid, .int .i64 h'.size, .int .i64 h'.time, .string ⟨h'.uname.toArray⟩, .string ⟨h'.gname.toArray⟩, .int .i64 h'.major, .int .i64 h'.minor, .int .i64 h'.form] := rfl
  rw [hval] at hfit
  have Hfit := Lib.hid hfit
  clear hfit hval hm c0 f0
  go_wp2_with (fail)
  refine (Hfit.out _).mono ?_
  rintro e w2 ⟨hb2, rfl⟩
  have H2 := Lib.hid (H1.out.under hb2 H1.out.lt)
  have G2 := Lib.hid (grown_trans G1.out (grown_below hb2 (some b)))
  clear hb2 z0 z1 z2 z3 z4 z5 z6 z7 z8 z9 z10 z11 z12 Hfit H1 G1
  by_cases hR : R = 0
  · subst hR
    go_wp2
    go_ret
    rw [← HE.out]
    exact ⟨G2.out, H2.out, rfl⟩
  · have hR0 : (R == 0) = false := by simpa using hR
    have HR := Lib.hid hR
    have c2 := H2.out.at Hv'.out
    have f2 := H2.out.frozen (15 + i)
    clear hR
    go_wp2
    go_ret
    rw [← HE.out, if_neg HR.out]
    exact ⟨grown_trans G2.out (grown_setCell w2 ⟨b, 15 + i, none⟩ _), by rw [← Hs'.out]; exact H2.out.put (15 + i) _, by simp [hR0]⟩
end Go.Proofs.YtamenhkbmbaopaaGreatDoor
