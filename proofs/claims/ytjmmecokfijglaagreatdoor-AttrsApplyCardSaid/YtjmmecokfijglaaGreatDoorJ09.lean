/-
  Texts of this seat's proof, joined: their order is that of the build.
-/
import Derived.Test.YtjmmecokfijglaaGreatDoorJ01
import Derived.Test.YtjmmecokfijglaaGreatDoorJ08
import Derived.Deep.DeepCutAuto
import Derived.Deep.CutBlock
import Derived.Deep.RegionHeld3
namespace Go.Proofs.YtjmmecokfijglaaGreatDoor
open Go.ChangeShapes Go.WideShapes Go.ChangeAt Go.RowKit

theorem grown_setCell (w : World) (p : Addr) (u : Value) : w.grownBy (w.setCell p u) (some p.block) :=
  ⟨rfl, rfl, rfl, by simp [World.setCell], fun k _ hne => Below.heap_setCell w p u k (fun e => hne (by rw [e]))⟩
theorem grown_below {w w' : World} (hb : Below w.heap.size w w') (row : Option Nat) : w.grownBy w' row := ⟨hb.os, hb.tape, hb.output, hb.size, fun k hk _ => hb.block k hk⟩
theorem grown_trans {a b c : World} {row : Option Nat} (h : a.grownBy b row) (g : b.grownBy c row) : a.grownBy c row :=
  ⟨g.os.trans h.os, g.tape.trans h.tape, g.output.trans h.output, Nat.le_trans h.size g.size, fun k hk hne => (g.block k (Nat.lt_of_lt_of_le hk h.size) hne).trans (h.block k hk hne)⟩
/-- The cells of a head that lies behind fifteen others. -/
theorem head_at {w : World} {b : Nat} {t : TypeId} {mc : List Value} (hm : mc.length = 15) {h : Hd} (H : Holds w b t (mc ++ h.cells)) (j : Nat) (v : Value) (hj : h.cells[j]? = some v) : w.cell? ⟨b, 15 + j, none⟩ = some v := by
  refine H.at ?_
  rw [List.getElem?_append_right (by omega), hm, Nat.add_sub_cancel_left]
  exact hj
theorem head_set {mc : List Value} (hm : mc.length = 15) {h h' : Hd} {j : Nat} {v : Value} (hs : h.cells.set j v = h'.cells) : (mc ++ h.cells).set (15 + j) v = mc ++ h'.cells := by
  rw [List.set_append_right _ _ (by omega), hm, Nat.add_sub_cancel_left, hs]
def Cells13 (b : Nat) (h : Hd) (w : World) : Prop := w.cell? ⟨b, 15, none⟩ = some (.string ⟨h.name.toArray⟩) ∧ w.cell? ⟨b, 16, none⟩ = some (.string ⟨h.link.toArray⟩) ∧ w.cell? ⟨b, 17, none⟩ = some (.int .u8 h.kind) ∧ w.cell? ⟨b, 18, none⟩ = some (.int .i64 h.mode) ∧ w.cell? ⟨b, 19, none⟩ = some (.int .i64 h.uid) ∧ w.cell? ⟨b, 20, none⟩ = some (.int .i64 h.gid) ∧ w.cell? ⟨b, 21, none⟩ = some (.int .i64 h.size) ∧ w.cell? ⟨b, 22, none⟩ = some (.int .i64 h.time) ∧ w.cell? ⟨b, 23, none⟩ = some (.string ⟨h.uname.toArray⟩) ∧ w.cell? ⟨b, 24, none⟩ = some (.string ⟨h.gname.toArray⟩) ∧ w.cell? ⟨b, 25, none⟩ = some (.int .i64 h.major) ∧ w.cell? ⟨b, 26, none⟩ = some (.int .i64 h.minor) ∧ w.cell? ⟨b, 27, none⟩ = some (.int .i64 h.form)
theorem cells13 {w : World} {b : Nat} {t : TypeId} {mc : List Value} (hm : mc.length = 15) {h : Hd} (H : Holds w b t (mc ++ h.cells)) : Cells13 b h w :=
  ⟨head_at hm H 0 _ rfl, head_at hm H 1 _ rfl, head_at hm H 2 _ rfl, head_at hm H 3 _ rfl, head_at hm H 4 _ rfl, head_at hm H 5 _ rfl, head_at hm H 6 _ rfl, head_at hm H 7 _ rfl, head_at hm H 8 _ rfl, head_at hm H 9 _ rfl, head_at hm H 10 _ rfl, head_at hm H 11 _ rfl, head_at hm H 12 _ rfl⟩

/-- The head, as putIn leaves it. -/
def putEnd (h h' : Hd) : Hd := if hdFits h' = 0 then h' else h
set_option maxRecDepth 100000 in
set_option maxHeartbeats 1000000 in
theorem putInt_any (mc : List Value) (hm : mc.length = 15) (h h' : Hd) (i : Nat) (x v : Int) (hx : h.cells[i]? = some (.int .i64 x)) (hs : h.cells.set i (.int .i64 v) = h'.cells) (hs' : h'.cells.set i (.int .i64 x) = h.cells)
    (hok : h'.okN) (hl : h'.name.length ≤ 9223372036854775807) (b : Nat) (w : World) (hh : Holds w b 78 (mc ++ h.cells)) :
    Calls Tryz.prog 133 #[.pointer (some ⟨b, 15, none⟩), .pointer (some ⟨b, 15 + i, none⟩), .int .i64 v] w fun e w' =>
      w.grownBy w' (some b) ∧ Holds w' b 78 (mc ++ (putEnd h h').cells) ∧ e = .returned (.bool (hdFits h' == 0)) := by
  have Hm := Lib.hid hm
  have c0 := head_at hm hh i _ hx
  have f0 := hh.frozen (15 + i)
  have hfit := fun w1 => fits_any h' w1 hok hl
  have H1 := Lib.hid (show Holds (w.setCell ⟨b, 15 + i, none⟩ (.int .i64 v)) b 78 (mc ++ h'.cells) by rw [← head_set hm hs]; exact hh.put (15 + i) _)
  have G1 := Lib.hid (show w.grownBy (w.setCell ⟨b, 15 + i, none⟩ (.int .i64 v)) (some b) from grown_setCell w ⟨b, 15 + i, none⟩ (.int .i64 v))
  have Hs' := Lib.hid (head_set hm hs')
  have hv' := (show (mc ++ h'.cells)[15 + i]? = some (.int .i64 v) by
    rw [List.getElem?_append_right (by omega), hm, Nat.add_sub_cancel_left, ← hs, List.getElem?_set_self (List.getElem?_eq_some_iff.1 hx).1])
  have Hv' := Lib.hid hv'
  have HE := Lib.hid (show (if hdFits h' = 0 then h' else h) = putEnd h h' from rfl)
  clear hh hx hs hs' hok hl hv'
  generalize putEnd h h' = E at *
  generalize hdFits h' = R at *
  go_enter Tryz.func133, Tryz.ntmps133
  go_upto_region 3 with (fail)
  generalize w.setCell ⟨b, 15 + i, none⟩ (.int .i64 v) = w1 at *
  obtain ⟨z0, z1, z2, z3, z4, z5, z6, z7, z8, z9, z10, z11, z12⟩ := cells13 hm H1.out
  have hval : h'.val = .agg #[.string ⟨h'.name.toArray⟩, .string ⟨h'.link.toArray⟩, .int .u8 h'.kind, .int .i64 h'.mode, .int .i64 h'.uid, .int .i64 h'.gid, .int .i64 h'.size, .int .i64 h'.time, .string ⟨h'.uname.toArray⟩, .string ⟨h'.gname.toArray⟩, .int .i64 h'.major, .int .i64 h'.minor, .int .i64 h'.form] := rfl
  rw [hval] at hfit
  have Hfit := Lib.hid hfit
  clear hfit hval hm c0 f0
  go_wp2_with (fail)
  refine (Hfit.out _).mono ?_
  rintro e w2 ⟨hb2, rfl⟩
  have H2 := Lib.hid (H1.out.under hb2 H1.out.lt)
  have G2 := Lib.hid (grown_trans G1.out (grown_below hb2 (some b)))
  clear hb2 z0 z1 z2 z3 z4 z5 z6 z7 z8 z9 z10 z11 z12 Hfit H1 G1
  by_cases hR : R = 0
  · subst hR
    go_wp2
    go_ret
    rw [← HE.out]
    exact ⟨G2.out, H2.out, rfl⟩
  · have hR0 : (R == 0) = false := by simpa using hR
    have HR := Lib.hid hR
    have c2 := H2.out.at Hv'.out
    have f2 := H2.out.frozen (15 + i)
    clear hR
    go_wp2
    go_ret
    rw [← HE.out, if_neg HR.out]
    exact ⟨grown_trans G2.out (grown_setCell w2 ⟨b, 15 + i, none⟩ _), by rw [← Hs'.out]; exact H2.out.put (15 + i) _, by simp [hR0]⟩

set_option maxRecDepth 100000 in
set_option maxHeartbeats 1000000 in
theorem putText_any (mc : List Value) (hm : mc.length = 15) (h h' : Hd) (i : Nat) (x v : List UInt8) (hx : h.cells[i]? = some (.string ⟨x.toArray⟩)) (hs : h.cells.set i (.string ⟨v.toArray⟩) = h'.cells) (hs' : h'.cells.set i (.string ⟨x.toArray⟩) = h.cells)
    (hok : h'.okN) (hl : h'.name.length ≤ 9223372036854775807) (b : Nat) (w : World) (hh : Holds w b 78 (mc ++ h.cells)) :
    Calls Tryz.prog 138 #[.pointer (some ⟨b, 15, none⟩), .pointer (some ⟨b, 15 + i, none⟩), .string ⟨v.toArray⟩] w fun e w' =>
      w.grownBy w' (some b) ∧ Holds w' b 78 (mc ++ (putEnd h h').cells) ∧ e = .returned (.bool (hdFits h' == 0)) := by
  have Hm := Lib.hid hm
  have c0 := head_at hm hh i _ hx
  have f0 := hh.frozen (15 + i)
  have hfit := fun w1 => fits_any h' w1 hok hl
  have H1 := Lib.hid (show Holds (w.setCell ⟨b, 15 + i, none⟩ (.string ⟨v.toArray⟩)) b 78 (mc ++ h'.cells) by rw [← head_set hm hs]; exact hh.put (15 + i) _)
  have G1 := Lib.hid (show w.grownBy (w.setCell ⟨b, 15 + i, none⟩ (.string ⟨v.toArray⟩)) (some b) from grown_setCell w ⟨b, 15 + i, none⟩ (.string ⟨v.toArray⟩))
  have Hs' := Lib.hid (head_set hm hs')
  have hv' := (show (mc ++ h'.cells)[15 + i]? = some (.string ⟨v.toArray⟩) by
    rw [List.getElem?_append_right (by omega), hm, Nat.add_sub_cancel_left, ← hs, List.getElem?_set_self (List.getElem?_eq_some_iff.1 hx).1])
  have Hv' := Lib.hid hv'
  have HE := Lib.hid (show (if hdFits h' = 0 then h' else h) = putEnd h h' from rfl)
  clear hh hx hs hs' hok hl hv'
  generalize putEnd h h' = E at *
  generalize hdFits h' = R at *
  go_enter Tryz.func138, Tryz.ntmps138
  go_upto_region 3 with (fail)
  generalize w.setCell ⟨b, 15 + i, none⟩ (.string ⟨v.toArray⟩) = w1 at *
  obtain ⟨z0, z1, z2, z3, z4, z5, z6, z7, z8, z9, z10, z11, z12⟩ := cells13 hm H1.out
  have hval : h'.val = .agg #[.string ⟨h'.name.toArray⟩, .string ⟨h'.link.toArray⟩, .int .u8 h'.kind, .int .i64 h'.mode, .int .i64 h'.uid, .int .i64 h'.gid, .int .i64 h'.size, .int .i64 h'.time, .string ⟨h'.uname.toArray⟩, .string ⟨h'.gname.toArray⟩, .int .i64 h'.major, .int .i64 h'.minor, .int .i64 h'.form] := rfl
  rw [hval] at hfit
  have Hfit := Lib.hid hfit
  clear hfit hval hm c0 f0
  go_wp2_with (fail)
  refine (Hfit.out _).mono ?_
  rintro e w2 ⟨hb2, rfl⟩
  have H2 := Lib.hid (H1.out.under hb2 H1.out.lt)
  have G2 := Lib.hid (grown_trans G1.out (grown_below hb2 (some b)))
  clear hb2 z0 z1 z2 z3 z4 z5 z6 z7 z8 z9 z10 z11 z12 Hfit H1 G1
  by_cases hR : R = 0
  · subst hR
    go_wp2
    go_ret
    rw [← HE.out]
    exact ⟨G2.out, H2.out, rfl⟩
  · have hR0 : (R == 0) = false := by simpa using hR
    have HR := Lib.hid hR
    have c2 := H2.out.at Hv'.out
    have f2 := H2.out.frozen (15 + i)
    clear hR
    go_wp2
    go_ret
    rw [← HE.out, if_neg HR.out]
    exact ⟨grown_trans G2.out (grown_setCell w2 ⟨b, 15 + i, none⟩ _), by rw [← Hs'.out]; exact H2.out.put (15 + i) _, by simp [hR0]⟩
end Go.Proofs.YtjmmecokfijglaaGreatDoor
namespace Go.Proofs.YtjmmecokfijglaaGreatDoor
open Go.ChangeShapes Go.WideShapes Go.ChangeAt Go.RowKit

/-- What the last region keeps. -/
def KeepA (W : World) (b : Nat) (mc : List Value) (w : World) : Prop := (∃ E : Hd, Holds w b 78 (mc ++ E.cells)) ∧ W.grownBy w (some b)
theorem KeepA.cell {W : World} {b : Nat} {mc : List Value} {w : World} (k : KeepA W b mc w) {a : Nat} {v : Value} (hv : mc[a]? = some v) : w.cell? ⟨b, a, none⟩ = some v := by
  obtain ⟨⟨E, H⟩, -⟩ := k
  refine H.at ?_
  rw [List.getElem?_append_left (List.getElem?_eq_some_iff.1 hv).1]
  exact hv
theorem KeepA.all {W : World} {b : Nat} {mc : List Value} {w : World} {a : Nat} {v : Value} (hv : mc[a]? = some v) (k : KeepA W b mc w) : KeepA W b mc w ∧ w.cell? ⟨b, a, none⟩ = some v := ⟨k, k.cell hv⟩
theorem KeepA.drew {W : World} {b : Nat} {mc : List Value} {w : World} (k : KeepA W b mc w) : KeepA W b mc w.drew := ⟨k.1, grown_trans k.2 ⟨rfl, rfl, rfl, Nat.le_refl _, fun _ _ _ => rfl⟩⟩
theorem Holds.drewN {w : World} {b : Nat} {t : TypeId} {cs : List Value} (h : Holds w b t cs) (m : Nat) : Holds (w.drewN m) b t cs := h
theorem grown_drewN (w : World) (m : Nat) (row : Option Nat) : w.grownBy (w.drewN m) row := ⟨rfl, rfl, rfl, Nat.le_refl _, fun _ _ _ => rfl⟩

set_option maxRecDepth 100000 in
set_option maxHeartbeats 1000000 in
theorem fitGid_any (mc : List Value) (hm : mc.length = 15) (h h' : Hd) (x v : Int) (hv : mc[5]? = some (.int .i64 v)) (hx : h.cells[5]? = some (.int .i64 x)) (hs : h.cells.set 5 (.int .i64 v) = h'.cells) (hs' : h'.cells.set 5 (.int .i64 x) = h.cells)
    (hok : h'.okN) (hl : h'.name.length ≤ 9223372036854775807) (b c : Nat) (w : World) (hh : Holds w b 78 (mc ++ h.cells)) (hc : Holds w c 154 [.func (.func 73) #[] #[]]) :
    Calls Tryz.prog 132 #[.pointer (some ⟨b, 0, none⟩), .pointer (some ⟨c, 0, none⟩)] w fun e w' =>
      w.grownBy w' (some b) ∧ Holds w' b 78 (mc ++ (putEnd h h').cells) ∧ e = .returned (.bool (hdFits h' == 0)) := by
  have Hput := Lib.hid (show ∀ w1 : World, Holds w1 b 78 (mc ++ h.cells) → Calls Tryz.prog 133 #[.pointer (some ⟨b, 15, none⟩), .pointer (some ⟨b, 20, none⟩), .int .i64 v] w1 fun e w' =>
      w1.grownBy w' (some b) ∧ Holds w' b 78 (mc ++ (putEnd h h').cells) ∧ e = .returned (.bool (hdFits h' == 0)) from fun w1 hh1 => putInt_any mc hm h h' 5 x v hx hs hs' hok hl b w1 hh1)
  have Hv := Lib.hid hv
  have Hh := Lib.hid hh
  have c0 := hc.at (i := 0) (v := .func (.func 73) #[] #[]) rfl
  clear hm hx hs hs' hok hl hv hh hc
  generalize (hdFits h' == 0) = R at *
  generalize putEnd h h' = E at *
  go_enter Tryz.func132, Tryz.ntmps132
  go_wp2_with (fail)
  refine (known1_any b w).mono ?_
  rintro e w1 ⟨⟨m, rfl⟩, rfl⟩
  have Hh1 := Lib.hid (Hh.out.drewN m)
  have G1 := Lib.hid (grown_drewN w m (some b))
  generalize w.drewN m = w1 at *
  have K1 : KeepA w b mc w1 := ⟨⟨h, Hh1.out⟩, G1.out⟩
  have k1 := K1.cell Hv.out
  clear c0 Hh
  go_wp2_with (fail)
  go_region_held3 (fun w' => KeepA w b mc w' ∧ w'.cell? ⟨b, 5, none⟩ = some (.int .i64 v))
    (first | assumption | exact KeepA.all Hv.out (KeepA.drew K1) | exact KeepA.all Hv.out ⟨⟨_, hA⟩, grown_trans (KeepA.drew K1).2 gA⟩ | exact KeepA.all Hv.out ⟨⟨_, hA⟩, grown_trans K1.2 gA⟩)
    (first | (go_at_call 133; refine (Hput.out _ (Holds.drew Hh1.out)).mono ?_; rintro e wA ⟨gA, hA, rfl⟩))
  have GA := (KeepA.drew K1).2
  go_wp2
  go_ret
  exact ⟨grown_trans GA gA, hA, rfl⟩

set_option maxRecDepth 100000 in
set_option maxHeartbeats 1000000 in
theorem fitSize_any (mc : List Value) (hm : mc.length = 15) (h h' : Hd) (x v : Int) (hv : mc[14]? = some (.int .i64 v)) (hx : h.cells[6]? = some (.int .i64 x)) (hs : h.cells.set 6 (.int .i64 v) = h'.cells) (hs' : h'.cells.set 6 (.int .i64 x) = h.cells)
    (hok : h'.okN) (hl : h'.name.length ≤ 9223372036854775807) (b c : Nat) (w : World) (hh : Holds w b 78 (mc ++ h.cells)) (hc : Holds w c 154 [.func (.func 79) #[] #[]]) :
    Calls Tryz.prog 132 #[.pointer (some ⟨b, 0, none⟩), .pointer (some ⟨c, 0, none⟩)] w fun e w' =>
      w.grownBy w' (some b) ∧ Holds w' b 78 (mc ++ (putEnd h h').cells) ∧ e = .returned (.bool (hdFits h' == 0)) := by
  have Hput := Lib.hid (show ∀ w1 : World, Holds w1 b 78 (mc ++ h.cells) → Calls Tryz.prog 133 #[.pointer (some ⟨b, 15, none⟩), .pointer (some ⟨b, 21, none⟩), .int .i64 v] w1 fun e w' =>
      w1.grownBy w' (some b) ∧ Holds w' b 78 (mc ++ (putEnd h h').cells) ∧ e = .returned (.bool (hdFits h' == 0)) from fun w1 hh1 => putInt_any mc hm h h' 6 x v hx hs hs' hok hl b w1 hh1)
  have Hv := Lib.hid hv
  have Hh := Lib.hid hh
  have c0 := hc.at (i := 0) (v := .func (.func 79) #[] #[]) rfl
  clear hm hx hs hs' hok hl hv hh hc
  generalize (hdFits h' == 0) = R at *
  generalize putEnd h h' = E at *
  go_enter Tryz.func132, Tryz.ntmps132
  go_wp2_with (fail)
  refine (known5_any b w).mono ?_
  rintro e w1 ⟨⟨m, rfl⟩, rfl⟩
  have Hh1 := Lib.hid (Hh.out.drewN m)
  have G1 := Lib.hid (grown_drewN w m (some b))
  generalize w.drewN m = w1 at *
  have K1 : KeepA w b mc w1 := ⟨⟨h, Hh1.out⟩, G1.out⟩
  have k1 := K1.cell Hv.out
  clear c0 Hh
  go_wp2_with (fail)
  go_region_held3 (fun w' => KeepA w b mc w' ∧ w'.cell? ⟨b, 14, none⟩ = some (.int .i64 v))
    (first | assumption | exact KeepA.all Hv.out (KeepA.drew K1) | exact KeepA.all Hv.out ⟨⟨_, hA⟩, grown_trans (KeepA.drew K1).2 gA⟩ | exact KeepA.all Hv.out ⟨⟨_, hA⟩, grown_trans K1.2 gA⟩)
    (first | (go_at_call 133; refine (Hput.out _ (Holds.drew Hh1.out)).mono ?_; rintro e wA ⟨gA, hA, rfl⟩))
  have GA := (KeepA.drew K1).2
  go_wp2
  go_ret
  exact ⟨grown_trans GA gA, hA, rfl⟩

set_option maxRecDepth 100000 in
set_option maxHeartbeats 1000000 in
theorem fitUid_any (mc : List Value) (hm : mc.length = 15) (h h' : Hd) (x v : Int) (hv : mc[4]? = some (.int .i64 v)) (hx : h.cells[4]? = some (.int .i64 x)) (hs : h.cells.set 4 (.int .i64 v) = h'.cells) (hs' : h'.cells.set 4 (.int .i64 x) = h.cells)
    (hok : h'.okN) (hl : h'.name.length ≤ 9223372036854775807) (b c : Nat) (w : World) (hh : Holds w b 78 (mc ++ h.cells)) (hc : Holds w c 154 [.func (.func 80) #[] #[]]) :
    Calls Tryz.prog 132 #[.pointer (some ⟨b, 0, none⟩), .pointer (some ⟨c, 0, none⟩)] w fun e w' =>
      w.grownBy w' (some b) ∧ Holds w' b 78 (mc ++ (putEnd h h').cells) ∧ e = .returned (.bool (hdFits h' == 0)) := by
  have Hput := Lib.hid (show ∀ w1 : World, Holds w1 b 78 (mc ++ h.cells) → Calls Tryz.prog 133 #[.pointer (some ⟨b, 15, none⟩), .pointer (some ⟨b, 19, none⟩), .int .i64 v] w1 fun e w' =>
      w1.grownBy w' (some b) ∧ Holds w' b 78 (mc ++ (putEnd h h').cells) ∧ e = .returned (.bool (hdFits h' == 0)) from fun w1 hh1 => putInt_any mc hm h h' 4 x v hx hs hs' hok hl b w1 hh1)
  have Hv := Lib.hid hv
  have Hh := Lib.hid hh
  have c0 := hc.at (i := 0) (v := .func (.func 80) #[] #[]) rfl
  clear hm hx hs hs' hok hl hv hh hc
  generalize (hdFits h' == 0) = R at *
  generalize putEnd h h' = E at *
  go_enter Tryz.func132, Tryz.ntmps132
  go_wp2_with (fail)
  refine (known6_any b w).mono ?_
  rintro e w1 ⟨⟨m, rfl⟩, rfl⟩
  have Hh1 := Lib.hid (Hh.out.drewN m)
  have G1 := Lib.hid (grown_drewN w m (some b))
  generalize w.drewN m = w1 at *
  have K1 : KeepA w b mc w1 := ⟨⟨h, Hh1.out⟩, G1.out⟩
  have k1 := K1.cell Hv.out
  clear c0 Hh
  go_wp2_with (fail)
  go_region_held3 (fun w' => KeepA w b mc w' ∧ w'.cell? ⟨b, 4, none⟩ = some (.int .i64 v))
    (first | assumption | exact KeepA.all Hv.out (KeepA.drew K1) | exact KeepA.all Hv.out ⟨⟨_, hA⟩, grown_trans (KeepA.drew K1).2 gA⟩ | exact KeepA.all Hv.out ⟨⟨_, hA⟩, grown_trans K1.2 gA⟩)
    (first | (go_at_call 133; refine (Hput.out _ (Holds.drew Hh1.out)).mono ?_; rintro e wA ⟨gA, hA, rfl⟩))
  have GA := (KeepA.drew K1).2
  go_wp2
  go_ret
  exact ⟨grown_trans GA gA, hA, rfl⟩

set_option maxRecDepth 100000 in
set_option maxHeartbeats 1000000 in
theorem fitGname_any (mc : List Value) (hm : mc.length = 15) (h h' : Hd) (x v : List UInt8) (hv : mc[7]? = some (.string ⟨v.toArray⟩)) (hx : h.cells[9]? = some (.string ⟨x.toArray⟩)) (hs : h.cells.set 9 (.string ⟨v.toArray⟩) = h'.cells) (hs' : h'.cells.set 9 (.string ⟨x.toArray⟩) = h.cells)
    (hok : h'.okN) (hl : h'.name.length ≤ 9223372036854775807) (b c : Nat) (w : World) (hh : Holds w b 78 (mc ++ h.cells)) (hc : Holds w c 156 [.func (.func 75) #[] #[]]) :
    Calls Tryz.prog 137 #[.pointer (some ⟨b, 0, none⟩), .pointer (some ⟨c, 0, none⟩)] w fun e w' =>
      w.grownBy w' (some b) ∧ Holds w' b 78 (mc ++ (putEnd h h').cells) ∧ e = .returned (.bool (hdFits h' == 0)) := by
  have Hput := Lib.hid (show ∀ w1 : World, Holds w1 b 78 (mc ++ h.cells) → Calls Tryz.prog 138 #[.pointer (some ⟨b, 15, none⟩), .pointer (some ⟨b, 24, none⟩), .string ⟨v.toArray⟩] w1 fun e w' =>
      w1.grownBy w' (some b) ∧ Holds w' b 78 (mc ++ (putEnd h h').cells) ∧ e = .returned (.bool (hdFits h' == 0)) from fun w1 hh1 => putText_any mc hm h h' 9 x v hx hs hs' hok hl b w1 hh1)
  have Hv := Lib.hid hv
  have Hh := Lib.hid hh
  have c0 := hc.at (i := 0) (v := .func (.func 75) #[] #[]) rfl
  clear hm hx hs hs' hok hl hv hh hc
  generalize (hdFits h' == 0) = R at *
  generalize putEnd h h' = E at *
  go_enter Tryz.func137, Tryz.ntmps137
  go_wp2_with (fail)
  refine (known2_any b w).mono ?_
  rintro e w1 ⟨⟨m, rfl⟩, rfl⟩
  have Hh1 := Lib.hid (Hh.out.drewN m)
  have G1 := Lib.hid (grown_drewN w m (some b))
  generalize w.drewN m = w1 at *
  have K1 : KeepA w b mc w1 := ⟨⟨h, Hh1.out⟩, G1.out⟩
  have k1 := K1.cell Hv.out
  clear c0 Hh
  go_wp2_with (fail)
  go_region_held3 (fun w' => KeepA w b mc w' ∧ w'.cell? ⟨b, 7, none⟩ = some (.string ⟨v.toArray⟩))
    (first | assumption | exact KeepA.all Hv.out (KeepA.drew K1) | exact KeepA.all Hv.out ⟨⟨_, hA⟩, grown_trans (KeepA.drew K1).2 gA⟩ | exact KeepA.all Hv.out ⟨⟨_, hA⟩, grown_trans K1.2 gA⟩)
    (first | (go_at_call 138; refine (Hput.out _ (Holds.drew Hh1.out)).mono ?_; rintro e wA ⟨gA, hA, rfl⟩))
  have GA := (KeepA.drew K1).2
  go_wp2
  go_ret
  exact ⟨grown_trans GA gA, hA, rfl⟩

set_option maxRecDepth 100000 in
set_option maxHeartbeats 1000000 in
theorem fitLink_any (mc : List Value) (hm : mc.length = 15) (h h' : Hd) (x v : List UInt8) (hv : mc[1]? = some (.string ⟨v.toArray⟩)) (hx : h.cells[1]? = some (.string ⟨x.toArray⟩)) (hs : h.cells.set 1 (.string ⟨v.toArray⟩) = h'.cells) (hs' : h'.cells.set 1 (.string ⟨x.toArray⟩) = h.cells)
    (hok : h'.okN) (hl : h'.name.length ≤ 9223372036854775807) (b c : Nat) (w : World) (hh : Holds w b 78 (mc ++ h.cells)) (hc : Holds w c 156 [.func (.func 76) #[] #[]]) :
    Calls Tryz.prog 137 #[.pointer (some ⟨b, 0, none⟩), .pointer (some ⟨c, 0, none⟩)] w fun e w' =>
      w.grownBy w' (some b) ∧ Holds w' b 78 (mc ++ (putEnd h h').cells) ∧ e = .returned (.bool (hdFits h' == 0)) := by
  have Hput := Lib.hid (show ∀ w1 : World, Holds w1 b 78 (mc ++ h.cells) → Calls Tryz.prog 138 #[.pointer (some ⟨b, 15, none⟩), .pointer (some ⟨b, 16, none⟩), .string ⟨v.toArray⟩] w1 fun e w' =>
      w1.grownBy w' (some b) ∧ Holds w' b 78 (mc ++ (putEnd h h').cells) ∧ e = .returned (.bool (hdFits h' == 0)) from fun w1 hh1 => putText_any mc hm h h' 1 x v hx hs hs' hok hl b w1 hh1)
  have Hv := Lib.hid hv
  have Hh := Lib.hid hh
  have c0 := hc.at (i := 0) (v := .func (.func 76) #[] #[]) rfl
  clear hm hx hs hs' hok hl hv hh hc
  generalize (hdFits h' == 0) = R at *
  generalize putEnd h h' = E at *
  go_enter Tryz.func137, Tryz.ntmps137
  go_wp2_with (fail)
  refine (known3_any b w).mono ?_
  rintro e w1 ⟨⟨m, rfl⟩, rfl⟩
  have Hh1 := Lib.hid (Hh.out.drewN m)
  have G1 := Lib.hid (grown_drewN w m (some b))
  generalize w.drewN m = w1 at *
  have K1 : KeepA w b mc w1 := ⟨⟨h, Hh1.out⟩, G1.out⟩
  have k1 := K1.cell Hv.out
  clear c0 Hh
  go_wp2_with (fail)
  go_region_held3 (fun w' => KeepA w b mc w' ∧ w'.cell? ⟨b, 1, none⟩ = some (.string ⟨v.toArray⟩))
    (first | assumption | exact KeepA.all Hv.out (KeepA.drew K1) | exact KeepA.all Hv.out ⟨⟨_, hA⟩, grown_trans (KeepA.drew K1).2 gA⟩ | exact KeepA.all Hv.out ⟨⟨_, hA⟩, grown_trans K1.2 gA⟩)
    (first | (go_at_call 138; refine (Hput.out _ (Holds.drew Hh1.out)).mono ?_; rintro e wA ⟨gA, hA, rfl⟩))
  have GA := (KeepA.drew K1).2
  go_wp2
  go_ret
  exact ⟨grown_trans GA gA, hA, rfl⟩

set_option maxRecDepth 100000 in
set_option maxHeartbeats 1000000 in
theorem fitName_any (mc : List Value) (hm : mc.length = 15) (h h' : Hd) (x v : List UInt8) (hv : mc[0]? = some (.string ⟨v.toArray⟩)) (hx : h.cells[0]? = some (.string ⟨x.toArray⟩)) (hs : h.cells.set 0 (.string ⟨v.toArray⟩) = h'.cells) (hs' : h'.cells.set 0 (.string ⟨x.toArray⟩) = h.cells)
    (hok : h'.okN) (hl : h'.name.length ≤ 9223372036854775807) (b c : Nat) (w : World) (hh : Holds w b 78 (mc ++ h.cells)) (hc : Holds w c 156 [.func (.func 78) #[] #[]]) :
    Calls Tryz.prog 137 #[.pointer (some ⟨b, 0, none⟩), .pointer (some ⟨c, 0, none⟩)] w fun e w' =>
      w.grownBy w' (some b) ∧ Holds w' b 78 (mc ++ (putEnd h h').cells) ∧ e = .returned (.bool (hdFits h' == 0)) := by
  have Hput := Lib.hid (show ∀ w1 : World, Holds w1 b 78 (mc ++ h.cells) → Calls Tryz.prog 138 #[.pointer (some ⟨b, 15, none⟩), .pointer (some ⟨b, 15, none⟩), .string ⟨v.toArray⟩] w1 fun e w' =>
      w1.grownBy w' (some b) ∧ Holds w' b 78 (mc ++ (putEnd h h').cells) ∧ e = .returned (.bool (hdFits h' == 0)) from fun w1 hh1 => putText_any mc hm h h' 0 x v hx hs hs' hok hl b w1 hh1)
  have Hv := Lib.hid hv
  have Hh := Lib.hid hh
  have c0 := hc.at (i := 0) (v := .func (.func 78) #[] #[]) rfl
  clear hm hx hs hs' hok hl hv hh hc
  generalize (hdFits h' == 0) = R at *
  generalize putEnd h h' = E at *
  go_enter Tryz.func137, Tryz.ntmps137
  go_wp2_with (fail)
  refine (known4_any b w).mono ?_
  rintro e w1 ⟨⟨m, rfl⟩, rfl⟩
  have Hh1 := Lib.hid (Hh.out.drewN m)
  have G1 := Lib.hid (grown_drewN w m (some b))
  generalize w.drewN m = w1 at *
  have K1 : KeepA w b mc w1 := ⟨⟨h, Hh1.out⟩, G1.out⟩
  have k1 := K1.cell Hv.out
  clear c0 Hh
  go_wp2_with (fail)
  go_region_held3 (fun w' => KeepA w b mc w' ∧ w'.cell? ⟨b, 0, none⟩ = some (.string ⟨v.toArray⟩))
    (first | assumption | exact KeepA.all Hv.out (KeepA.drew K1) | exact KeepA.all Hv.out ⟨⟨_, hA⟩, grown_trans (KeepA.drew K1).2 gA⟩ | exact KeepA.all Hv.out ⟨⟨_, hA⟩, grown_trans K1.2 gA⟩)
    (first | (go_at_call 138; refine (Hput.out _ (Holds.drew Hh1.out)).mono ?_; rintro e wA ⟨gA, hA, rfl⟩))
  have GA := (KeepA.drew K1).2
  go_wp2
  go_ret
  exact ⟨grown_trans GA gA, hA, rfl⟩

set_option maxRecDepth 100000 in
set_option maxHeartbeats 1000000 in
theorem fitUname_any (mc : List Value) (hm : mc.length = 15) (h h' : Hd) (x v : List UInt8) (hv : mc[6]? = some (.string ⟨v.toArray⟩)) (hx : h.cells[8]? = some (.string ⟨x.toArray⟩)) (hs : h.cells.set 8 (.string ⟨v.toArray⟩) = h'.cells) (hs' : h'.cells.set 8 (.string ⟨x.toArray⟩) = h.cells)
    (hok : h'.okN) (hl : h'.name.length ≤ 9223372036854775807) (b c : Nat) (w : World) (hh : Holds w b 78 (mc ++ h.cells)) (hc : Holds w c 156 [.func (.func 81) #[] #[]]) :
    Calls Tryz.prog 137 #[.pointer (some ⟨b, 0, none⟩), .pointer (some ⟨c, 0, none⟩)] w fun e w' =>
      w.grownBy w' (some b) ∧ Holds w' b 78 (mc ++ (putEnd h h').cells) ∧ e = .returned (.bool (hdFits h' == 0)) := by
  have Hput := Lib.hid (show ∀ w1 : World, Holds w1 b 78 (mc ++ h.cells) → Calls Tryz.prog 138 #[.pointer (some ⟨b, 15, none⟩), .pointer (some ⟨b, 23, none⟩), .string ⟨v.toArray⟩] w1 fun e w' =>
      w1.grownBy w' (some b) ∧ Holds w' b 78 (mc ++ (putEnd h h').cells) ∧ e = .returned (.bool (hdFits h' == 0)) from fun w1 hh1 => putText_any mc hm h h' 8 x v hx hs hs' hok hl b w1 hh1)
  have Hv := Lib.hid hv
  have Hh := Lib.hid hh
  have c0 := hc.at (i := 0) (v := .func (.func 81) #[] #[]) rfl
  clear hm hx hs hs' hok hl hv hh hc
  generalize (hdFits h' == 0) = R at *
  generalize putEnd h h' = E at *
  go_enter Tryz.func137, Tryz.ntmps137
  go_wp2_with (fail)
  refine (known7_any b w).mono ?_
  rintro e w1 ⟨⟨m, rfl⟩, rfl⟩
  have Hh1 := Lib.hid (Hh.out.drewN m)
  have G1 := Lib.hid (grown_drewN w m (some b))
  generalize w.drewN m = w1 at *
  have K1 : KeepA w b mc w1 := ⟨⟨h, Hh1.out⟩, G1.out⟩
  have k1 := K1.cell Hv.out
  clear c0 Hh
  go_wp2_with (fail)
  go_region_held3 (fun w' => KeepA w b mc w' ∧ w'.cell? ⟨b, 6, none⟩ = some (.string ⟨v.toArray⟩))
    (first | assumption | exact KeepA.all Hv.out (KeepA.drew K1) | exact KeepA.all Hv.out ⟨⟨_, hA⟩, grown_trans (KeepA.drew K1).2 gA⟩ | exact KeepA.all Hv.out ⟨⟨_, hA⟩, grown_trans K1.2 gA⟩)
    (first | (go_at_call 138; refine (Hput.out _ (Holds.drew Hh1.out)).mono ?_; rintro e wA ⟨gA, hA, rfl⟩))
  have GA := (KeepA.drew K1).2
  go_wp2
  go_ret
  exact ⟨grown_trans GA gA, hA, rfl⟩
end Go.Proofs.YtjmmecokfijglaaGreatDoor
