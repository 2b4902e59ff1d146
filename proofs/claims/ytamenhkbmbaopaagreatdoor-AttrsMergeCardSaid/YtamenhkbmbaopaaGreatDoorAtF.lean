/-
  Contracts of the closures that put a field into a head. (Printed by gen/atfit.py.)
-/
import Derived.Test.YtamenhkbmbaopaaGreatDoorAtP
import Derived.Deep.RegionHeld3
namespace Go.Proofs.YtamenhkbmbaopaaGreatDoor
open Go.ChangeShapes Go.WideShapes Go.ChangeAt Go.RowKit

/-- What the last region keeps. -/
def KeepA (W : World) (b : Nat) (mc : List Value) (w : World) : Prop := (∃ E : Hd, Holds w b 59 (mc ++ E.cells)) ∧ W.grownBy w (some b)
theorem KeepA.cell {W : World} {b : Nat} {mc : List Value} {w : World} (k : KeepA W b mc w) {a : Nat} {v : Value} (hv : mc[a]? = some v) : w.cell? ⟨b, a, none⟩ = some v := by
  obtain ⟨⟨E, H⟩, -⟩ := k
  refine H.at ?_
  rw [List.getElem?_append_left (List.getElem?_eq_some_iff.1 hv).1]
  exact hv
theorem KeepA.all {W : World} {b : Nat} {mc : List Value} {w : World} {a : Nat} {v : Value} (hv : mc[a]? = some v) (k : KeepA W b mc w) : KeepA W b mc w ∧ w.cell? ⟨b, a, none⟩ = some v := ⟨k, k.cell hv⟩
theorem KeepA.drew {W : World} {b : Nat} {mc : List Value} {w : World} (k : KeepA W b mc w) : KeepA W b mc w.drew := ⟨k.1, grown_trans k.2 ⟨rfl, rfl, rfl, Nat.le_refl _, fun _ _ _ => rfl⟩⟩
theorem Holds.drewN {w : World} {b : Nat} {t : TypeId} {cs : List Value} (h : Holds w b t cs) (m : Nat) : Holds (w.drewN m) b t cs := h
theorem grown_drewN (w : World) (m : Nat) (row : Option Nat) : w.grownBy (w.drewN m) row := ⟨rfl, rfl, rfl, Nat.le_refl _, fun _ _ _ => rfl⟩

set_option maxRecDepth 100000 in
set_option maxHeartbeats 1000000 in
theorem fitGid_any (mc : List Value) (hm : mc.length = 15) (h h' : Hd) (x v : Int) (hv : mc[5]? = some (.int .i64 v)) (hx : h.cells[5]? = some (.int .i64 x)) (hs : h.cells.set 5 (.int .i64 v) = h'.cells) (hs' : h'.cells.set 5 (.int .i64 x) = h.cells)
    (hok : h'.okN) (hl : h'.name.length ≤ 9223372036854775807) (b c : Nat) (w : World) (hh : Holds w b 59 (mc ++ h.cells)) (hc : Holds w c 106 [.func (.func 47) #[] #[]]) :
    Calls Tryz.prog 82 #[.pointer (some ⟨b, 0, none⟩), .pointer (some ⟨c, 0, none⟩)] w fun e w' =>
      w.grownBy w' (some b) ∧ Holds w' b 59 (mc ++ (putEnd h h').cells) ∧ e = .returned (.bool (hdFits h' == 0)) := by
  have Hput := Lib.hid (show ∀ w1 : World, Holds w1 b 59 (mc ++ h.cells) → Calls Tryz.prog 83 #[.pointer (some ⟨b, 15, none⟩), .pointer (some ⟨b, 20, none⟩), .int .i64 v] w1 fun e w' =>
      w1.grownBy w' (some b) ∧ Holds w' b 59 (mc ++ (putEnd h h').cells) ∧ e = .returned (.bool (hdFits h' == 0)) from fun w1 hh1 => putInt_any mc hm h h' 5 x v hx hs hs' hok hl b w1 hh1)
  have Hv := Lib.hid hv
  have Hh := Lib.hid hh
  have c0 := hc.at (i := 0) (v := .func (.func 47) #[] #[]) rfl
  clear hm hx hs hs' hok hl hv hh hc
  generalize (hdFits h' == 0) = R at *
  generalize putEnd h h' = E at *
  go_enter Tryz.func82, Tryz.ntmps82
  go_wp2_with (fail)
  refine (known1_any b w).mono ?_
  rintro e w1 ⟨⟨m, rfl⟩, rfl⟩
  have Hh1 := Lib.hid (Hh.out.drewN m)
  have G1 := Lib.hid (grown_drewN w m (some b))
  generalize w.drewN m = w1 at *
  have K1 : KeepA w b mc w1 := ⟨⟨h, Hh1.out⟩, G1.out⟩
  have k1 := K1.cell Hv.out
  clear c0 Hh
  go_wp2_with (fail)
  go_region_held3 (fun w' => KeepA w b mc w' ∧ w'.cell? ⟨b, 5, none⟩ = some (.int .i64 v))
    (first | assumption | exact KeepA.all Hv.out (KeepA.drew K1) | exact KeepA.all Hv.out ⟨⟨_, hA⟩, grown_trans (KeepA.drew K1).2 gA⟩ | exact KeepA.all Hv.out ⟨⟨_, hA⟩, grown_trans K1.2 gA⟩)
    (first | (go_at_call 83; refine (Hput.out _ (Holds.drew Hh1.out)).mono ?_; rintro e wA ⟨gA, hA, rfl⟩))
  have GA := (KeepA.drew K1).2
  go_wp2
  go_ret
  exact ⟨grown_trans GA gA, hA, rfl⟩

set_option maxRecDepth 100000 in
set_option maxHeartbeats 1000000 in
theorem fitSize_any (mc : List Value) (hm : mc.length = 15) (h h' : Hd) (x v : Int) (hv : mc[14]? = some (.int .i64 v)) (hx : h.cells[6]? = some (.int .i64 x)) (hs : h.cells.set 6 (.int .i64 v) = h'.cells) (hs' : h'.cells.set 6 (.int .i64 x) = h.cells)
    (hok : h'.okN) (hl : h'.name.length ≤ 9223372036854775807) (b c : Nat) (w : World) (hh : Holds w b 59 (mc ++ h.cells)) (hc : Holds w c 106 [.func (.func 53) #[] #[]]) :
    Calls Tryz.prog 82 #[.pointer (some ⟨b, 0, none⟩), .pointer (some ⟨c, 0, none⟩)] w fun e w' =>
      w.grownBy w' (some b) ∧ Holds w' b 59 (mc ++ (putEnd h h').cells) ∧ e = .returned (.bool (hdFits h' == 0)) := by
  have Hput := Lib.hid (show ∀ w1 : World, Holds w1 b 59 (mc ++ h.cells) → Calls Tryz.prog 83 #[.pointer (some ⟨b, 15, none⟩), .pointer (some ⟨b, 21, none⟩), .int .i64 v] w1 fun e w' =>
      w1.grownBy w' (some b) ∧ Holds w' b 59 (mc ++ (putEnd h h').cells) ∧ e = .returned (.bool (hdFits h' == 0)) from fun w1 hh1 => putInt_any mc hm h h' 6 x v hx hs hs' hok hl b w1 hh1)
  have Hv := Lib.hid hv
  have Hh := Lib.hid hh
  have c0 := hc.at (i := 0) (v := .func (.func 53) #[] #[]) rfl
  clear hm hx hs hs' hok hl hv hh hc
  generalize (hdFits h' == 0) = R at *
  generalize putEnd h h' = E at *
  go_enter Tryz.func82, Tryz.ntmps82
  go_wp2_with (fail)
  refine (known5_any b w).mono ?_
  rintro e w1 ⟨⟨m, rfl⟩, rfl⟩
  have Hh1 := Lib.hid (Hh.out.drewN m)
  have G1 := Lib.hid (grown_drewN w m (some b))
  generalize w.drewN m = w1 at *
  have K1 : KeepA w b mc w1 := ⟨⟨h, Hh1.out⟩, G1.out⟩
  have k1 := K1.cell Hv.out
  clear c0 Hh
  go_wp2_with (fail)
  go_region_held3 (fun w' => KeepA w b mc w' ∧ w'.cell? ⟨b, 14, none⟩ = some (.int .i64 v))
    (first | assumption | exact KeepA.all Hv.out (KeepA.drew K1) | exact KeepA.all Hv.out ⟨⟨_, hA⟩, grown_trans (KeepA.drew K1).2 gA⟩ | exact KeepA.all Hv.out ⟨⟨_, hA⟩, grown_trans K1.2 gA⟩)
    (first | (go_at_call 83; refine (Hput.out _ (Holds.drew Hh1.out)).mono ?_; rintro e wA ⟨gA, hA, rfl⟩))
  have GA := (KeepA.drew K1).2
  go_wp2
  go_ret
  exact ⟨grown_trans GA gA, hA, rfl⟩

set_option maxRecDepth 100000 in
set_option maxHeartbeats 1000000 in
theorem fitUid_any (mc : List Value) (hm : mc.length = 15) (h h' : Hd) (x v : Int) (hv : mc[4]? = some (.int .i64 v)) (hx : h.cells[4]? = some (.int .i64 x)) (hs : h.cells.set 4 (.int .i64 v) = h'.cells) (hs' : h'.cells.set 4 (.int .i64 x) = h.cells)
    (hok : h'.okN) (hl : h'.name.length ≤ 9223372036854775807) (b c : Nat) (w : World) (hh : Holds w b 59 (mc ++ h.cells)) (hc : Holds w c 106 [.func (.func 54) #[] #[]]) :
    Calls Tryz.prog 82 #[.pointer (some ⟨b, 0, none⟩), .pointer (some ⟨c, 0, none⟩)] w fun e w' =>
      w.grownBy w' (some b) ∧ Holds w' b 59 (mc ++ (putEnd h h').cells) ∧ e = .returned (.bool (hdFits h' == 0)) := by
  have Hput := Lib.hid (show ∀ w1 : World, Holds w1 b 59 (mc ++ h.cells) → Calls Tryz.prog 83 #[.pointer (some ⟨b, 15, none⟩), .pointer (some ⟨b, 19, none⟩), .int .i64 v] w1 fun e w' =>
      w1.grownBy w' (some b) ∧ Holds w' b 59 (mc ++ (putEnd h h').cells) ∧ e = .returned (.bool (hdFits h' == 0)) from fun w1 hh1 => putInt_any mc hm h h' 4 x v hx hs hs' hok hl b w1 hh1)
  have Hv := Lib.hid hv
  have Hh := Lib.hid hh
  have c0 := hc.at (i := 0) (v := .func (.func 54) #[] #[]) rfl
  clear hm hx hs hs' hok hl hv hh hc
  generalize (hdFits h' == 0) = R at *
  generalize putEnd h h' = E at *
  go_enter Tryz.func82, Tryz.ntmps82
  go_wp2_with (fail)
  refine (known6_any b w).mono ?_
  rintro e w1 ⟨⟨m, rfl⟩, rfl⟩
  have Hh1 := Lib.hid (Hh.out.drewN m)
  have G1 := Lib.hid (grown_drewN w m (some b))
  generalize w.drewN m = w1 at *
  have K1 : KeepA w b mc w1 := ⟨⟨h, Hh1.out⟩, G1.out⟩
  have k1 := K1.cell Hv.out
  clear c0 Hh
  go_wp2_with (fail)
  go_region_held3 (fun w' => KeepA w b mc w' ∧ w'.cell? ⟨b, 4, none⟩ = some (.int .i64 v))
    (first | assumption | exact KeepA.all Hv.out (KeepA.drew K1) | exact KeepA.all Hv.out ⟨⟨_, hA⟩, grown_trans (KeepA.drew K1).2 gA⟩ | exact KeepA.all Hv.out ⟨⟨_, hA⟩, grown_trans K1.2 gA⟩)
    (first | (go_at_call 83; refine (Hput.out _ (Holds.drew Hh1.out)).mono ?_; rintro e wA ⟨gA, hA, rfl⟩))
  have GA := (KeepA.drew K1).2
  go_wp2
  go_ret
  exact ⟨grown_trans GA gA, hA, rfl⟩

set_option maxRecDepth 100000 in
set_option maxHeartbeats 1000000 in
theorem fitGname_any (mc : List Value) (hm : mc.length = 15) (h h' : Hd) (x v : List UInt8) (hv : mc[7]? = some (.string ⟨v.toArray⟩)) (hx : h.cells[9]? = some (.string ⟨x.toArray⟩)) (hs : h.cells.set 9 (.string ⟨v.toArray⟩) = h'.cells) (hs' : h'.cells.set 9 (.string ⟨x.toArray⟩) = h.cells)
    (hok : h'.okN) (hl : h'.name.length ≤ 9223372036854775807) (b c : Nat) (w : World) (hh : Holds w b 59 (mc ++ h.cells)) (hc : Holds w c 108 [.func (.func 49) #[] #[]]) :
    Calls Tryz.prog 87 #[.pointer (some ⟨b, 0, none⟩), .pointer (some ⟨c, 0, none⟩)] w fun e w' =>
      w.grownBy w' (some b) ∧ Holds w' b 59 (mc ++ (putEnd h h').cells) ∧ e = .returned (.bool (hdFits h' == 0)) := by
  have Hput := Lib.hid (show ∀ w1 : World, Holds w1 b 59 (mc ++ h.cells) → Calls Tryz.prog 88 #[.pointer (some ⟨b, 15, none⟩), .pointer (some ⟨b, 24, none⟩), .string ⟨v.toArray⟩] w1 fun e w' =>
      w1.grownBy w' (some b) ∧ Holds w' b 59 (mc ++ (putEnd h h').cells) ∧ e = .returned (.bool (hdFits h' == 0)) from fun w1 hh1 => putText_any mc hm h h' 9 x v hx hs hs' hok hl b w1 hh1)
  have Hv := Lib.hid hv
  have Hh := Lib.hid hh
  have c0 := hc.at (i := 0) (v := .func (.func 49) #[] #[]) rfl
  clear hm hx hs hs' hok hl hv hh hc
  generalize (hdFits h' == 0) = R at *
  generalize putEnd h h' = E at *
  go_enter Tryz.func87, Tryz.ntmps87
  go_wp2_with (fail)
  refine (known2_any b w).mono ?_
  rintro e w1 ⟨⟨m, rfl⟩, rfl⟩
  have Hh1 := Lib.hid (Hh.out.drewN m)
  have G1 := Lib.hid (grown_drewN w m (some b))
  generalize w.drewN m = w1 at *
  have K1 : KeepA w b mc w1 := ⟨⟨h, Hh1.out⟩, G1.out⟩
  have k1 := K1.cell Hv.out
  clear c0 Hh
  go_wp2_with (fail)
  go_region_held3 (fun w' => KeepA w b mc w' ∧ w'.cell? ⟨b, 7, none⟩ = some (.string ⟨v.toArray⟩))
    (first | assumption | exact KeepA.all Hv.out (KeepA.drew K1) | exact KeepA.all Hv.out ⟨⟨_, hA⟩, grown_trans (KeepA.drew K1).2 gA⟩ | exact KeepA.all Hv.out ⟨⟨_, hA⟩, grown_trans K1.2 gA⟩)
    (first | (go_at_call 88; refine (Hput.out _ (Holds.drew Hh1.out)).mono ?_; rintro e wA ⟨gA, hA, rfl⟩))
  have GA := (KeepA.drew K1).2
  go_wp2
  go_ret
  exact ⟨grown_trans GA gA, hA, rfl⟩

set_option maxRecDepth 100000 in
set_option maxHeartbeats 1000000 in
theorem fitLink_any (mc : List Value) (hm : mc.length = 15) (h h' : Hd) (x v : List UInt8) (hv : mc[1]? = some (.string ⟨v.toArray⟩)) (hx : h.cells[1]? = some (.string ⟨x.toArray⟩)) (hs : h.cells.set 1 (.string ⟨v.toArray⟩) = h'.cells) (hs' : h'.cells.set 1 (.string ⟨x.toArray⟩) = h.cells)
    (hok : h'.okN) (hl : h'.name.length ≤ 9223372036854775807) (b c : Nat) (w : World) (hh : Holds w b 59 (mc ++ h.cells)) (hc : Holds w c 108 [.func (.func 50) #[] #[]]) :
    Calls Tryz.prog 87 #[.pointer (some ⟨b, 0, none⟩), .pointer (some ⟨c, 0, none⟩)] w fun e w' =>
      w.grownBy w' (some b) ∧ Holds w' b 59 (mc ++ (putEnd h h').cells) ∧ e = .returned (.bool (hdFits h' == 0)) := by
  have Hput := Lib.hid (show ∀ w1 : World, Holds w1 b 59 (mc ++ h.cells) → Calls Tryz.prog 88 #[.pointer (some ⟨b, 15, none⟩), .pointer (some ⟨b, 16, none⟩), .string ⟨v.toArray⟩] w1 fun e w' =>
      w1.grownBy w' (some b) ∧ Holds w' b 59 (mc ++ (putEnd h h').cells) ∧ e = .returned (.bool (hdFits h' == 0)) from fun w1 hh1 => putText_any mc hm h h' 1 x v hx hs hs' hok hl b w1 hh1)
  have Hv := Lib.hid hv
  have Hh := Lib.hid hh
  have c0 := hc.at (i := 0) (v := .func (.func 50) #[] #[]) rfl
  clear hm hx hs hs' hok hl hv hh hc
  generalize (hdFits h' == 0) = R at *
  generalize putEnd h h' = E at *
  go_enter Tryz.func87, Tryz.ntmps87
  go_wp2_with (fail)
  refine (known3_any b w).mono ?_
  rintro e w1 ⟨⟨m, rfl⟩, rfl⟩
  have Hh1 := Lib.hid (Hh.out.drewN m)
  have G1 := Lib.hid (grown_drewN w m (some b))
  generalize w.drewN m = w1 at *
  have K1 : KeepA w b mc w1 := ⟨⟨h, Hh1.out⟩, G1.out⟩
  have k1 := K1.cell Hv.out
  clear c0 Hh
  go_wp2_with (fail)
  go_region_held3 (fun w' => KeepA w b mc w' ∧ w'.cell? ⟨b, 1, none⟩ = some (.string ⟨v.toArray⟩))
    (first | assumption | exact KeepA.all Hv.out (KeepA.drew K1) | exact KeepA.all Hv.out ⟨⟨_, hA⟩, grown_trans (KeepA.drew K1).2 gA⟩ | exact KeepA.all Hv.out ⟨⟨_, hA⟩, grown_trans K1.2 gA⟩)
    (first | (go_at_call 88; refine (Hput.out _ (Holds.drew Hh1.out)).mono ?_; rintro e wA ⟨gA, hA, rfl⟩))
  have GA := (KeepA.drew K1).2
  go_wp2
  go_ret
  exact ⟨grown_trans GA gA, hA, rfl⟩

set_option maxRecDepth 100000 in
set_option maxHeartbeats 1000000 in
theorem fitName_any (mc : List Value) (hm : mc.length = 15) (h h' : Hd) (x v : List UInt8) (hv : mc[0]? = some (.string ⟨v.toArray⟩)) (hx : h.cells[0]? = some (.string ⟨x.toArray⟩)) (hs : h.cells.set 0 (.string ⟨v.toArray⟩) = h'.cells) (hs' : h'.cells.set 0 (.string ⟨x.toArray⟩) = h.cells)
    (hok : h'.okN) (hl : h'.name.length ≤ 9223372036854775807) (b c : Nat) (w : World) (hh : Holds w b 59 (mc ++ h.cells)) (hc : Holds w c 108 [.func (.func 52) #[] #[]]) :
    Calls Tryz.prog 87 #[.pointer (some ⟨b, 0, none⟩), .pointer (some ⟨c, 0, none⟩)] w fun e w' =>
      w.grownBy w' (some b) ∧ Holds w' b 59 (mc ++ (putEnd h h').cells) ∧ e = .returned (.bool (hdFits h' == 0)) := by
  have Hput := Lib.hid (show ∀ w1 : World, Holds w1 b 59 (mc ++ h.cells) → Calls Tryz.prog 88 #[.pointer (some ⟨b, 15, none⟩), .pointer (some ⟨b, 15, none⟩), .string ⟨v.toArray⟩] w1 fun e w' =>
      w1.grownBy w' (some b) ∧ Holds w' b 59 (mc ++ (putEnd h h').cells) ∧ e = .returned (.bool (hdFits h' == 0)) from fun w1 hh1 => putText_any mc hm h h' 0 x v hx hs hs' hok hl b w1 hh1)
  have Hv := Lib.hid hv
  have Hh := Lib.hid hh
  have c0 := hc.at (i := 0) (v := .func (.func 52) #[] #[]) rfl
  clear hm hx hs hs' hok hl hv hh hc
  generalize (hdFits h' == 0) = R at *
  generalize putEnd h h' = E at *
  go_enter Tryz.func87, Tryz.ntmps87
  go_wp2_with (fail)
  refine (known4_any b w).mono ?_
  rintro e w1 ⟨⟨m, rfl⟩, rfl⟩
  have Hh1 := Lib.hid (Hh.out.drewN m)
  have G1 := Lib.hid (grown_drewN w m (some b))
  generalize w.drewN m = w1 at *
  have K1 : KeepA w b mc w1 := ⟨⟨h, Hh1.out⟩, G1.out⟩
  have k1 := K1.cell Hv.out
  clear c0 Hh
  go_wp2_with (fail)
  go_region_held3 (fun w' => KeepA w b mc w' ∧ w'.cell? ⟨b, 0, none⟩ = some (.string ⟨v.toArray⟩))
    (first | assumption | exact KeepA.all Hv.out (KeepA.drew K1) | exact KeepA.all Hv.out ⟨⟨_, hA⟩, grown_trans (KeepA.drew K1).2 gA⟩ | exact KeepA.all Hv.out ⟨⟨_, hA⟩, grown_trans K1.2 gA⟩)
    (first | (go_at_call 88; refine (Hput.out _ (Holds.drew Hh1.out)).mono ?_; rintro e wA ⟨gA, hA, rfl⟩))
  have GA := (KeepA.drew K1).2
  go_wp2
  go_ret
  exact ⟨grown_trans GA gA, hA, rfl⟩

set_option maxRecDepth 100000 in
set_option maxHeartbeats 1000000 in
theorem fitUname_any (mc : List Value) (hm : mc.length = 15) (h h' : Hd) (x v : List UInt8) (hv : mc[6]? = some (.string ⟨v.toArray⟩)) (hx : h.cells[8]? = some (.string ⟨x.toArray⟩)) (hs : h.cells.set 8 (.string ⟨v.toArray⟩) = h'.cells) (hs' : h'.cells.set 8 (.string ⟨x.toArray⟩) = h.cells)
    (hok : h'.okN) (hl : h'.name.length ≤ 9223372036854775807) (b c : Nat) (w : World) (hh : Holds w b 59 (mc ++ h.cells)) (hc : Holds w c 108 [.func (.func 55) #[] #[]]) :
    Calls Tryz.prog 87 #[.pointer (some ⟨b, 0, none⟩), .pointer (some ⟨c, 0, none⟩)] w fun e w' =>
      w.grownBy w' (some b) ∧ Holds w' b 59 (mc ++ (putEnd h h').cells) ∧ e = .returned (.bool (hdFits h' == 0)) := by
  have Hput := Lib.hid (show ∀ w1 : World, Holds w1 b 59 (mc ++ h.cells) → Calls Tryz.prog 88 #[.pointer (some ⟨b, 15, none⟩), .pointer (some ⟨b, 23, none⟩), .string ⟨v.toArray⟩] w1 fun e w' =>
      w1.grownBy w' (some b) ∧ Holds w' b 59 (mc ++ (putEnd h h').cells) ∧ e = .returned (.bool (hdFits h' == 0)) from fun w1 hh1 => putText_any mc hm h h' 8 x v hx hs hs' hok hl b w1 hh1)
  have Hv := Lib.hid hv
  have Hh := Lib.hid hh
  have c0 := hc.at (i := 0) (v := .func (.func 55) #[] #[]) rfl
  clear hm hx hs hs' hok hl hv hh hc
  generalize (hdFits h' == 0) = R at *
  generalize putEnd h h' = E at *
  go_enter Tryz.func87, Tryz.ntmps87
  go_wp2_with (fail)
  refine (known7_any b w).mono ?_
  rintro e w1 ⟨⟨m, rfl⟩, rfl⟩
  have Hh1 := Lib.hid (Hh.out.drewN m)
  have G1 := Lib.hid (grown_drewN w m (some b))
  generalize w.drewN m = w1 at *
  have K1 : KeepA w b mc w1 := ⟨⟨h, Hh1.out⟩, G1.out⟩
  have k1 := K1.cell Hv.out
  clear c0 Hh
  go_wp2_with (fail)
  go_region_held3 (fun w' => KeepA w b mc w' ∧ w'.cell? ⟨b, 6, none⟩ = some (.string ⟨v.toArray⟩))
    (first | assumption | exact KeepA.all Hv.out (KeepA.drew K1) | exact KeepA.all Hv.out ⟨⟨_, hA⟩, grown_trans (KeepA.drew K1).2 gA⟩ | exact KeepA.all Hv.out ⟨⟨_, hA⟩, grown_trans K1.2 gA⟩)
    (first | (go_at_call 88; refine (Hput.out _ (Holds.drew Hh1.out)).mono ?_; rintro e wA ⟨gA, hA, rfl⟩))
  have GA := (KeepA.drew K1).2
  go_wp2
  go_ret
  exact ⟨grown_trans GA gA, hA, rfl⟩
end Go.Proofs.YtamenhkbmbaopaaGreatDoor
