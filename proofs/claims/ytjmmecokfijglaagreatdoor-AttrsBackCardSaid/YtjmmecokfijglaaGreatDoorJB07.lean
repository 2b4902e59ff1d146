/-
  Texts of this seat's proof, joined: their order is that of the build.
-/
import Derived.Test.YtjmmecokfijglaaGreatDoorJB06
import Derived.Deep.RegionHeld3
import Derived.Maps.RangeWalk
import Derived.Maps.OwnSet
import Derived.Test.YtjmmecokfijglaaGreatDoorJB05
import Derived.Laws.Rows
import Derived.Deep.WholeRow
namespace Go.Proofs.YtjmmecokfijglaaGreatDoor
open Go.ChangeShapes Go.WideShapes Go.ChangeAt Go.RowKit

/-- What the last region keeps. -/
def KeepA (W : World) (b : Nat) (mc : List Value) (w : World) : Prop := (∃ E : Hd, Holds w b 78 (mc ++ E.cells)) ∧ W.grownBy w (some b)
theorem KeepA.cell {W : World} {b : Nat} {mc : List Value} {w : World} (k : KeepA W b mc w) {a : Nat} {v : Value} (hv : mc[a]? = some v) : w.cell? ⟨b, a, none⟩ = some v := by
  obtain ⟨⟨E, H⟩, -⟩ := k
  refine H.at ?_
  rw [List.getElem?_append_left (List.getElem?_eq_some_iff.1 hv).1]
  exact hv
theorem KeepA.all {W : World} {b : Nat} {mc : List Value} {w : World} {a : Nat} {v : Value} (hv : mc[a]? = some v) (k : KeepA W b mc w) : KeepA W b mc w ∧ w.cell? ⟨b, a, none⟩ = some v := ⟨k, k.cell hv⟩
theorem KeepA.drew {W : World} {b : Nat} {mc : List Value} {w : World} (k : KeepA W b mc w) : KeepA W b mc w.drew := ⟨k.1, grown_trans k.2 ⟨rfl, rfl, rfl, Nat.le_refl _, fun _ _ _ => rfl⟩⟩
theorem Holds.drewN {w : World} {b : Nat} {t : TypeId} {cs : List Value} (h : Holds w b t cs) (m : Nat) : Holds (w.drewN m) b t cs := h
theorem grown_drewN (w : World) (m : Nat) (row : Option Nat) : w.grownBy (w.drewN m) row := ⟨rfl, rfl, rfl, Nat.le_refl _, fun _ _ _ => rfl⟩

set_option maxRecDepth 100000 in
set_option maxHeartbeats 1000000 in
theorem fitGid_any (mc : List Value) (hm : mc.length = 15) (h h' : Hd) (x v : Int) (hv : mc[5]? = some (.int .i64 v)) (hx : h.cells[5]? = some (.int .i64 x)) (hs : h.cells.set 5 (.int .i64 v) = h'.cells) (hs' : h'.cells.set 5 (.int .i64 x) = h.cells)
    (hok : h'.okN) (hl : h'.name.length ≤ 9223372036854775807) (b c : Nat) (w : World) (hh : Holds w b 78 (mc ++ h.cells)) (hc : Holds w c 154 [.func (.func 73) #[] #[]]) :
    Calls Tryz.prog 132 #[.pointer (some ⟨b, 0, none⟩), .pointer (some ⟨c, 0, none⟩)] w fun e w' =>
      w.grownBy w' (some b) ∧ Holds w' b 78 (mc ++ (putEnd h h').cells) ∧ e = .returned (.bool (hdFits h' == 0)) := by
  have Hput := Lib.hid (show ∀ w1 : World, Holds w1 b 78 (mc ++ h.cells) → Calls Tryz.prog 133 #[.pointer (some ⟨b, 15, none⟩), .pointer (some ⟨b, 20, none⟩), .int .i64 v] w1 fun e w' =>
      w1.grownBy w' (some b) ∧ Holds w' b 78 (mc ++ (putEnd h h').cells) ∧ e = .returned (.bool (hdFits h' == 0)) from fun w1 hh1 => putInt_any mc hm h h' 5 x v hx hs hs' hok hl b w1 hh1)
  have Hv := Lib.hid hv
  have Hh := Lib.hid hh
  have c0 := hc.at (i := 0) (v := .func (.func 73) #[] #[]) rfl
  clear hm hx hs hs' hok hl hv hh hc
  generalize (hdFits h' == 0) = R at *
  generalize putEnd h h' = E at *
  go_enter Tryz.func132, Tryz.ntmps132
  go_wp2_with (fail)
  refine (known1_any b w).mono ?_
  rintro e w1 ⟨⟨m, rfl⟩, rfl⟩
  have Hh1 := Lib.hid (Hh.out.drewN m)
  have G1 := Lib.hid (grown_drewN w m (some b))
  generalize w.drewN m = w1 at *
  have K1 : KeepA w b mc w1 := ⟨⟨h, Hh1.out⟩, G1.out⟩
  have k1 := K1.cell Hv.out
  clear c0 Hh
  go_wp2_with (fail)
  go_region_held3 (fun w' => KeepA w b mc w' ∧ w'.cell? ⟨b, 5, none⟩ = some (.int .i64 v))
    (first | assumption | exact KeepA.all Hv.out (KeepA.drew K1) | exact KeepA.all Hv.out ⟨⟨_, hA⟩, grown_trans (KeepA.drew K1).2 gA⟩ | exact KeepA.all Hv.out ⟨⟨_, hA⟩, grown_trans K1.2 gA⟩)
    (first | (go_at_call 133; refine (Hput.out _ (Holds.drew Hh1.out)).mono ?_; rintro e wA ⟨gA, hA, rfl⟩))
  have GA := (KeepA.drew K1).2
  go_wp2
  go_ret
  exact ⟨grown_trans GA gA, hA, rfl⟩

set_option maxRecDepth 100000 in
set_option maxHeartbeats 1000000 in
theorem fitSize_any (mc : List Value) (hm : mc.length = 15) (h h' : Hd) (x v : Int) (hv : mc[14]? = some (.int .i64 v)) (hx : h.cells[6]? = some (.int .i64 x)) (hs : h.cells.set 6 (.int .i64 v) = h'.cells) (hs' : h'.cells.set 6 (.int .i64 x) = h.cells)
    (hok : h'.okN) (hl : h'.name.length ≤ 9223372036854775807) (b c : Nat) (w : World) (hh : Holds w b 78 (mc ++ h.cells)) (hc : Holds w c 154 [.func (.func 79) #[] #[]]) :
    Calls Tryz.prog 132 #[.pointer (some ⟨b, 0, none⟩), .pointer (some ⟨c, 0, none⟩)] w fun e w' =>
      w.grownBy w' (some b) ∧ Holds w' b 78 (mc ++ (putEnd h h').cells) ∧ e = .returned (.bool (hdFits h' == 0)) := by
  have Hput := Lib.hid (show ∀ w1 : World, Holds w1 b 78 (mc ++ h.cells) → Calls Tryz.prog 133 #[.pointer (some ⟨b, 15, none⟩), .pointer (some ⟨b, 21, none⟩), .int .i64 v] w1 fun e w' =>
      w1.grownBy w' (some b) ∧ Holds w' b 78 (mc ++ (putEnd h h').cells) ∧ e = .returned (.bool (hdFits h' == 0)) from fun w1 hh1 => putInt_any mc hm h h' 6 x v hx hs hs' hok hl b w1 hh1)
  have Hv := Lib.hid hv
  have Hh := Lib.hid hh
  have c0 := hc.at (i := 0) (v := .func (.func 79) #[] #[]) rfl
  clear hm hx hs hs' hok hl hv hh hc
  generalize (hdFits h' == 0) = R at *
  generalize putEnd h h' = E at *
  go_enter Tryz.func132, Tryz.ntmps132
  go_wp2_with (fail)
  refine (known5_any b w).mono ?_
  rintro e w1 ⟨⟨m, rfl⟩, rfl⟩
  have Hh1 := Lib.hid (Hh.out.drewN m)
  have G1 := Lib.hid (grown_drewN w m (some b))
  generalize w.drewN m = w1 at *
  have K1 : KeepA w b mc w1 := ⟨⟨h, Hh1.out⟩, G1.out⟩
  have k1 := K1.cell Hv.out
  clear c0 Hh
  go_wp2_with (fail)
  go_region_held3 (fun w' => KeepA w b mc w' ∧ w'.cell? ⟨b, 14, none⟩ = some (.int .i64 v))
    (first | assumption | exact KeepA.all Hv.out (KeepA.drew K1) | exact KeepA.all Hv.out ⟨⟨_, hA⟩, grown_trans (KeepA.drew K1).2 gA⟩ | exact KeepA.all Hv.out ⟨⟨_, hA⟩, grown_trans K1.2 gA⟩)
    (first | (go_at_call 133; refine (Hput.out _ (Holds.drew Hh1.out)).mono ?_; rintro e wA ⟨gA, hA, rfl⟩))
  have GA := (KeepA.drew K1).2
  go_wp2
  go_ret
  exact ⟨grown_trans GA gA, hA, rfl⟩

set_option maxRecDepth 100000 in
set_option maxHeartbeats 1000000 in
theorem fitUid_any (mc : List Value) (hm : mc.length = 15) (h h' : Hd) (x v : Int) (hv : mc[4]? = some (.int .i64 v)) (hx : h.cells[4]? = some (.int .i64 x)) (hs : h.cells.set 4 (.int .i64 v) = h'.cells) (hs' : h'.cells.set 4 (.int .i64 x) = h.cells)
    (hok : h'.okN) (hl : h'.name.length ≤ 9223372036854775807) (b c : Nat) (w : World) (hh : Holds w b 78 (mc ++ h.cells)) (hc : Holds w c 154 [.func (.func 80) #[] #[]]) :
    Calls Tryz.prog 132 #[.pointer (some ⟨b, 0, none⟩), .pointer (some ⟨c, 0, none⟩)] w fun e w' =>
      w.grownBy w' (some b) ∧ Holds w' b 78 (mc ++ (putEnd h h').cells) ∧ e = .returned (.bool (hdFits h' == 0)) := by
  have Hput := Lib.hid (show ∀ w1 : World, Holds w1 b 78 (mc ++ h.cells) → Calls Tryz.prog 133 #[.pointer (some ⟨b, 15, none⟩), .pointer (some ⟨b, 19, none⟩), .int .i64 v] w1 fun e w' =>
      w1.grownBy w' (some b) ∧ Holds w' b 78 (mc ++ (putEnd h h').cells) ∧ e = .returned (.bool (hdFits h' == 0)) from fun w1 hh1 => putInt_any mc hm h h' 4 x v hx hs hs' hok hl b w1 hh1)
  have Hv := Lib.hid hv
  have Hh := Lib.hid hh
  have c0 := hc.at (i := 0) (v := .func (.func 80) #[] #[]) rfl
  clear hm hx hs hs' hok hl hv hh hc
  generalize (hdFits h' == 0) = R at *
  generalize putEnd h h' = E at *
  go_enter Tryz.func132, Tryz.ntmps132
  go_wp2_with (fail)
  refine (known6_any b w).mono ?_
  rintro e w1 ⟨⟨m, rfl⟩, rfl⟩
  have Hh1 := Lib.hid (Hh.out.drewN m)
  have G1 := Lib.hid (grown_drewN w m (some b))
  generalize w.drewN m = w1 at *
  have K1 : KeepA w b mc w1 := ⟨⟨h, Hh1.out⟩, G1.out⟩
  have k1 := K1.cell Hv.out
  clear c0 Hh
  go_wp2_with (fail)
  go_region_held3 (fun w' => KeepA w b mc w' ∧ w'.cell? ⟨b, 4, none⟩ = some (.int .i64 v))
    (first | assumption | exact KeepA.all Hv.out (KeepA.drew K1) | exact KeepA.all Hv.out ⟨⟨_, hA⟩, grown_trans (KeepA.drew K1).2 gA⟩ | exact KeepA.all Hv.out ⟨⟨_, hA⟩, grown_trans K1.2 gA⟩)
    (first | (go_at_call 133; refine (Hput.out _ (Holds.drew Hh1.out)).mono ?_; rintro e wA ⟨gA, hA, rfl⟩))
  have GA := (KeepA.drew K1).2
  go_wp2
  go_ret
  exact ⟨grown_trans GA gA, hA, rfl⟩

set_option maxRecDepth 100000 in
set_option maxHeartbeats 1000000 in
theorem fitGname_any (mc : List Value) (hm : mc.length = 15) (h h' : Hd) (x v : List UInt8) (hv : mc[7]? = some (.string ⟨v.toArray⟩)) (hx : h.cells[9]? = some (.string ⟨x.toArray⟩)) (hs : h.cells.set 9 (.string ⟨v.toArray⟩) = h'.cells) (hs' : h'.cells.set 9 (.string ⟨x.toArray⟩) = h.cells)
    (hok : h'.okN) (hl : h'.name.length ≤ 9223372036854775807) (b c : Nat) (w : World) (hh : Holds w b 78 (mc ++ h.cells)) (hc : Holds w c 156 [.func (.func 75) #[] #[]]) :
    Calls Tryz.prog 137 #[.pointer (some ⟨b, 0, none⟩), .pointer (some ⟨c, 0, none⟩)] w fun e w' =>
      w.grownBy w' (some b) ∧ Holds w' b 78 (mc ++ (putEnd h h').cells) ∧ e = .returned (.bool (hdFits h' == 0)) := by
  have Hput := Lib.hid (show ∀ w1 : World, Holds w1 b 78 (mc ++ h.cells) → Calls Tryz.prog 138 #[.pointer (some ⟨b, 15, none⟩), .pointer (some ⟨b, 24, none⟩), .string ⟨v.toArray⟩] w1 fun e w' =>
      w1.grownBy w' (some b) ∧ Holds w' b 78 (mc ++ (putEnd h h').cells) ∧ e = .returned (.bool (hdFits h' == 0)) from fun w1 hh1 => putText_any mc hm h h' 9 x v hx hs hs' hok hl b w1 hh1)
  have Hv := Lib.hid hv
  have Hh := Lib.hid hh
  have c0 := hc.at (i := 0) (v := .func (.func 75) #[] #[]) rfl
  clear hm hx hs hs' hok hl hv hh hc
  generalize (hdFits h' == 0) = R at *
  generalize putEnd h h' = E at *
  go_enter Tryz.func137, Tryz.ntmps137
  go_wp2_with (fail)
  refine (known2_any b w).mono ?_
  rintro e w1 ⟨⟨m, rfl⟩, rfl⟩
  have Hh1 := Lib.hid (Hh.out.drewN m)
  have G1 := Lib.hid (grown_drewN w m (some b))
  generalize w.drewN m = w1 at *
  have K1 : KeepA w b mc w1 := ⟨⟨h, Hh1.out⟩, G1.out⟩
  have k1 := K1.cell Hv.out
  clear c0 Hh
  go_wp2_with (fail)
  go_region_held3 (fun w' => KeepA w b mc w' ∧ w'.cell? ⟨b, 7, none⟩ = some (.string ⟨v.toArray⟩))
    (first | assumption | exact KeepA.all Hv.out (KeepA.drew K1) | exact KeepA.all Hv.out ⟨⟨_, hA⟩, grown_trans (KeepA.drew K1).2 gA⟩ | exact KeepA.all Hv.out ⟨⟨_, hA⟩, grown_trans K1.2 gA⟩)
    (first | (go_at_call 138; refine (Hput.out _ (Holds.drew Hh1.out)).mono ?_; rintro e wA ⟨gA, hA, rfl⟩))
  have GA := (KeepA.drew K1).2
  go_wp2
  go_ret
  exact ⟨grown_trans GA gA, hA, rfl⟩

set_option maxRecDepth 100000 in
set_option maxHeartbeats 1000000 in
theorem fitLink_any (mc : List Value) (hm : mc.length = 15) (h h' : Hd) (x v : List UInt8) (hv : mc[1]? = some (.string ⟨v.toArray⟩)) (hx : h.cells[1]? = some (.string ⟨x.toArray⟩)) (hs : h.cells.set 1 (.string ⟨v.toArray⟩) = h'.cells) (hs' : h'.cells.set 1 (.string ⟨x.toArray⟩) = h.cells)
    (hok : h'.okN) (hl : h'.name.length ≤ 9223372036854775807) (b c : Nat) (w : World) (hh : Holds w b 78 (mc ++ h.cells)) (hc : Holds w c 156 [.func (.func 76) #[] #[]]) :
    Calls Tryz.prog 137 #[.pointer (some ⟨b, 0, none⟩), .pointer (some ⟨c, 0, none⟩)] w fun e w' =>
      w.grownBy w' (some b) ∧ Holds w' b 78 (mc ++ (putEnd h h').cells) ∧ e = .returned (.bool (hdFits h' == 0)) := by
  have Hput := Lib.hid (show ∀ w1 : World, Holds w1 b 78 (mc ++ h.cells) → Calls Tryz.prog 138 #[.pointer (some ⟨b, 15, none⟩), .pointer (some ⟨b, 16, none⟩), .string ⟨v.toArray⟩] w1 fun e w' =>
      w1.grownBy w' (some b) ∧ Holds w' b 78 (mc ++ (putEnd h h').cells) ∧ e = .returned (.bool (hdFits h' == 0)) from fun w1 hh1 => putText_any mc hm h h' 1 x v hx hs hs' hok hl b w1 hh1)
  have Hv := Lib.hid hv
  have Hh := Lib.hid hh
  have c0 := hc.at (i := 0) (v := .func (.func 76) #[] #[]) rfl
  clear hm hx hs hs' hok hl hv hh hc
  generalize (hdFits h' == 0) = R at *
  generalize putEnd h h' = E at *
  go_enter Tryz.func137, Tryz.ntmps137
  go_wp2_with (fail)
  refine (known3_any b w).mono ?_
  rintro e w1 ⟨⟨m, rfl⟩, rfl⟩
  have Hh1 := Lib.hid (Hh.out.drewN m)
  have G1 := Lib.hid (grown_drewN w m (some b))
  generalize w.drewN m = w1 at *
  have K1 : KeepA w b mc w1 := ⟨⟨h, Hh1.out⟩, G1.out⟩
  have k1 := K1.cell Hv.out
  clear c0 Hh
  go_wp2_with (fail)
  go_region_held3 (fun w' => KeepA w b mc w' ∧ w'.cell? ⟨b, 1, none⟩ = some (.string ⟨v.toArray⟩))
    (first | assumption | exact KeepA.all Hv.out (KeepA.drew K1) | exact KeepA.all Hv.out ⟨⟨_, hA⟩, grown_trans (KeepA.drew K1).2 gA⟩ | exact KeepA.all Hv.out ⟨⟨_, hA⟩, grown_trans K1.2 gA⟩)
    (first | (go_at_call 138; refine (Hput.out _ (Holds.drew Hh1.out)).mono ?_; rintro e wA ⟨gA, hA, rfl⟩))
  have GA := (KeepA.drew K1).2
  go_wp2
  go_ret
  exact ⟨grown_trans GA gA, hA, rfl⟩

set_option maxRecDepth 100000 in
set_option maxHeartbeats 1000000 in
theorem fitName_any (mc : List Value) (hm : mc.length = 15) (h h' : Hd) (x v : List UInt8) (hv : mc[0]? = some (.string ⟨v.toArray⟩)) (hx : h.cells[0]? = some (.string ⟨x.toArray⟩)) (hs : h.cells.set 0 (.string ⟨v.toArray⟩) = h'.cells) (hs' : h'.cells.set 0 (.string ⟨x.toArray⟩) = h.cells)
    (hok : h'.okN) (hl : h'.name.length ≤ 9223372036854775807) (b c : Nat) (w : World) (hh : Holds w b 78 (mc ++ h.cells)) (hc : Holds w c 156 [.func (.func 78) #[] #[]]) :
    Calls Tryz.prog 137 #[.pointer (some ⟨b, 0, none⟩), .pointer (some ⟨c, 0, none⟩)] w fun e w' =>
      w.grownBy w' (some b) ∧ Holds w' b 78 (mc ++ (putEnd h h').cells) ∧ e = .returned (.bool (hdFits h' == 0)) := by
  have Hput := Lib.hid (show ∀ w1 : World, Holds w1 b 78 (mc ++ h.cells) → Calls Tryz.prog 138 #[.pointer (some ⟨b, 15, none⟩), .pointer (some ⟨b, 15, none⟩), .string ⟨v.toArray⟩] w1 fun e w' =>
      w1.grownBy w' (some b) ∧ Holds w' b 78 (mc ++ (putEnd h h').cells) ∧ e = .returned (.bool (hdFits h' == 0)) from fun w1 hh1 => putText_any mc hm h h' 0 x v hx hs hs' hok hl b w1 hh1)
  have Hv := Lib.hid hv
  have Hh := Lib.hid hh
  have c0 := hc.at (i := 0) (v := .func (.func 78) #[] #[]) rfl
  clear hm hx hs hs' hok hl hv hh hc
  generalize (hdFits h' == 0) = R at *
  generalize putEnd h h' = E at *
  go_enter Tryz.func137, Tryz.ntmps137
  go_wp2_with (fail)
  refine (known4_any b w).mono ?_
  rintro e w1 ⟨⟨m, rfl⟩, rfl⟩
  have Hh1 := Lib.hid (Hh.out.drewN m)
  have G1 := Lib.hid (grown_drewN w m (some b))
  generalize w.drewN m = w1 at *
  have K1 : KeepA w b mc w1 := ⟨⟨h, Hh1.out⟩, G1.out⟩
  have k1 := K1.cell Hv.out
  clear c0 Hh
  go_wp2_with (fail)
  go_region_held3 (fun w' => KeepA w b mc w' ∧ w'.cell? ⟨b, 0, none⟩ = some (.string ⟨v.toArray⟩))
    (first | assumption | exact KeepA.all Hv.out (KeepA.drew K1) | exact KeepA.all Hv.out ⟨⟨_, hA⟩, grown_trans (KeepA.drew K1).2 gA⟩ | exact KeepA.all Hv.out ⟨⟨_, hA⟩, grown_trans K1.2 gA⟩)
    (first | (go_at_call 138; refine (Hput.out _ (Holds.drew Hh1.out)).mono ?_; rintro e wA ⟨gA, hA, rfl⟩))
  have GA := (KeepA.drew K1).2
  go_wp2
  go_ret
  exact ⟨grown_trans GA gA, hA, rfl⟩

set_option maxRecDepth 100000 in
set_option maxHeartbeats 1000000 in
theorem fitUname_any (mc : List Value) (hm : mc.length = 15) (h h' : Hd) (x v : List UInt8) (hv : mc[6]? = some (.string ⟨v.toArray⟩)) (hx : h.cells[8]? = some (.string ⟨x.toArray⟩)) (hs : h.cells.set 8 (.string ⟨v.toArray⟩) = h'.cells) (hs' : h'.cells.set 8 (.string ⟨x.toArray⟩) = h.cells)
    (hok : h'.okN) (hl : h'.name.length ≤ 9223372036854775807) (b c : Nat) (w : World) (hh : Holds w b 78 (mc ++ h.cells)) (hc : Holds w c 156 [.func (.func 81) #[] #[]]) :
    Calls Tryz.prog 137 #[.pointer (some ⟨b, 0, none⟩), .pointer (some ⟨c, 0, none⟩)] w fun e w' =>
      w.grownBy w' (some b) ∧ Holds w' b 78 (mc ++ (putEnd h h').cells) ∧ e = .returned (.bool (hdFits h' == 0)) := by
  have Hput := Lib.hid (show ∀ w1 : World, Holds w1 b 78 (mc ++ h.cells) → Calls Tryz.prog 138 #[.pointer (some ⟨b, 15, none⟩), .pointer (some ⟨b, 23, none⟩), .string ⟨v.toArray⟩] w1 fun e w' =>
      w1.grownBy w' (some b) ∧ Holds w' b 78 (mc ++ (putEnd h h').cells) ∧ e = .returned (.bool (hdFits h' == 0)) from fun w1 hh1 => putText_any mc hm h h' 8 x v hx hs hs' hok hl b w1 hh1)
  have Hv := Lib.hid hv
  have Hh := Lib.hid hh
  have c0 := hc.at (i := 0) (v := .func (.func 81) #[] #[]) rfl
  clear hm hx hs hs' hok hl hv hh hc
  generalize (hdFits h' == 0) = R at *
  generalize putEnd h h' = E at *
  go_enter Tryz.func137, Tryz.ntmps137
  go_wp2_with (fail)
  refine (known7_any b w).mono ?_
  rintro e w1 ⟨⟨m, rfl⟩, rfl⟩
  have Hh1 := Lib.hid (Hh.out.drewN m)
  have G1 := Lib.hid (grown_drewN w m (some b))
  generalize w.drewN m = w1 at *
  have K1 : KeepA w b mc w1 := ⟨⟨h, Hh1.out⟩, G1.out⟩
  have k1 := K1.cell Hv.out
  clear c0 Hh
  go_wp2_with (fail)
  go_region_held3 (fun w' => KeepA w b mc w' ∧ w'.cell? ⟨b, 6, none⟩ = some (.string ⟨v.toArray⟩))
    (first | assumption | exact KeepA.all Hv.out (KeepA.drew K1) | exact KeepA.all Hv.out ⟨⟨_, hA⟩, grown_trans (KeepA.drew K1).2 gA⟩ | exact KeepA.all Hv.out ⟨⟨_, hA⟩, grown_trans K1.2 gA⟩)
    (first | (go_at_call 138; refine (Hput.out _ (Holds.drew Hh1.out)).mono ?_; rintro e wA ⟨gA, hA, rfl⟩))
  have GA := (KeepA.drew K1).2
  go_wp2
  go_ret
  exact ⟨grown_trans GA gA, hA, rfl⟩
end Go.Proofs.YtjmmecokfijglaaGreatDoor
namespace Go.Proofs.YtjmmecokfijglaaGreatDoor
open Go.ChangeShapes Go.WideShapes Go.ChangeAt Go.RowKit

theorem KeepA.both {W : World} {b : Nat} {mc : List Value} {w : World} {a c : Nat} {v u : Value} (hv : mc[a]? = some v) (hu : mc[c]? = some u) (k : KeepA W b mc w) : KeepA W b mc w ∧ w.cell? ⟨b, a, none⟩ = some v ∧ w.cell? ⟨b, c, none⟩ = some u := ⟨k, k.cell hv, k.cell hu⟩

set_option maxRecDepth 100000 in
set_option maxHeartbeats 1000000 in
theorem fitTime_no (mc : List Value) (h : Hd) (n : Int) (hn : mc[11]? = some (.int .i64 n)) (h0 : n ≠ 0) (b : Nat) (w : World) (hh : Holds w b 78 (mc ++ h.cells)) :
    Calls Tryz.prog 143 #[.pointer (some ⟨b, 0, none⟩)] w fun e w' => (∃ m, w' = w.drewN m) ∧ e = .returned (.bool false) := by
  have K1 : KeepA w b mc w := ⟨⟨h, hh⟩, grown_below (Below.refl _ _) _⟩
  have k1 := K1.cell hn
  have hn0 : (n == 0) = false := by simpa using h0
  clear hn h0 hh K1
  go_enter Tryz.func143, Tryz.ntmps143
  go_wp2_with (fail)
  go_quiet (fail)
  go_wp2
  go_ret
  exact ⟨⟨nq, rfl⟩, rfl⟩
set_option maxRecDepth 100000 in
set_option maxHeartbeats 1000000 in
theorem fitTime_any (mc : List Value) (hm : mc.length = 15) (h h' : Hd) (x v : Int) (hn : mc[11]? = some (.int .i64 0)) (hv : mc[10]? = some (.int .i64 v)) (hx : h.cells[7]? = some (.int .i64 x)) (hs : h.cells.set 7 (.int .i64 v) = h'.cells) (hs' : h'.cells.set 7 (.int .i64 x) = h.cells)
    (hok : h'.okN) (hl : h'.name.length ≤ 9223372036854775807) (b : Nat) (w : World) (hh : Holds w b 78 (mc ++ h.cells)) :
    Calls Tryz.prog 143 #[.pointer (some ⟨b, 0, none⟩)] w fun e w' =>
      w.grownBy w' (some b) ∧ Holds w' b 78 (mc ++ (putEnd h h').cells) ∧ e = .returned (.bool (hdFits h' == 0)) := by
  have Hput := Lib.hid (show ∀ w1 : World, Holds w1 b 78 (mc ++ h.cells) → Calls Tryz.prog 133 #[.pointer (some ⟨b, 15, none⟩), .pointer (some ⟨b, 22, none⟩), .int .i64 v] w1 fun e w' =>
      w1.grownBy w' (some b) ∧ Holds w' b 78 (mc ++ (putEnd h h').cells) ∧ e = .returned (.bool (hdFits h' == 0)) from fun w1 hh1 => putInt_any mc hm h h' 7 x v hx hs hs' hok hl b w1 hh1)
  have Hv := Lib.hid hv
  have Hn := Lib.hid hn
  have K1 : KeepA w b mc w := ⟨⟨h, hh⟩, grown_below (Below.refl _ _) _⟩
  have k1 := K1.cell hv
  have k2 := K1.cell hn
  have Hh := Lib.hid hh
  clear hm hx hs hs' hok hl hv hn hh
  generalize (hdFits h' == 0) = R at *
  generalize putEnd h h' = E at *
  go_enter Tryz.func143, Tryz.ntmps143
  go_wp2_with (fail)
  go_region_held3 (fun w' => KeepA w b mc w' ∧ w'.cell? ⟨b, 10, none⟩ = some (.int .i64 v) ∧ w'.cell? ⟨b, 11, none⟩ = some (.int .i64 0))
    (first | assumption | exact KeepA.both Hv.out Hn.out (KeepA.drew K1) | exact KeepA.both Hv.out Hn.out ⟨⟨_, hA⟩, grown_trans (KeepA.drew K1).2 gA⟩ | exact KeepA.both Hv.out Hn.out ⟨⟨_, hA⟩, grown_trans K1.2 gA⟩)
    (first | (go_at_call 133; refine (Hput.out _ (Holds.drew Hh.out)).mono ?_; rintro e wA ⟨gA, hA, rfl⟩))
  have GA := (KeepA.drew K1).2
  go_wp2
  go_ret
  exact ⟨grown_trans GA gA, hA, rfl⟩
end Go.Proofs.YtjmmecokfijglaaGreatDoor
namespace Go.Proofs.YtjmmecokfijglaaGreatDoor
open Go.ChangeShapes Go.WideShapes Go.ChangeAt Go.RowKit Go.Maps

/-- Any element reads as itself. -/
def heldElem (v : Value) : Option (DataW Value × List MemPlace) := some (.held v, [])
theorem wpList_insert_own {H : Type} {P : Program} (w : World) {ops : Array Oper} {rest : List Oper} {o : Oper} {a : Act} {Q : Exit → Act → World → Prop}
    (hg : o.guard = none) (m x v : Operand) (t : TypeId) (hop : o.op = Op.insert t m x v)
    (k e : TypeId) (K : Keyed P k) (ht : P.underlying t = some (.map k e)) (R : Value → Option (DataW H × List MemPlace)) (b n : Nat) (D : DataW H)
    (hm : a.eval m = .map (some b)) (hown : w.ownsMap P k R b n D) (hn : n < maxLen) (key val : Value) (kl : Lit) (hx : a.eval x = key) (hv : a.eval v = val) (hkey : keyOf P k key = some kl)
    (d : DataW H) (ps : List MemPlace) (hval : R val = some (d, ps))
    (hK : ∀ w', w'.ownsMap P k R b (n + 1) (D.put kl d) → w.grownBy w' (some b) → wpList P ops Q rest (a.put o.dst undef) w') :
    wpList P ops Q (o :: rest) a w := by
  refine wpList_plain hg fun K' hK' => ?_
  obtain ⟨w', hrun, r1, r2⟩ := hown.update K ht hn hkey hval
  unfold Oper.wp
  simp [execOp, hop, hm, hx, hv, hrun, Result.andThen]
  exact hK' _ _ (hK w' r1 r2)

def numField (c : Nat) : Value := .agg #[.func (.func 128) #[] #[.pointer (some ⟨c, 0, none⟩)], .func (.func 130) #[] #[.pointer (some ⟨c, 0, none⟩)], .func (.func 132) #[] #[.pointer (some ⟨c, 0, none⟩)]]
def texField (c : Nat) : Value := .agg #[.func (.func 134) #[] #[.pointer (some ⟨c, 0, none⟩)], .func (.func 136) #[] #[.pointer (some ⟨c, 0, none⟩)], .func (.func 137) #[] #[.pointer (some ⟨c, 0, none⟩)]]
def timField : Value := .agg #[.func (.func 139) #[] #[], .func (.func 141) #[] #[], .func (.func 143) #[] #[]]

set_option maxRecDepth 100000 in
theorem numberField_any (kf : Nat) (w : World) :
    Calls Tryz.prog 72 #[.func (.func kf) #[] #[]] w fun e w' => Below w.heap.size w w' ∧ Holds w' w.heap.size 154 [.func (.func kf) #[] #[]] ∧ e = .returned (numField w.heap.size) := by
  have Ho := Holds.new w 154 [.func (.func kf) #[] #[]]
  generalize hA : w.alloc (.cells #[.func (.func kf) #[] #[]] 154) = wa at *
  have hsz : wa.heap.size = w.heap.size + 1 := by rw [← hA]; simp
  have Ha := Lib.hid (show Below w.heap.size w wa by rw [← hA]; exact (Below.refl _ _).alloc (Nat.le_refl _) _)
  have HD := Lib.hid (show numField w.heap.size = .agg #[Value.func (.func 128) #[] #[.pointer (some ⟨w.heap.size, 0, none⟩)], Value.func (.func 130) #[] #[.pointer (some ⟨w.heap.size, 0, none⟩)], Value.func (.func 132) #[] #[.pointer (some ⟨w.heap.size, 0, none⟩)]] from rfl)
  have Hone := Lib.hid (show #[Value.func (.func 128) #[] #[.pointer (some ⟨w.heap.size, 0, none⟩)], Value.func (.func 130) #[] #[.pointer (some ⟨w.heap.size, 0, none⟩)], Value.func (.func 132) #[] #[.pointer (some ⟨w.heap.size, 0, none⟩)]].all (·.oneCell') = true by simp [Value.oneCell'])
  have Hst := Lib.hid (show (wa.alloc (.cells #[.nilFunc, .nilFunc, .nilFunc] 85)).heap[w.heap.size + 1]? = some (.cells #[.nilFunc, .nilFunc, .nilFunc] 85 (0, 0)) by rw [← hsz]; exact heap_alloc_new wa _)
  obtain ⟨w1, hw⟩ : ∃ w1, (wa.alloc (.cells #[.nilFunc, .nilFunc, .nilFunc] 85)).setRow (w.heap.size + 1) #[Value.func (.func 128) #[] #[.pointer (some ⟨w.heap.size, 0, none⟩)], Value.func (.func 130) #[] #[.pointer (some ⟨w.heap.size, 0, none⟩)], Value.func (.func 132) #[] #[.pointer (some ⟨w.heap.size, 0, none⟩)]] = w1 := ⟨_, rfl⟩
  have Hw := Lib.hid hw
  have H1 : Holds w1 (w.heap.size + 1) 85 [Value.func (.func 128) #[] #[.pointer (some ⟨w.heap.size, 0, none⟩)], Value.func (.func 130) #[] #[.pointer (some ⟨w.heap.size, 0, none⟩)], Value.func (.func 132) #[] #[.pointer (some ⟨w.heap.size, 0, none⟩)]] := by rw [← hw]; exact setRow_heap _ _ _ _ _ _ Hst.out
  have H0 := Lib.hid (show Holds w1 w.heap.size 154 [.func (.func kf) #[] #[]] by
    rw [← hw]
    unfold Holds
    rw [setRow_other _ _ _ _ (by omega)]
    exact Ho.behind _)
  have Hb := Lib.hid (show Below w.heap.size w w1 by
    rw [← hw]
    exact below_setRow (Ha.out.alloc (by omega) _) (by omega) _)
  have c0 : w1.cell? ⟨w.heap.size + 1, 0, none⟩ = some (Value.func (.func 128) #[] #[.pointer (some ⟨w.heap.size, 0, none⟩)]) := H1.cell (i := 0) (by simp)
  have c1 : w1.cell? ⟨w.heap.size + 1, 1, none⟩ = some (Value.func (.func 130) #[] #[.pointer (some ⟨w.heap.size, 0, none⟩)]) := H1.cell (i := 1) (by simp)
  have c2 : w1.cell? ⟨w.heap.size + 1, 2, none⟩ = some (Value.func (.func 132) #[] #[.pointer (some ⟨w.heap.size, 0, none⟩)]) := H1.cell (i := 2) (by simp)
  have Hs1 := Lib.hid (show (Tryz.prog.info? 85).map (·.size) = some 3 by kernel_rfl)
  clear H1 Ho hw
  go_enter Tryz.func72, Tryz.ntmps72
  go_wp2_with (first
    | (refine wpList_store_row (by rfl) 85 _ _ (by rfl) (w.heap.size + 1) #[Value.func (.func 128) #[] #[.pointer (some ⟨w.heap.size, 0, none⟩)], Value.func (.func 130) #[] #[.pointer (some ⟨w.heap.size, 0, none⟩)], Value.func (.func 132) #[] #[.pointer (some ⟨w.heap.size, 0, none⟩)]] (by rfl) (by rfl) 85 #[.nilFunc, .nilFunc, .nilFunc] Hst.out Hs1.out (by rfl) Hone.out ?_; rw [Hw.out])
    | fail)
  exact bodyPost_ret (v := numField w.heap.size) (by simp [results, Tryz.results72, go_sem, c0, c1, c2, numField]) rfl ⟨Hb.out, H0.out, rfl⟩
set_option maxRecDepth 100000 in
theorem textField_any (kf : Nat) (w : World) :
    Calls Tryz.prog 74 #[.func (.func kf) #[] #[]] w fun e w' => Below w.heap.size w w' ∧ Holds w' w.heap.size 156 [.func (.func kf) #[] #[]] ∧ e = .returned (texField w.heap.size) := by
  have Ho := Holds.new w 156 [.func (.func kf) #[] #[]]
  generalize hA : w.alloc (.cells #[.func (.func kf) #[] #[]] 156) = wa at *
  have hsz : wa.heap.size = w.heap.size + 1 := by rw [← hA]; simp
  have Ha := Lib.hid (show Below w.heap.size w wa by rw [← hA]; exact (Below.refl _ _).alloc (Nat.le_refl _) _)
  have HD := Lib.hid (show texField w.heap.size = .agg #[Value.func (.func 134) #[] #[.pointer (some ⟨w.heap.size, 0, none⟩)], Value.func (.func 136) #[] #[.pointer (some ⟨w.heap.size, 0, none⟩)], Value.func (.func 137) #[] #[.pointer (some ⟨w.heap.size, 0, none⟩)]] from rfl)
  have Hone := Lib.hid (show #[Value.func (.func 134) #[] #[.pointer (some ⟨w.heap.size, 0, none⟩)], Value.func (.func 136) #[] #[.pointer (some ⟨w.heap.size, 0, none⟩)], Value.func (.func 137) #[] #[.pointer (some ⟨w.heap.size, 0, none⟩)]].all (·.oneCell') = true by simp [Value.oneCell'])
  have Hst := Lib.hid (show (wa.alloc (.cells #[.nilFunc, .nilFunc, .nilFunc] 85)).heap[w.heap.size + 1]? = some (.cells #[.nilFunc, .nilFunc, .nilFunc] 85 (0, 0)) by rw [← hsz]; exact heap_alloc_new wa _)
  obtain ⟨w1, hw⟩ : ∃ w1, (wa.alloc (.cells #[.nilFunc, .nilFunc, .nilFunc] 85)).setRow (w.heap.size + 1) #[Value.func (.func 134) #[] #[.pointer (some ⟨w.heap.size, 0, none⟩)], Value.func (.func 136) #[] #[.pointer (some ⟨w.heap.size, 0, none⟩)], Value.func (.func 137) #[] #[.pointer (some ⟨w.heap.size, 0, none⟩)]] = w1 := ⟨_, rfl⟩
  have Hw := Lib.hid hw
  have H1 : Holds w1 (w.heap.size + 1) 85 [Value.func (.func 134) #[] #[.pointer (some ⟨w.heap.size, 0, none⟩)], Value.func (.func 136) #[] #[.pointer (some ⟨w.heap.size, 0, none⟩)], Value.func (.func 137) #[] #[.pointer (some ⟨w.heap.size, 0, none⟩)]] := by rw [← hw]; exact setRow_heap _ _ _ _ _ _ Hst.out
  have H0 := Lib.hid (show Holds w1 w.heap.size 156 [.func (.func kf) #[] #[]] by
    rw [← hw]
    unfold Holds
    rw [setRow_other _ _ _ _ (by omega)]
    exact Ho.behind _)
  have Hb := Lib.hid (show Below w.heap.size w w1 by
    rw [← hw]
    exact below_setRow (Ha.out.alloc (by omega) _) (by omega) _)
  have c0 : w1.cell? ⟨w.heap.size + 1, 0, none⟩ = some (Value.func (.func 134) #[] #[.pointer (some ⟨w.heap.size, 0, none⟩)]) := H1.cell (i := 0) (by simp)
  have c1 : w1.cell? ⟨w.heap.size + 1, 1, none⟩ = some (Value.func (.func 136) #[] #[.pointer (some ⟨w.heap.size, 0, none⟩)]) := H1.cell (i := 1) (by simp)
  have c2 : w1.cell? ⟨w.heap.size + 1, 2, none⟩ = some (Value.func (.func 137) #[] #[.pointer (some ⟨w.heap.size, 0, none⟩)]) := H1.cell (i := 2) (by simp)
  have Hs1 := Lib.hid (show (Tryz.prog.info? 85).map (·.size) = some 3 by kernel_rfl)
  clear H1 Ho hw
  go_enter Tryz.func74, Tryz.ntmps74
  go_wp2_with (first
    | (refine wpList_store_row (by rfl) 85 _ _ (by rfl) (w.heap.size + 1) #[Value.func (.func 134) #[] #[.pointer (some ⟨w.heap.size, 0, none⟩)], Value.func (.func 136) #[] #[.pointer (some ⟨w.heap.size, 0, none⟩)], Value.func (.func 137) #[] #[.pointer (some ⟨w.heap.size, 0, none⟩)]] (by rfl) (by rfl) 85 #[.nilFunc, .nilFunc, .nilFunc] Hst.out Hs1.out (by rfl) Hone.out ?_; rw [Hw.out])
    | fail)
  exact bodyPost_ret (v := texField w.heap.size) (by simp [results, Tryz.results74, go_sem, c0, c1, c2, texField]) rfl ⟨Hb.out, H0.out, rfl⟩
set_option maxRecDepth 100000 in
theorem timeField_any (w : World) :
    Calls Tryz.prog 77 #[] w fun e w' => Below w.heap.size w w' ∧ e = .returned timField := by
  unfold timField
  have Hst := Lib.hid (show (w.alloc (.cells #[.nilFunc, .nilFunc, .nilFunc] 85)).heap[w.heap.size]? = some (.cells #[.nilFunc, .nilFunc, .nilFunc] 85 (0, 0)) from heap_alloc_new w _)
  obtain ⟨w1, hw⟩ : ∃ w1, (w.alloc (.cells #[.nilFunc, .nilFunc, .nilFunc] 85)).setRow w.heap.size #[Value.func (.func 139) #[] #[], Value.func (.func 141) #[] #[], Value.func (.func 143) #[] #[]] = w1 := ⟨_, rfl⟩
  have Hw := Lib.hid hw
  have H1 : Holds w1 w.heap.size 85 [Value.func (.func 139) #[] #[], Value.func (.func 141) #[] #[], Value.func (.func 143) #[] #[]] := by rw [← hw]; exact setRow_heap _ _ _ _ _ _ Hst.out
  have Hb := Lib.hid (show Below w.heap.size w w1 by
    rw [← hw]
    exact below_setRow ((Below.refl _ _).alloc (Nat.le_refl _) _) (Nat.le_refl _) _)
  have Hone := Lib.hid (show #[Value.func (.func 139) #[] #[], Value.func (.func 141) #[] #[], Value.func (.func 143) #[] #[]].all (·.oneCell') = true by simp [Value.oneCell'])
  have c0 : w1.cell? ⟨w.heap.size, 0, none⟩ = some (Value.func (.func 139) #[] #[]) := H1.cell (i := 0) (by simp)
  have c1 : w1.cell? ⟨w.heap.size, 1, none⟩ = some (Value.func (.func 141) #[] #[]) := H1.cell (i := 1) (by simp)
  have c2 : w1.cell? ⟨w.heap.size, 2, none⟩ = some (Value.func (.func 143) #[] #[]) := H1.cell (i := 2) (by simp)
  have Hs1 := Lib.hid (show (Tryz.prog.info? 85).map (·.size) = some 3 by kernel_rfl)
  clear H1 hw
  go_enter Tryz.func77, Tryz.ntmps77
  go_wp2_with (first
    | (refine wpList_store_row (by rfl) 85 _ _ (by rfl) w.heap.size #[Value.func (.func 139) #[] #[], Value.func (.func 141) #[] #[], Value.func (.func 143) #[] #[]] (by rfl) (by rfl) 85 #[.nilFunc, .nilFunc, .nilFunc] Hst.out Hs1.out (by rfl) Hone.out ?_; rw [Hw.out])
    | fail)
  exact bodyPost_ret (v := .agg #[Value.func (.func 139) #[] #[], Value.func (.func 141) #[] #[], Value.func (.func 143) #[] #[]]) (by simp [results, Tryz.results77, go_sem, c0, c1, c2]) rfl ⟨Hb.out, rfl⟩

end Go.Proofs.YtjmmecokfijglaaGreatDoor
