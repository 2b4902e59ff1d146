/-
  Contracts of the closures of a member's time.
-/
import Derived.Test.YtamenhkbmbaopaaGreatDoorAtF
namespace Go.Proofs.YtamenhkbmbaopaaGreatDoor
open Go.ChangeShapes Go.WideShapes Go.ChangeAt Go.RowKit

theorem KeepA.both {W : World} {b : Nat} {mc : List Value} {w : World} {a c : Nat} {v u : Value} (hv : mc[a]? = some v) (hu : mc[c]? = some u) (k : KeepA W b mc w) : KeepA W b mc w ∧ w.cell? ⟨b, a, none⟩ = some v ∧ w.cell? ⟨b, c, none⟩ = some u := ⟨k, k.cell hv, k.cell hu⟩

set_option maxRecDepth 100000 in
set_option maxHeartbeats 1000000 in
theorem fitTime_no (mc : List Value) (h : Hd) (n : Int) (hn : mc[11]? = some (.int .i64 n)) (h0 : n ≠ 0) (b : Nat) (w : World) (hh : Holds w b 59 (mc ++ h.cells)) :
    Calls Tryz.prog 93 #[.pointer (some ⟨b, 0, none⟩)] w fun e w' => (∃ m, w' = w.drewN m) ∧ e = .returned (.bool false) := by
  have K1 : KeepA w b mc w := ⟨⟨h, hh⟩, grown_below (Below.refl _ _) _⟩
  have k1 := K1.cell hn
  have hn0 : (n == 0) = false := by simpa using h0
  clear hn h0 hh K1
  go_enter Tryz.func93, Tryz.ntmps93
  go_wp2_with (fail)
  go_quiet (fail)
  go_wp2
  go_ret
  exact ⟨⟨nq, rfl⟩, rfl⟩
set_option maxRecDepth 100000 in
set_option maxHeartbeats 1000000 in
theorem fitTime_any (mc : List Value) (hm : mc.length = 15) (h h' : Hd) (x v : Int) (hn : mc[11]? = some (.int .i64 0)) (hv : mc[10]? = some (.int .i64 v)) (hx : h.cells[7]? = some (.int .i64 x)) (hs : h.cells.set 7 (.int .i64 v) = h'.cells) (hs' : h'.cells.set 7 (.int .i64 x) = h.cells)
    (hok : h'.okN) (hl : h'.name.length ≤ 9223372036854775807) (b : Nat) (w : World) (hh : Holds w b 59 (mc ++ h.cells)) :
    Calls Tryz.prog 93 #[.pointer (some ⟨b, 0, none⟩)] w fun e w' =>
      w.grownBy w' (some b) ∧ Holds w' b 59 (mc ++ (putEnd h h').cells) ∧ e = .returned (.bool (hdFits h' == 0)) := by
  have Hput := Lib.hid (show ∀ w1 : World, Holds w1 b 59 (mc ++ h.cells) → Calls Tryz.prog 83 #[.pointer (some ⟨b, 15, none⟩), .pointer (some ⟨b, 22, none⟩), .int .i64 v] w1 fun e w' =>
      w1.grownBy w' (some b) ∧ Holds w' b 59 (mc ++ (putEnd h h').cells) ∧ e = .returned (.bool (hdFits h' == 0)) from fun w1 hh1 => putInt_any mc hm h h' 7 x v hx hs hs' hok hl b w1 hh1)
  have Hv := Lib.hid hv
  have Hn := Lib.hid hn
  have K1 : KeepA w b mc w := ⟨⟨h, hh⟩, grown_below (Below.refl _ _) _⟩
  have k1 := K1.cell hv
  have k2 := K1.cell hn
  have Hh := Lib.hid hh
  clear hm hx hs hs' hok hl hv hn hh
  generalize (hdFits h' == 0) = R at *
  generalize putEnd h h' = E at *
  go_enter Tryz.func93, Tryz.ntmps93
  go_wp2_with (fail)
  go_region_held3 (fun w' => KeepA w b mc w' ∧ w'.cell? ⟨b, 10, none⟩ = some (.int .i64 v) ∧ w'.cell? ⟨b, 11, none⟩ = some (.int .i64 0))
    (first | assumption | exact KeepA.both Hv.out Hn.out (KeepA.drew K1) | exact KeepA.both Hv.out Hn.out ⟨⟨_, hA⟩, grown_trans (KeepA.drew K1).2 gA⟩ | exact KeepA.both Hv.out Hn.out ⟨⟨_, hA⟩, grown_trans K1.2 gA⟩)
    (first | (go_at_call 83; refine (Hput.out _ (Holds.drew Hh.out)).mono ?_; rintro e wA ⟨gA, hA, rfl⟩))
  have GA := (KeepA.drew K1).2
  go_wp2
  go_ret
  exact ⟨grown_trans GA gA, hA, rfl⟩
end Go.Proofs.YtamenhkbmbaopaaGreatDoor
