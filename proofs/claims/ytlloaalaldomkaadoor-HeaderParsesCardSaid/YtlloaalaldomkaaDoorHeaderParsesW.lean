/- The walk of the law HeaderParses. -/
import Derived.Test.YtlloaalaldomkaaDoorHdX
import Derived.Test.YtlloaalaldomkaaDoorHdZ
namespace Go.Proofs.YtlloaalaldomkaaDoor.headerParses
open Go.ChangeShapes Go.WideShapes Go.ChangeAt Go.RowKit

set_option maxRecDepth 100000 in
set_option maxHeartbeats 3000000 in
theorem walk (h : Hd) (ad : Option Addr) (n cap0 : Nat) (sl : Bool) (raw : List UInt8) (w : World) (hk : 0 ≤ h.kind ∧ h.kind < 256) (hok : h.okN) (hl : h.name.length ≤ 9223372036854775807 ∧ h.link.length ≤ 9223372036854775807 ∧ h.uname.length ≤ 9223372036854775807 ∧ h.gname.length ≤ 9223372036854775807) (hm : MaxSet w)
    (HSp : n ≤ 20 → ∀ B : List UInt8, B.length = 512 → ∀ w1 : World, Below w.heap.size w w1 → Calls Tryd.prog 10 #[.string ⟨B.toArray⟩, .slice ad n cap0, .bool sl] w1 fun e w' => Below w1.heap.size w1 w' ∧ ∃ x : List UInt8, e = .returned (.string ⟨x.toArray⟩)) :
    Calls Tryd.prog 3 #[h.val, .slice ad n cap0, .bool sl, .string ⟨raw.toArray⟩] w fun e w' => Below w.heap.size w w' ∧ e = .returned (.bool true) := by
  have Ho := Lib.hid (Holds.new w 23 h.cells)
  have HsC := Lib.hid (head_size h)
  have HG := Lib.hid (fun w => refFits_any h w hok hl)
  have HM := Lib.hid hm
  have HP := Lib.hid (fun w hm => parse_any raw w hm)
  have HRP := Lib.hid (fun w => refHdParse_any raw w)
  have HsP := Lib.hid (head_size (hdParse raw).1)
  have HoP := Lib.hid (hdParse raw).1.cells_one
  have HlP := Lib.hid (show (hdParse raw).1.cells.length = 13 from rfl)
  have hz := (zero_of_info info_head).1
  have HzP := Lib.hid (show Hd.zero.cells.toArray.size = (hdParse raw).1.cells.toArray.size from rfl)
  have heq := head_neq (hdParse raw).1
  clear hm
  by_cases ha : (600 : Int) < (raw.length : Int)
  · clear HSp hok hl hk heq hz
    unfold Hd.val
    generalize h.cells = C at *
    go_enter Tryd.func3, Tryd.ntmps3
    go_wp2_with fail
    refine (awake5_any _).mono ?_
    rintro e w1 ⟨hb1, rfl⟩
    have Hb1 := Lib.hid (((Below.refl w.heap.size w).alloc (Nat.le_refl _) (.cells C.toArray 23)).trans (hb1.mono (by simp)))
    clear hb1
    go_wp2
    go_ret
    exact ⟨Hb1.out, rfl⟩
  · by_cases hb : (20 : Int) < (n : Int)
    · clear HSp hok hl hk heq hz
      unfold Hd.val
      generalize h.cells = C at *
      go_enter Tryd.func3, Tryd.ntmps3
      go_wp2_with fail
      refine (awake5_any _).mono ?_
      rintro e w1 ⟨hb1, rfl⟩
      have Hb1 := Lib.hid (((Below.refl w.heap.size w).alloc (Nat.le_refl _) (.cells C.toArray 23)).trans (hb1.mono (by simp)))
      clear hb1
      go_wp2
      go_ret
      exact ⟨Hb1.out, rfl⟩
    · have HSp := HSp (by omega)
      by_cases hf : hdFits h = 0
      · have HR := Lib.hid (fun w => refBuild_any h w hk hl.1 hf)
        have HSp := Lib.hid (HSp (hdBuild h) (hdBuild_facts h hk hf).1)
        rw [hf] at HG
        clear hok hl hk hf
        unfold Hd.val at *
        generalize hdBuild h = B at *
        generalize h.cells = C at *
        generalize (hdParse raw).1.cells = P at *
        generalize (hdParse raw).2 = pi at *
        generalize Hd.zero.cells = Z at *
        go_enter Tryd.func3, Tryd.ntmps3
        go_wp2_with fail
        refine (HP.out _ (HM.out.below ((Below.refl w.heap.size w).alloc (Nat.le_refl _) _))).mono ?_
        rintro e w1 ⟨hb1, rfl⟩
        have Hh1 := Lib.hid (Ho.out.under hb1 Ho.out.lt)
        have Hb1 := Lib.hid (((Below.refl w.heap.size w).alloc (Nat.le_refl _) (.cells C.toArray 23)).trans (hb1.mono (by simp)))
        have hz1 : w.heap.size < w1.heap.size := Hh1.out.lt
        clear hb1 Ho
        have Hn1 := Lib.hid (Holds.new w1 23 Z)
        have Hg2 := Lib.hid (Holds.new w1 23 P)
        have Hh2 := Lib.hid (Hh1.out.behind (.cells P.toArray 23))
        have Hb2 := Lib.hid (Hb1.out.alloc Hb1.out.size (.cells P.toArray 23))
        go_wp2_with (first
          | (refine wpList_store_row (by rfl) 23 _ _ (by rfl) w1.heap.size P.toArray (by rfl) (by rfl) _ _ Hn1.out HsP.out HzP.out HoP.out ?_; rw [World.setRow_alloc_new])
          | fail)
        refine (HRP.out _).mono ?_
        rintro e w3 ⟨hb3, rfl⟩
        have Hg3 := Lib.hid (Hg2.out.under hb3 Hg2.out.lt)
        have Hh3 := Lib.hid (Hh2.out.under hb3 Hh2.out.lt)
        have Hb3 := Lib.hid (Hb2.out.trans (hb3.mono Hb2.out.size))
        have hz3 : w1.heap.size < w3.heap.size := Hg3.out.lt
        clear hb3 Hg2 Hh2 Hb2 Hn1 Hb1 Hh1
        have Hn3 := Lib.hid (Holds.new w3 23 Z)
        have Hw4 := Lib.hid (Holds.new w3 23 P)
        have Hg4 := Lib.hid (Hg3.out.behind (.cells P.toArray 23))
        have Hh4 := Lib.hid (Hh3.out.behind (.cells P.toArray 23))
        have Hb4 := Lib.hid (Hb3.out.alloc Hb3.out.size (.cells P.toArray 23))
        go_wp2_with (first
          | (refine wpList_store_row (by rfl) 23 _ _ (by rfl) w3.heap.size P.toArray (by rfl) (by rfl) _ _ Hn3.out HsP.out HzP.out HoP.out ?_; rw [World.setRow_alloc_new])
          | (refine wpList_load_row (by rfl) 23 _ (by rfl) w1.heap.size (by rfl) _ _ _ _ Hg4.out Tryd.underlying23 rfl HsP.out ?_)
          | (refine wpList_load_row (by rfl) 23 _ (by rfl) w3.heap.size (by rfl) _ _ _ _ Hw4.out Tryd.underlying23 rfl HsP.out ?_)
          | (refine wpList_load_row (by rfl) 23 _ (by rfl) w.heap.size (by rfl) _ _ _ _ Hh4.out Tryd.underlying23 rfl HsC.out ?_)
          | fail)
        refine (HG.out _).mono ?_
        rintro e w5 ⟨hb5, rfl⟩
        have Hg5 := Lib.hid (Hg4.out.under hb5 Hg4.out.lt)
        have Hw5 := Lib.hid (Hw4.out.under hb5 Hw4.out.lt)
        have Hh5 := Lib.hid (Hh4.out.under hb5 Hh4.out.lt)
        have Hb5 := Lib.hid (Hb4.out.trans (hb5.mono Hb4.out.size))
        clear hb5 Hg4 Hw4 Hh4 Hb4 Hn3 Hg3 Hh3 Hb3
        go_wp2_with (first
          | (refine wpList_load_row (by rfl) 23 _ (by rfl) w.heap.size (by rfl) _ _ _ _ Hh5.out Tryd.underlying23 rfl HsC.out ?_)
          | fail)
        refine (HR.out _).mono ?_
        rintro e w6 ⟨hb6, rfl⟩
        have Hg6 := Lib.hid (Hg5.out.under hb6 Hg5.out.lt)
        have Hw6 := Lib.hid (Hw5.out.under hb6 Hw5.out.lt)
        have Hb6 := Lib.hid (Hb5.out.trans (hb6.mono Hb5.out.size))
        clear hb6 Hg5 Hw5 Hh5 Hb5
        go_wp2_with fail
        refine (HSp.out _ Hb6.out).mono ?_
        rintro e w7 ⟨hb7, x, rfl⟩
        have Hg7 := Lib.hid (Hg6.out.under hb7 Hg6.out.lt)
        have Hw7 := Lib.hid (Hw6.out.under hb7 Hw6.out.lt)
        have Hb7 := Lib.hid (Hb6.out.trans (hb7.mono Hb6.out.size))
        clear hb7 Hg6 Hw6 Hb6
        have HP2 := Lib.hid (fun w hm => parse_any x w hm)
        have HRP2 := Lib.hid (fun w => refHdParse_any x w)
        have HsQ := Lib.hid (head_size (hdParse x).1)
        have HoQ := Lib.hid (hdParse x).1.cells_one
        have HPQ := Lib.hid (show P.toArray.size = (hdParse x).1.cells.toArray.size by rw [List.size_toArray, HlP.out]; rfl)
        have heq2 := head_eql (hdParse x).1
        unfold Hd.val at HP2 HRP2
        generalize (hdParse x).1.cells = Q at *
        generalize (hdParse x).2 = ri at *
        go_wp2_with fail
        refine (HP2.out _ (HM.out.below Hb7.out)).mono ?_
        rintro e w8 ⟨hb8, rfl⟩
        have Hg8 := Lib.hid (Hg7.out.under hb8 Hg7.out.lt)
        have Hw8 := Lib.hid (Hw7.out.under hb8 Hw7.out.lt)
        have Hb8 := Lib.hid (Hb7.out.trans (hb8.mono Hb7.out.size))
        clear hb8 Hg7 Hw7 Hb7
        have Hg9 := Lib.hid (show Holds (w8.setRow w1.heap.size Q.toArray) w1.heap.size 23 Q from setRow_heap _ _ _ _ _ _ Hg8.out)
        have Hw9 := Lib.hid (show Holds (w8.setRow w1.heap.size Q.toArray) w3.heap.size 23 P by unfold Holds; rw [setRow_other _ _ _ _ (by omega)]; exact Hw8.out)
        have Hb9 := Lib.hid (below_setRow Hb8.out (Nat.le_of_lt hz1) Q.toArray)
        go_wp2_with (first
          | (refine wpList_store_row (by rfl) 23 _ _ (by rfl) w1.heap.size Q.toArray (by rfl) (by rfl) _ _ Hg8.out HsQ.out HPQ.out HoQ.out ?_)
          | fail)
        refine (HRP2.out _).mono ?_
        rintro e w10 ⟨hb10, rfl⟩
        have Hg10 := Lib.hid (Hg9.out.under hb10 Hg9.out.lt)
        have Hw10 := Lib.hid (Hw9.out.under hb10 Hw9.out.lt)
        have Hb10 := Lib.hid (Hb9.out.trans (hb10.mono Hb9.out.size))
        clear hb10 Hg9 Hw9 Hb9 Hg8 Hw8 Hb8
        have Hw11 := Lib.hid (show Holds (w10.setRow w3.heap.size Q.toArray) w3.heap.size 23 Q from setRow_heap _ _ _ _ _ _ Hw10.out)
        have Hg11 := Lib.hid (show Holds (w10.setRow w3.heap.size Q.toArray) w1.heap.size 23 Q by unfold Holds; rw [setRow_other _ _ _ _ (by omega)]; exact Hg10.out)
        have Hb11 := Lib.hid (below_setRow Hb10.out (show w.heap.size ≤ w3.heap.size by omega) Q.toArray)
        go_wp2_with (first
          | (refine wpList_store_row (by rfl) 23 _ _ (by rfl) w3.heap.size Q.toArray (by rfl) (by rfl) _ _ Hw10.out HsQ.out HPQ.out HoQ.out ?_)
          | (refine wpList_load_row (by rfl) 23 _ (by rfl) w1.heap.size (by rfl) _ _ _ _ Hg11.out Tryd.underlying23 rfl HsQ.out ?_)
          | (refine wpList_load_row (by rfl) 23 _ (by rfl) w3.heap.size (by rfl) _ _ _ _ Hw11.out Tryd.underlying23 rfl HsQ.out ?_)
          | fail)
        refine (awake5_any _).mono ?_
        rintro e w12 ⟨hb12, rfl⟩
        have Hb12 := Lib.hid (Hb11.out.trans (hb12.mono Hb11.out.size))
        clear hb12
        go_wp2
        go_ret
        exact ⟨Hb12.out, rfl⟩
      · have e1 : (hdFits h == 0) = false := by simpa using hf
        clear HSp hok hl hk
        unfold Hd.val at *
        generalize hdFits h = R at *
        generalize h.cells = C at *
        generalize (hdParse raw).1.cells = P at *
        generalize (hdParse raw).2 = pi at *
        generalize Hd.zero.cells = Z at *
        go_enter Tryd.func3, Tryd.ntmps3
        go_wp2_with fail
        refine (HP.out _ (HM.out.below ((Below.refl w.heap.size w).alloc (Nat.le_refl _) _))).mono ?_
        rintro e w1 ⟨hb1, rfl⟩
        have Hh1 := Lib.hid (Ho.out.under hb1 Ho.out.lt)
        have Hb1 := Lib.hid (((Below.refl w.heap.size w).alloc (Nat.le_refl _) (.cells C.toArray 23)).trans (hb1.mono (by simp)))
        have hz1 : w.heap.size < w1.heap.size := Hh1.out.lt
        clear hb1 Ho
        have Hn1 := Lib.hid (Holds.new w1 23 Z)
        have Hg2 := Lib.hid (Holds.new w1 23 P)
        have Hh2 := Lib.hid (Hh1.out.behind (.cells P.toArray 23))
        have Hb2 := Lib.hid (Hb1.out.alloc Hb1.out.size (.cells P.toArray 23))
        go_wp2_with (first
          | (refine wpList_store_row (by rfl) 23 _ _ (by rfl) w1.heap.size P.toArray (by rfl) (by rfl) _ _ Hn1.out HsP.out HzP.out HoP.out ?_; rw [World.setRow_alloc_new])
          | fail)
        refine (HRP.out _).mono ?_
        rintro e w3 ⟨hb3, rfl⟩
        have Hg3 := Lib.hid (Hg2.out.under hb3 Hg2.out.lt)
        have Hh3 := Lib.hid (Hh2.out.under hb3 Hh2.out.lt)
        have Hb3 := Lib.hid (Hb2.out.trans (hb3.mono Hb2.out.size))
        have hz3 : w1.heap.size < w3.heap.size := Hg3.out.lt
        clear hb3 Hg2 Hh2 Hb2 Hn1 Hb1 Hh1
        have Hn3 := Lib.hid (Holds.new w3 23 Z)
        have Hw4 := Lib.hid (Holds.new w3 23 P)
        have Hg4 := Lib.hid (Hg3.out.behind (.cells P.toArray 23))
        have Hh4 := Lib.hid (Hh3.out.behind (.cells P.toArray 23))
        have Hb4 := Lib.hid (Hb3.out.alloc Hb3.out.size (.cells P.toArray 23))
        go_wp2_with (first
          | (refine wpList_store_row (by rfl) 23 _ _ (by rfl) w3.heap.size P.toArray (by rfl) (by rfl) _ _ Hn3.out HsP.out HzP.out HoP.out ?_; rw [World.setRow_alloc_new])
          | (refine wpList_load_row (by rfl) 23 _ (by rfl) w1.heap.size (by rfl) _ _ _ _ Hg4.out Tryd.underlying23 rfl HsP.out ?_)
          | (refine wpList_load_row (by rfl) 23 _ (by rfl) w3.heap.size (by rfl) _ _ _ _ Hw4.out Tryd.underlying23 rfl HsP.out ?_)
          | (refine wpList_load_row (by rfl) 23 _ (by rfl) w.heap.size (by rfl) _ _ _ _ Hh4.out Tryd.underlying23 rfl HsC.out ?_)
          | fail)
        refine (HG.out _).mono ?_
        rintro e w5 ⟨hb5, rfl⟩
        have Hg5 := Lib.hid (Hg4.out.under hb5 Hg4.out.lt)
        have Hw5 := Lib.hid (Hw4.out.under hb5 Hw4.out.lt)
        have Hh5 := Lib.hid (Hh4.out.under hb5 Hh4.out.lt)
        have Hb5 := Lib.hid (Hb4.out.trans (hb5.mono Hb4.out.size))
        clear hb5 Hg4 Hw4 Hh4 Hb4 Hn3 Hg3 Hh3 Hb3
        go_wp2_with fail
        refine (awake5_any _).mono ?_
        rintro e w6 ⟨hb6, rfl⟩
        have Hb6 := Lib.hid (Hb5.out.trans (hb6.mono Hb5.out.size))
        clear hb6
        go_wp2
        go_ret
        exact ⟨Hb6.out, rfl⟩
end Go.Proofs.YtlloaalaldomkaaDoor.headerParses
