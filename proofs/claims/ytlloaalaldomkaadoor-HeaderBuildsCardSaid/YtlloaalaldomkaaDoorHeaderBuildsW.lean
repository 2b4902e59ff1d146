/- The walk of the law HeaderBuilds. -/
import Derived.Test.YtlloaalaldomkaaDoorHdN
namespace Go.Proofs.YtlloaalaldomkaaDoor.headerBuilds
open Go.ChangeShapes Go.WideShapes Go.ChangeAt Go.RowKit

theorem fits_lt (h : Hd) : hdFits h = 0 ∨ hdFits h = 2 ∨ hdFits h = 6 ∨ hdFits h = 12 := by
  unfold hdFits; split
  · exact .inr (.inl rfl)
  · split
    · split
      · exact .inl rfl
      · exact .inr (.inr (.inl rfl))
    · exact .inr (.inr (.inr rfl))

set_option maxRecDepth 100000 in
set_option maxHeartbeats 2000000 in
theorem walk (h : Hd) (w : World) (hk : 0 ≤ h.kind ∧ h.kind < 256) (hok : h.okN) (hl : h.name.length ≤ 9223372036854775807 ∧ h.link.length ≤ 9223372036854775807 ∧ h.uname.length ≤ 9223372036854775807 ∧ h.gname.length ≤ 9223372036854775807) (hm : MaxSet w) :
    Calls Tryd.prog 4 #[h.val] w fun e w' => Below w.heap.size w w' ∧ e = .returned (.bool true) := by
  have Ho := Lib.hid (Holds.new w 23 h.cells)
  have Hs := Lib.hid (head_size h)
  have HF := Lib.hid (fun w => fits_any h w hok hl.1)
  have HG := Lib.hid (fun w => refFits_any h w hok hl)
  have c0 : (w.alloc (.cells h.cells.toArray 23)).cell? ⟨w.heap.size, 0, none⟩ = some (.string ⟨h.name.toArray⟩) := Ho.out.at rfl
  have c1 : (w.alloc (.cells h.cells.toArray 23)).cell? ⟨w.heap.size, 1, none⟩ = some (.string ⟨h.link.toArray⟩) := Ho.out.at rfl
  have c8 : (w.alloc (.cells h.cells.toArray 23)).cell? ⟨w.heap.size, 8, none⟩ = some (.string ⟨h.uname.toArray⟩) := Ho.out.at rfl
  have c9 : (w.alloc (.cells h.cells.toArray 23)).cell? ⟨w.heap.size, 9, none⟩ = some (.string ⟨h.gname.toArray⟩) := Ho.out.at rfl
  have HM := Lib.hid hm
  clear hm
  by_cases hf : hdFits h = 0
  · have HB := Lib.hid (fun w => build_fits h w hk hok hl.1 hf)
    have hfp : hdFits h.posix = 0 := (posix_fits h).trans hf
    have HR : ∀ w, _ := fun w => refBuild_any h.posix w (by show 0 ≤ hdKind h.kind ∧ hdKind h.kind < 256; unfold hdKind; split <;> omega) hl.1 hfp
    rw [posix_build] at HR
    have HR := Lib.hid HR
    have hfa := hdBuild_facts h hk hf
    have HP : ∀ w, MaxSet w → Calls Tryd.prog 7 #[.string ⟨(hdBuild h).toArray⟩] w fun e w' => Below w.heap.size w w' ∧ e = .returned (.tuple #[h.posix.val, .int .i64 0]) := fun w hm => by
      have := parse_any (hdBuild h) w hm
      rw [hfa.2] at this
      exact this
    have HP := Lib.hid HP
    have Hpl := Lib.hid (show (h.cells.set 12 (.int .i64 2)).set 2 (.int .u8 (hdKind h.kind)) = h.posix.cells from rfl)
    have Hk2 := Lib.hid (show h.cells[2]? = some (.int .u8 h.kind) from rfl)
    have Hk12 := Lib.hid (show h.cells[12]? = some (.int .i64 h.form) from rfl)
    have Hsp := Lib.hid (head_size h.posix)
    have Hop := Lib.hid h.posix.cells_one
    have heq := head_eql h.posix
    have Hkd := Lib.hid (show hdKind h.kind = if h.kind = 0 then 48 else h.kind from rfl)
    have hz := (zero_of_info info_head).1
    have Hzz := Lib.hid (show Hd.zero.cells.toArray.size = h.posix.cells.toArray.size from rfl)
    rw [hf] at HF HG
    clear hok hl hf hk hfp hfa
    unfold Hd.val at *
    generalize h.name = y0 at *
    generalize h.link = y1 at *
    generalize h.uname = y2 at *
    generalize h.gname = y3 at *
    generalize hdBuild h = B at *
    generalize hdKind h.kind = K at *
    generalize h.kind = k at *
    generalize h.form = fm at *
    generalize h.posix.cells = P at *
    generalize h.cells = C at *
    generalize Hd.zero.cells = Z at *
    by_cases hx : 2000 < wrap64 (wrap64 (wrap64 ((y0.length : Int) + (y1.length : Int)) + (y2.length : Int)) + (y3.length : Int))
    · clear HB HF HG HR HP
      go_enter Tryd.func4, Tryd.ntmps4
      go_wp2_with fail
      refine (awake5_any _).mono ?_
      rintro e w1 ⟨hb1, rfl⟩
      have Hb1 := Lib.hid (((Below.refl w.heap.size w).alloc (Nat.le_refl _) (.cells C.toArray 23)).trans (hb1.mono (by simp)))
      clear hb1
      go_wp2
      go_ret
      exact ⟨Hb1.out, rfl⟩
    · go_enter Tryd.func4, Tryd.ntmps4
      go_wp2_with (first
        | (refine wpList_load_row (by rfl) 23 _ (by rfl) w.heap.size (by rfl) _ _ _ _ Ho.out Tryd.underlying23 rfl Hs.out ?_)
        | fail)
      refine (HB.out _).mono ?_
      rintro e w1 ⟨hb1, rfl⟩
      have Ho1 := Lib.hid (Ho.out.under hb1 Ho.out.lt)
      have Hb1 := Lib.hid (((Below.refl w.heap.size w).alloc (Nat.le_refl _) (.cells C.toArray 23)).trans (hb1.mono (by simp)))
      clear hb1 Ho c0 c1 c8 c9
      go_wp2_with (first
        | (refine wpList_load_row (by rfl) 23 _ (by rfl) w.heap.size (by rfl) _ _ _ _ Ho1.out Tryd.underlying23 rfl Hs.out ?_)
        | fail)
      refine (HG.out _).mono ?_
      rintro e w2 ⟨hb2, rfl⟩
      have Ho2 := Lib.hid (Ho1.out.under hb2 Ho1.out.lt)
      have Hb2 := Lib.hid (Hb1.out.trans (hb2.mono Hb1.out.size))
      clear hb2 Ho1 Hb1
      go_wp2_with (first
        | (refine BigFrame.wpList_want rfl (fun K hK => wp_load_row 23 _ rfl w.heap.size rfl _ _ _ _ Ho2.out Tryd.underlying23 rfl Hs.out (hK _ _ ?_)))
        | fail)
      refine (HF.out _).mono ?_
      rintro e w3 ⟨hb3, rfl⟩
      have Ho3 := Lib.hid (Ho2.out.under hb3 Ho2.out.lt)
      have Hb3 := Lib.hid (Hb2.out.trans (hb3.mono Hb2.out.size))
      clear hb3 Ho2 Hb2
      go_wp2_with fail
      refine (HP.out _ (HM.out.below Hb3.out)).mono ?_
      rintro e w4 ⟨hb4, rfl⟩
      have Ho4 := Lib.hid (Ho3.out.under hb4 Ho3.out.lt)
      have Hb4 := Lib.hid (Hb3.out.trans (hb4.mono Hb3.out.size))
      have hz4 : w.heap.size < w4.heap.size := Ho4.out.lt
      clear hb4 Ho3 Hb3
      have Hnew0 := Lib.hid (Holds.new w4 23 Z)
      have Ho5 := Lib.hid (Ho4.out.behind (.cells P.toArray 23))
      have Hn5 := Lib.hid (Holds.new w4 23 P)
      have Hb5 := Lib.hid (Hb4.out.alloc Hb4.out.size (.cells P.toArray 23))
      obtain ⟨w5, hw5⟩ : ∃ w5, w4.alloc (.cells P.toArray 23) = w5 := ⟨_, rfl⟩
      have Hnw := Lib.hid (show (w4.alloc (.cells Z.toArray 23)).setRow w4.heap.size P.toArray = w5 by rw [World.setRow_alloc_new, hw5])
      rw [hw5] at Ho5 Hn5 Hb5
      clear hw5 Ho4 Hb4
      have Hnew := Hnew0
      clear Hnew0
      have c12 : w5.cell? ⟨w.heap.size, 12, none⟩ = some (.int .i64 fm) := Ho5.out.at Hk12.out
      have f12 : w5.frozen? ⟨w.heap.size, 12, none⟩ = false := Ho5.out.frozen 12
      have Ho6 := Lib.hid (Ho5.out.put 12 (.int .i64 2))
      have Hn6 := Lib.hid (Hn5.out.other (p := ⟨w.heap.size, 12, none⟩) (by show w4.heap.size ≠ w.heap.size; omega) (.int .i64 2))
      have Hb6 := Lib.hid (Hb5.out.setCell (p := ⟨w.heap.size, 12, none⟩) (by show w.heap.size ≤ w.heap.size; omega) (.int .i64 2))
      have c2 : (w5.setCell ⟨w.heap.size, 12, none⟩ (.int .i64 2)).cell? ⟨w.heap.size, 2, none⟩ = some (.int .u8 k) := Ho6.out.at (by rw [List.getElem?_set_ne (by decide)]; exact Hk2.out)
      have f2 : (w5.setCell ⟨w.heap.size, 12, none⟩ (.int .i64 2)).frozen? ⟨w.heap.size, 2, none⟩ = false := Ho6.out.frozen 2
      have hl2 : 2 < (C.set 12 (.int .i64 2)).length := by
        rw [List.length_set]; exact (List.getElem?_eq_some_iff.1 Hk2.out).1
      by_cases hk0 : k = 0
      · have ek : (k == 0) = true := by rw [hk0]; rfl
        have hP : (C.set 12 (.int .i64 2)).set 2 (.int .u8 48) = P := by rw [← Hpl.out, Hkd.out, if_pos hk0]
        clear hk0 hl2
        have Ho7 := Lib.hid (Ho6.out.put 2 (.int .u8 48))
        have Hn7 := Lib.hid (Hn6.out.other (p := ⟨w.heap.size, 2, none⟩) (by show w4.heap.size ≠ w.heap.size; omega) (.int .u8 48))
        have Hb7 := Lib.hid (Hb6.out.setCell (p := ⟨w.heap.size, 2, none⟩) (by show w.heap.size ≤ w.heap.size; omega) (.int .u8 48))
        rw [hP] at Ho7
        clear hP Ho6 Hn6 Hb6 Ho5 Hn5 Hb5
        go_wp2_with (first
          | (refine wpList_store_row (by rfl) 23 _ _ (by rfl) w4.heap.size P.toArray (by rfl) (by rfl) _ _ Hnew.out Hsp.out Hzz.out Hop.out ?_; rw [Hnw.out])
          | (refine wpList_load_row (by rfl) 23 _ (by rfl) w.heap.size (by rfl) _ _ _ _ Ho7.out Tryd.underlying23 rfl Hsp.out ?_)
          | fail)
        refine (HR.out _).mono ?_
        rintro e w6 ⟨hb6, rfl⟩
        have Hb6 := Lib.hid (Hb7.out.trans (hb6.mono Hb7.out.size))
        have Hc6 := Lib.hid (Ho7.out.under hb6 Ho7.out.lt)
        have Hn6 := Lib.hid (Hn7.out.under hb6 Hn7.out.lt)
        clear hb6 Ho7 Hn7 Hb7
        go_wp2_with (first
          | (refine BigFrame.wpList_want rfl (fun K hK => wp_load_row 23 _ rfl w4.heap.size rfl _ _ _ _ Hn6.out Tryd.underlying23 rfl Hsp.out (hK _ _ ?_)))
          | (refine BigFrame.wpList_want rfl (fun K hK => wp_load_row 23 _ rfl w.heap.size rfl _ _ _ _ Hc6.out Tryd.underlying23 rfl Hsp.out (hK _ _ ?_)))
          | fail)
        refine (awake5_any _).mono ?_
        rintro e w7 ⟨hb7, rfl⟩
        have Hb9 := Lib.hid (Hb6.out.trans (hb7.mono Hb6.out.size))
        clear hb7
        go_wp2
        go_ret
        exact ⟨Hb9.out, rfl⟩
      · have ek : (k == 0) = false := by rw [beq_eq_false_iff_ne]; exact hk0
        have hP : C.set 12 (.int .i64 2) = P := by
          rw [← Hpl.out, Hkd.out, if_neg hk0]
          refine (List.ext_getElem? fun i => ?_)
          by_cases hi : i = 2
          · subst hi
            rw [List.getElem?_set_self hl2, List.getElem?_set_ne (by decide)]
            exact Hk2.out
          · exact (List.getElem?_set_ne (fun e => hi e.symm)).symm
        clear hk0 hl2
        have Ho7 := Ho6
        have Hn7 := Hn6
        have Hb7 := Hb6
        rw [hP] at Ho7
        clear hP Ho6 Hn6 Hb6 Ho5 Hn5 Hb5
        go_wp2_with (first
          | (refine wpList_store_row (by rfl) 23 _ _ (by rfl) w4.heap.size P.toArray (by rfl) (by rfl) _ _ Hnew.out Hsp.out Hzz.out Hop.out ?_; rw [Hnw.out])
          | (refine wpList_load_row (by rfl) 23 _ (by rfl) w.heap.size (by rfl) _ _ _ _ Ho7.out Tryd.underlying23 rfl Hsp.out ?_)
          | fail)
        refine (HR.out _).mono ?_
        rintro e w6 ⟨hb6, rfl⟩
        have Hb6 := Lib.hid (Hb7.out.trans (hb6.mono Hb7.out.size))
        have Hc6 := Lib.hid (Ho7.out.under hb6 Ho7.out.lt)
        have Hn6 := Lib.hid (Hn7.out.under hb6 Hn7.out.lt)
        clear hb6 Ho7 Hn7 Hb7
        go_wp2_with (first
          | (refine BigFrame.wpList_want rfl (fun K hK => wp_load_row 23 _ rfl w4.heap.size rfl _ _ _ _ Hn6.out Tryd.underlying23 rfl Hsp.out (hK _ _ ?_)))
          | (refine BigFrame.wpList_want rfl (fun K hK => wp_load_row 23 _ rfl w.heap.size rfl _ _ _ _ Hc6.out Tryd.underlying23 rfl Hsp.out (hK _ _ ?_)))
          | fail)
        refine (awake5_any _).mono ?_
        rintro e w7 ⟨hb7, rfl⟩
        have Hb9 := Lib.hid (Hb6.out.trans (hb7.mono Hb6.out.size))
        clear hb7
        go_wp2
        go_ret
        exact ⟨Hb9.out, rfl⟩
  · have HB := Lib.hid (fun w => build_no h w hok hl.1 hf)
    have e1 : (hdFits h == 0) = false := by simpa using hf
    clear hok hl hf hk
    unfold Hd.val at *
    generalize hdFits h = R at *
    generalize h.name = y0 at *
    generalize h.link = y1 at *
    generalize h.uname = y2 at *
    generalize h.gname = y3 at *
    generalize h.cells = C at *
    by_cases hx : 2000 < wrap64 (wrap64 (wrap64 ((y0.length : Int) + (y1.length : Int)) + (y2.length : Int)) + (y3.length : Int))
    · clear HB HF HG
      go_enter Tryd.func4, Tryd.ntmps4
      go_wp2_with fail
      refine (awake5_any _).mono ?_
      rintro e w1 ⟨hb1, rfl⟩
      have Hb1 := Lib.hid (((Below.refl w.heap.size w).alloc (Nat.le_refl _) (.cells C.toArray 23)).trans (hb1.mono (by simp)))
      clear hb1
      go_wp2
      go_ret
      exact ⟨Hb1.out, rfl⟩
    · go_enter Tryd.func4, Tryd.ntmps4
      go_wp2_with (first
        | (refine wpList_load_row (by rfl) 23 _ (by rfl) w.heap.size (by rfl) _ _ _ _ Ho.out Tryd.underlying23 rfl Hs.out ?_)
        | fail)
      refine (HB.out _).mono ?_
      rintro e w1 ⟨hb1, rfl⟩
      have Ho1 := Lib.hid (Ho.out.under hb1 Ho.out.lt)
      have Hb1 := Lib.hid (((Below.refl w.heap.size w).alloc (Nat.le_refl _) (.cells C.toArray 23)).trans (hb1.mono (by simp)))
      clear hb1 Ho c0 c1 c8 c9
      go_wp2_with (first
        | (refine wpList_load_row (by rfl) 23 _ (by rfl) w.heap.size (by rfl) _ _ _ _ Ho1.out Tryd.underlying23 rfl Hs.out ?_)
        | fail)
      refine (HG.out _).mono ?_
      rintro e w2 ⟨hb2, rfl⟩
      have Ho2 := Lib.hid (Ho1.out.under hb2 Ho1.out.lt)
      have Hb2 := Lib.hid (Hb1.out.trans (hb2.mono Hb1.out.size))
      clear hb2 Ho1 Hb1
      go_wp2_with (first
        | (refine BigFrame.wpList_want rfl (fun K hK => wp_load_row 23 _ rfl w.heap.size rfl _ _ _ _ Ho2.out Tryd.underlying23 rfl Hs.out (hK _ _ ?_)))
        | fail)
      refine (HF.out _).mono ?_
      rintro e w3 ⟨hb3, rfl⟩
      have Ho3 := Lib.hid (Ho2.out.under hb3 Ho2.out.lt)
      have Hb3 := Lib.hid (Hb2.out.trans (hb3.mono Hb2.out.size))
      clear hb3 Ho2 Hb2
      go_wp2_with fail
      refine (awake5_any _).mono ?_
      rintro e w4 ⟨hb4, rfl⟩
      have Hb4 := Lib.hid (Hb3.out.trans (hb4.mono Hb3.out.size))
      clear hb4
      go_wp2
      go_ret
      exact ⟨Hb4.out, rfl⟩
end Go.Proofs.YtlloaalaldomkaaDoor.headerBuilds
