/-
  The document's own Parse says what Parse says.
-/
import Derived.Test.YtlloaalaldomkaaDoorHdV
import Derived.Test.YtlloaalaldomkaaDoorHdL
namespace Go.Proofs.YtlloaalaldomkaaDoor
open Go.ChangeShapes Go.WideShapes Go.ChangeAt Go.RowKit

theorem slice_at (l : List UInt8) (hl : l.length = 512) (a b : Nat) (hab : a ≤ b) (hb : b ≤ 512) (W : World) : (Instr.slice 9 (.string ⟨l.toArray⟩) (some (.int .i64 a)) (some (.int .i64 b)) none).run Tryd.prog W = .ok (.string ⟨(fldAt l a (b - a)).toArray⟩) W := by
  rw [run_slice_string W _ _ _ _ _ _ Tryd.underlying9 (by omega) (by omega) (by simp [ByteArray.size]; omega)]
  have he := str_extract l a b
  rw [show ((a : Nat) : Int).toNat = a by omega, show ((b : Nat) : Int).toNat = b by omega]
  exact congrArg (fun s => Result.ok (Value.string s) W) he

theorem refBlank_form (m : List UInt8) (w : World) (hl : m.length ≤ 9223372036854775807) : Calls Tryd.prog 22 #[.string ⟨m.toArray⟩] w fun e w' => w = w' ∧ e = .returned (.bool (txtBlank m)) := refTBlank_any m w hl

theorem hdParse_fail (l : List UInt8) (hl : l.length = 512) (hr : sRight l = true) (h : hdForm (fld l 9) = 0) : hdParse l = (Hd.zero, 2) := by
  unfold hdParse
  rw [if_pos hl, if_pos hr, if_pos h]
theorem hdParse_err (l : List UInt8) (hl : l.length = 512) (hr : sRight l = true) (F : Int) (hF : hdForm (fld l 9) = F) (h0 : F ≠ 0) (e : Int) (he : firstE (rE l F) 7 0 = e) (hne : e ≠ 0) : hdParse l = (Hd.zero, e) := by
  unfold hdParse
  rw [if_pos hl, if_pos hr, hF, if_neg h0, he, if_neg hne]
theorem hdParse_ok (l : List UInt8) (hl : l.length = 512) (hr : sRight l = true) (F : Int) (hF : hdForm (fld l 9) = F) (h0 : F ≠ 0) (he : firstE (rE l F) 7 0 = 0) : hdParse l = (hdHead l F, 0) := by
  unfold hdParse
  rw [if_pos hl, if_pos hr, hF, if_neg h0, if_pos he]
theorem read_len (l : List UInt8) (hl : l.length = 512) (f : Nat) (hf : f < 15) : (txtRead (fld l f)).length ≤ 155 := by
  have h1 := take_txtRead (fld l f)
  have h2 : ((fld l f).take (txtRead (fld l f)).length).length ≤ (fld l f).length := by rw [List.length_take]; exact Nat.min_le_right _ _
  rw [h1, fld_length l hl f hf] at h2
  have := pl_bd f hf
  omega
theorem kind_set (h : Hd) (k : Int) : (h.cells.set 2 (.int .u8 k)) = ({ h with kind := k } : Hd).cells := rfl

set_option maxRecDepth 100000 in
set_option maxHeartbeats 1000000 in
theorem refParse_0 (l m9 : List UInt8) (w : World) (hl : l.length = 512)
    (hs9 : ∀ W : World, (Instr.slice 9 (.string ⟨l.toArray⟩) (some (.int .i64 257)) (some (.int .i64 265)) none).run Tryd.prog W = .ok (.string ⟨m9.toArray⟩) W)
    (m1 : (m9 == [117, 115, 116, 97, 114, 0, 48, 48]) = false) (m2 : (m9 == [117, 115, 116, 97, 114, 32, 32, 0]) = false)
    (HB : Hid (∀ w : World, Calls Tryd.prog 22 #[.string ⟨m9.toArray⟩] w fun e w' => w = w' ∧ e = .returned (.bool false)))
    (HR : Hid (∀ w : World, Calls Tryd.prog 21 #[.string ⟨l.toArray⟩] w fun e w' => w = w' ∧ e = .returned (.bool true))) :
    Calls Tryd.prog 8 #[.string ⟨l.toArray⟩] w fun e w' => Below w.heap.size w w' ∧ e = .returned (.tuple #[Hd.zero.val, .int .i64 2]) := by
  have hz := (zero_of_info info_head).1
  have Hs1 := Lib.hid (head_size Hd.zero)
  have Hone := Lib.hid Hd.zero.cells_one
  have hzl : Hd.zero.cells.length = 13 := rfl
  have e1 : ((l.length : Int) == 512) = true := by rw [beq_iff_eq]; omega
  unfold Hd.val
  generalize Hd.zero.cells = Z at *
  obtain ⟨w1, hw⟩ : ∃ w1, ((w.alloc (.cells Z.toArray 23)).alloc (.cells Z.toArray 23)).setRow (w.heap.size + 1) Z.toArray = w1 := ⟨_, rfl⟩
  have Hw := Lib.hid hw
  have H1 := Lib.hid (show refStart w Z w1 by rw [← hw]; exact refStart_of w Z)
  have H0 := Lib.hid (show Holds ((w.alloc (.cells Z.toArray 23)).alloc (.cells Z.toArray 23)) (w.heap.size + 1) 23 Z by
    have h2 := Holds.new (w.alloc (.cells Z.toArray 23)) 23 Z
    rwa [World.size_alloc] at h2)
  have hsz : w.heap.size + 1 < w1.heap.size := H1.out.2.1.lt
  have hsz0 : w.heap.size < w1.heap.size := by omega
  clear hw
  go_enter Tryd.func8, Tryd.ntmps8
  go_wp2_with (first
    | (refine wpList_store_row (by rfl) 23 _ _ (by rfl) (w.heap.size + 1) Z.toArray (by rfl) (by rfl) _ _ H0.out Hs1.out (by rfl) Hone.out ?_; rw [Hw.out])
    | fail)
  refine (HR.out _).mono ?_
  rintro e w' ⟨rfl, rfl⟩
  have Hnew := Lib.hid (Holds.new w1 23 Z)
  have Hp := Lib.hid (show Rp w (w.heap.size + 1) w1.heap.size Z Z (w1.alloc (.cells Z.toArray 23)) from ⟨H1.out.1.behind _, H1.out.2.1.behind _, Holds.new _ _ _, H1.out.2.2.alloc H1.out.2.2.size _, by omega, hsz⟩)
  go_wp2_with (first
    | (refine wpList_store_row (by rfl) 23 _ _ (by rfl) w1.heap.size Z.toArray (by rfl) (by rfl) _ _ Hnew.out Hs1.out (by rfl) Hone.out ?_; rw [World.setRow_alloc_new])
    | fail)
  refine (HB.out _).mono ?_
  rintro e w' ⟨rfl, rfl⟩
  go_wp2_with (first
    | (refine wpList_load_row (by rfl) 23 _ (by rfl) (w.heap.size + 1) (by rfl) _ _ _ _ Hp.out.2.1 Tryd.underlying23 rfl Hs1.out ?_)
    | (refine wpList_store_row (by rfl) 23 _ _ (by rfl) w.heap.size Z.toArray (by rfl) (by rfl) _ _ Hp.out.1 Hs1.out (by rfl) Hone.out ?_)
    | fail)
  exact bodyPost_ret (results_row2 Tryd.results8 _ _ w.heap.size _ Z.toArray _ _ _ (by rfl) (by rfl) (setRow_heap _ _ _ _ _ _ Hp.out.1) Tryd.underlying23 rfl Hs1.out) rfl ⟨below_setRow Hp.out.2.2.2.1 (Nat.le_refl _) _, rfl⟩

theorem refParse_form3 (l : List UInt8) (w : World) (hl : l.length = 512) (hr : sRight l = true) (hF : hdForm (fld l 9) = 3) :
    Calls Tryd.prog 8 #[.string ⟨l.toArray⟩] w fun e w' => Below w.heap.size w w' ∧ e = .returned (.tuple #[(hdParse l).1.val, .int .i64 (hdParse l).2]) := by
  have HR := Lib.hid (fun w => refRight_any l w hl)
  rw [hr] at HR
  have hE := first_all l 3 in_gnu
  have tb : ∀ f, f < 15 → ∀ w : World, Calls Tryd.prog 24 #[.string ⟨(fld l f).toArray⟩] w fun e w' => w = w' ∧ e = .returned (.string ⟨(txtRead (fld l f)).toArray⟩) := fun f hf w => refTRead_any (fld l f) w (by rw [fld_length l hl f hf]; have := pl_bd f hf; omega)
  have herr : ∀ e : Int, firstE (rE l 3) 7 0 = e → e ≠ 0 → (hdParse l).1.cells = Hd.zero.cells ∧ (hdParse l).2 = e := fun e he hne => by
    rw [hdParse_err l hl hr 3 hF (by decide) e he hne]; exact ⟨rfl, rfl⟩
  have hok : firstE (rE l 3) 7 0 = 0 → hdParse l = (hdHead l 3, 0) := fun he => hdParse_ok l hl hr 3 hF (by decide) he
  have hkb : l[156]'(by omega) = l.getD 156 0 := by rw [List.getD_eq_getElem?_getD, List.getElem?_eq_getElem (by omega)]; rfl
  have m1 : (fld l 9 == [117, 115, 116, 97, 114, 0, 48, 48]) = false := by
    rw [beq_eq_false_iff_ne]; intro h1; unfold hdForm at hF; rw [if_pos h1] at hF; cases hF
  have m2 : (fld l 9 == [117, 115, 116, 97, 114, 32, 32, 0]) = true := by
    by_cases h2 : fld l 9 = [117, 115, 116, 97, 114, 32, 32, 0]
    · rw [h2]; rfl
    · exfalso
      unfold hdForm at hF
      rw [if_neg (by simpa using m1), if_neg h2] at hF
      split at hF <;> cases hF
  refine refParse_3 l (fld l 9) w hl Hd.zero.cells (hdParse l).1.cells (hdParse l).2 (rv l 0).1 (rv l 1).1 (rv l 2).1 (rv l 3).1 (rv l 4).1 (rv l 5).1 (rv l 6).1 (rv l 0).2 (rv l 1).2 (rv l 2).2 (rv l 3).2 (rv l 4).2 (rv l 5).2 (rv l 6).2
    (Lib.hid fun w => refNumber_any l 100 8 false w hl (by decide)) (Lib.hid fun hne => herr _ (by rw [hE, if_neg hne]) hne)
    (Lib.hid fun w => refNumber_any l 108 8 false w hl (by decide)) (Lib.hid fun h0 hne => herr _ (by rw [hE, if_pos h0, if_neg hne]) hne)
    (Lib.hid fun w => refNumber_any l 116 8 false w hl (by decide)) (Lib.hid fun h0 h1 hne => herr _ (by rw [hE, if_pos h0, if_pos h1, if_neg hne]) hne)
    (Lib.hid fun w => refNumber_any l 124 12 false w hl (by decide)) (Lib.hid fun h0 h1 h2 hne => herr _ (by rw [hE, if_pos h0, if_pos h1, if_pos h2, if_neg hne]) hne)
    (Lib.hid fun w => refNumber_any l 136 12 true w hl (by decide)) (Lib.hid fun h0 h1 h2 h3 hne => herr _ (by rw [hE, if_pos h0, if_pos h1, if_pos h2, if_pos h3, if_neg hne]) hne)
    (Lib.hid fun w => refNumber_any l 329 8 false w hl (by decide)) (Lib.hid fun h0 h1 h2 h3 h4 hne => herr _ (by rw [hE, if_pos h0, if_pos h1, if_pos h2, if_pos h3, if_pos h4, if_neg hne]) hne)
    (Lib.hid fun w => refNumber_any l 337 8 false w hl (by decide)) (Lib.hid fun h0 h1 h2 h3 h4 h5 hne => herr _ (by rw [hE, if_pos h0, if_pos h1, if_pos h2, if_pos h3, if_pos h4, if_pos h5]) hne)
    (fld l 10) (fld l 11) (fld l 0) (fld l 14) (fld l 8) (txtRead (fld l 10)) (txtRead (fld l 11)) (txtRead (fld l 0)) (txtRead (fld l 14)) (txtRead (fld l 8)) (l.getD 156 0)
    (fun W => slice_at l hl 265 297 (by decide) (by decide) W) (Lib.hid (tb 10 (by decide)))
    (fun W => slice_at l hl 297 329 (by decide) (by decide) W) (Lib.hid (tb 11 (by decide)))
    (fun W => slice_to l 100 (by omega) W) (Lib.hid (tb 0 (by decide)))
    (fun W => slice_at l hl 345 500 (by decide) (by decide) W) (Lib.hid (tb 14 (by decide)))
    (fun W => slice_at l hl 157 257 (by decide) (by decide) W) (Lib.hid (tb 8 (by decide)))
    (fun W => slice_at l hl 257 265 (by decide) (by decide) W) m1 m2 HR hkb (Lib.hid rfl) ?_ (Lib.hid rfl) (Lib.hid (hdParse l).1.cells_one)
  refine Lib.hid fun h0 h1 h2 h3 h4 h5 h6 => ?_
  rw [hok (show firstE (rE l 3) 7 0 = 0 by rw [hE, if_pos h0, if_pos h1, if_pos h2, if_pos h3, if_pos h4, if_pos h5]; exact h6), head3]
  refine ⟨fun hk => ?_, fun hk => ?_, rfl⟩
  · rw [show hdKind ((l.getD 156 0).toNat : Int) = 48 from if_pos hk]; rfl
  · rw [show hdKind ((l.getD 156 0).toNat : Int) = ((l.getD 156 0).toNat : Int) from if_neg hk]; rfl

theorem refParse_form1 (l : List UInt8) (w : World) (hl : l.length = 512) (hr : sRight l = true) (hF : hdForm (fld l 9) = 1) :
    Calls Tryd.prog 8 #[.string ⟨l.toArray⟩] w fun e w' => Below w.heap.size w w' ∧ e = .returned (.tuple #[(hdParse l).1.val, .int .i64 (hdParse l).2]) := by
  have HR := Lib.hid (fun w => refRight_any l w hl)
  rw [hr] at HR
  have hE := first_old l
  have tb : ∀ f, f < 15 → ∀ w : World, Calls Tryd.prog 24 #[.string ⟨(fld l f).toArray⟩] w fun e w' => w = w' ∧ e = .returned (.string ⟨(txtRead (fld l f)).toArray⟩) := fun f hf w => refTRead_any (fld l f) w (by rw [fld_length l hl f hf]; have := pl_bd f hf; omega)
  have herr : ∀ e : Int, firstE (rE l 1) 7 0 = e → e ≠ 0 → (hdParse l).1.cells = Hd.zero.cells ∧ (hdParse l).2 = e := fun e he hne => by
    rw [hdParse_err l hl hr 1 hF (by decide) e he hne]; exact ⟨rfl, rfl⟩
  have hok : firstE (rE l 1) 7 0 = 0 → hdParse l = (hdHead l 1, 0) := fun he => hdParse_ok l hl hr 1 hF (by decide) he
  have hkb : l[156]'(by omega) = l.getD 156 0 := by rw [List.getD_eq_getElem?_getD, List.getElem?_eq_getElem (by omega)]; rfl
  have m1 : (fld l 9 == [117, 115, 116, 97, 114, 0, 48, 48]) = false := by
    rw [beq_eq_false_iff_ne]; intro h1; unfold hdForm at hF; rw [if_pos h1] at hF; cases hF
  have m2 : (fld l 9 == [117, 115, 116, 97, 114, 32, 32, 0]) = false := by
    rw [beq_eq_false_iff_ne]; intro h2; unfold hdForm at hF; rw [if_neg (by simpa using m1), if_pos h2] at hF; cases hF
  have HB := Lib.hid (fun w => refBlank_form (fld l 9) w (by rw [fld_length l hl 9 (by decide)]; decide))
  have hb : txtBlank (fld l 9) = true := by
    cases hx : txtBlank (fld l 9)
    · exfalso; unfold hdForm at hF; rw [if_neg (by simpa using m1), if_neg (by simpa using m2), hx] at hF; cases hF
    · rfl
  rw [hb] at HB
  refine refParse_1 l (fld l 9) w hl Hd.zero.cells (hdParse l).1.cells (hdParse l).2 (rv l 0).1 (rv l 1).1 (rv l 2).1 (rv l 3).1 (rv l 4).1 (rv l 0).2 (rv l 1).2 (rv l 2).2 (rv l 3).2 (rv l 4).2
    (Lib.hid fun w => refNumber_any l 100 8 false w hl (by decide)) (Lib.hid fun hne => herr _ (by rw [hE, if_neg hne]) hne)
    (Lib.hid fun w => refNumber_any l 108 8 false w hl (by decide)) (Lib.hid fun h0 hne => herr _ (by rw [hE, if_pos h0, if_neg hne]) hne)
    (Lib.hid fun w => refNumber_any l 116 8 false w hl (by decide)) (Lib.hid fun h0 h1 hne => herr _ (by rw [hE, if_pos h0, if_pos h1, if_neg hne]) hne)
    (Lib.hid fun w => refNumber_any l 124 12 false w hl (by decide)) (Lib.hid fun h0 h1 h2 hne => herr _ (by rw [hE, if_pos h0, if_pos h1, if_pos h2, if_neg hne]) hne)
    (Lib.hid fun w => refNumber_any l 136 12 true w hl (by decide)) (Lib.hid fun h0 h1 h2 h3 hne => herr _ (by rw [hE, if_pos h0, if_pos h1, if_pos h2, if_pos h3]) hne)
    (fld l 0) (fld l 14) (fld l 8) (txtRead (fld l 0)) (txtRead (fld l 14)) (txtRead (fld l 8)) (l.getD 156 0)
    (fun W => slice_to l 100 (by omega) W) (Lib.hid (tb 0 (by decide)))
    (fun W => slice_at l hl 345 500 (by decide) (by decide) W) (Lib.hid (tb 14 (by decide)))
    (fun W => slice_at l hl 157 257 (by decide) (by decide) W) (Lib.hid (tb 8 (by decide)))
    (fun W => slice_at l hl 257 265 (by decide) (by decide) W) m1 m2 HB HR hkb (Lib.hid rfl) ?_ (Lib.hid rfl) (Lib.hid (hdParse l).1.cells_one)
  refine Lib.hid fun h0 h1 h2 h3 h4 => ?_
  rw [hok (show firstE (rE l 1) 7 0 = 0 by rw [hE, if_pos h0, if_pos h1, if_pos h2, if_pos h3]; exact h4), head1]
  refine ⟨fun hk => ?_, fun hk => ?_, rfl⟩
  · rw [show hdKind ((l.getD 156 0).toNat : Int) = 48 from if_pos hk]; rfl
  · rw [show hdKind ((l.getD 156 0).toNat : Int) = ((l.getD 156 0).toNat : Int) from if_neg hk]; rfl

theorem refParse_form2 (l : List UInt8) (w : World) (hl : l.length = 512) (hr : sRight l = true) (hF : hdForm (fld l 9) = 2) :
    Calls Tryd.prog 8 #[.string ⟨l.toArray⟩] w fun e w' => Below w.heap.size w w' ∧ e = .returned (.tuple #[(hdParse l).1.val, .int .i64 (hdParse l).2]) := by
  have HR := Lib.hid (fun w => refRight_any l w hl)
  rw [hr] at HR
  have hE := first_all l 2 in_posix
  have tb : ∀ f, f < 15 → ∀ w : World, Calls Tryd.prog 24 #[.string ⟨(fld l f).toArray⟩] w fun e w' => w = w' ∧ e = .returned (.string ⟨(txtRead (fld l f)).toArray⟩) := fun f hf w => refTRead_any (fld l f) w (by rw [fld_length l hl f hf]; have := pl_bd f hf; omega)
  have herr : ∀ e : Int, firstE (rE l 2) 7 0 = e → e ≠ 0 → (hdParse l).1.cells = Hd.zero.cells ∧ (hdParse l).2 = e := fun e he hne => by
    rw [hdParse_err l hl hr 2 hF (by decide) e he hne]; exact ⟨rfl, rfl⟩
  have hok : firstE (rE l 2) 7 0 = 0 → hdParse l = (hdHead l 2, 0) := fun he => hdParse_ok l hl hr 2 hF (by decide) he
  have hkb : l[156]'(by omega) = l.getD 156 0 := by rw [List.getD_eq_getElem?_getD, List.getElem?_eq_getElem (by omega)]; rfl
  have m1 : (fld l 9 == [117, 115, 116, 97, 114, 0, 48, 48]) = true := by
    by_cases h1 : fld l 9 = [117, 115, 116, 97, 114, 0, 48, 48]
    · rw [h1]; rfl
    · exfalso
      unfold hdForm at hF
      rw [if_neg h1] at hF
      split at hF
      · cases hF
      · split at hF <;> cases hF
  refine refParse_2 l (fld l 9) w hl Hd.zero.cells (hdParse l).1.cells (hdParse l).2 (rv l 0).1 (rv l 1).1 (rv l 2).1 (rv l 3).1 (rv l 4).1 (rv l 5).1 (rv l 6).1 (rv l 0).2 (rv l 1).2 (rv l 2).2 (rv l 3).2 (rv l 4).2 (rv l 5).2 (rv l 6).2
    (Lib.hid fun w => refNumber_any l 100 8 false w hl (by decide)) (Lib.hid fun hne => herr _ (by rw [hE, if_neg hne]) hne)
    (Lib.hid fun w => refNumber_any l 108 8 false w hl (by decide)) (Lib.hid fun h0 hne => herr _ (by rw [hE, if_pos h0, if_neg hne]) hne)
    (Lib.hid fun w => refNumber_any l 116 8 false w hl (by decide)) (Lib.hid fun h0 h1 hne => herr _ (by rw [hE, if_pos h0, if_pos h1, if_neg hne]) hne)
    (Lib.hid fun w => refNumber_any l 124 12 false w hl (by decide)) (Lib.hid fun h0 h1 h2 hne => herr _ (by rw [hE, if_pos h0, if_pos h1, if_pos h2, if_neg hne]) hne)
    (Lib.hid fun w => refNumber_any l 136 12 true w hl (by decide)) (Lib.hid fun h0 h1 h2 h3 hne => herr _ (by rw [hE, if_pos h0, if_pos h1, if_pos h2, if_pos h3, if_neg hne]) hne)
    (Lib.hid fun w => refNumber_any l 329 8 false w hl (by decide)) (Lib.hid fun h0 h1 h2 h3 h4 hne => herr _ (by rw [hE, if_pos h0, if_pos h1, if_pos h2, if_pos h3, if_pos h4, if_neg hne]) hne)
    (Lib.hid fun w => refNumber_any l 337 8 false w hl (by decide)) (Lib.hid fun h0 h1 h2 h3 h4 h5 hne => herr _ (by rw [hE, if_pos h0, if_pos h1, if_pos h2, if_pos h3, if_pos h4, if_pos h5]) hne)
    (fld l 10) (fld l 11) (fld l 0) (fld l 14) (fld l 8) (txtRead (fld l 10)) (txtRead (fld l 11)) (txtRead (fld l 0)) (txtRead (fld l 14)) (txtRead (fld l 8)) (l.getD 156 0)
    (fun W => slice_at l hl 265 297 (by decide) (by decide) W) (Lib.hid (tb 10 (by decide)))
    (fun W => slice_at l hl 297 329 (by decide) (by decide) W) (Lib.hid (tb 11 (by decide)))
    (fun W => slice_to l 100 (by omega) W) (Lib.hid (tb 0 (by decide)))
    (fun W => slice_at l hl 345 500 (by decide) (by decide) W) (Lib.hid (tb 14 (by decide)))
    (fun W => slice_at l hl 157 257 (by decide) (by decide) W) (Lib.hid (tb 8 (by decide)))
    (fun W => slice_at l hl 257 265 (by decide) (by decide) W) m1 HR hkb (Lib.hid rfl) ?_ ⟨by have := read_len l hl 14 (by decide); omega, by have := read_len l hl 0 (by decide); omega⟩ (Lib.hid rfl) (Lib.hid (hdParse l).1.cells_one)
  refine Lib.hid fun h0 h1 h2 h3 h4 h5 h6 => ?_
  rw [hok (show firstE (rE l 2) 7 0 = 0 by rw [hE, if_pos h0, if_pos h1, if_pos h2, if_pos h3, if_pos h4, if_pos h5]; exact h6), head2]
  have hnm0 : txtRead (fld l 14) = [] → hdName l 2 = txtRead (fld l 0) := fun hp => by
    unfold hdName; rw [if_pos (show hdPre l 2 = [] from hp)]
  have hnm1 : txtRead (fld l 14) ≠ [] → hdName l 2 = txtRead (fld l 14) ++ 47 :: txtRead (fld l 0) := fun hp => by
    unfold hdName; rw [if_neg (show ¬ hdPre l 2 = [] from hp)]; rfl
  refine ⟨fun hp hk => ?_, fun hp hk => ?_, fun hp hk => ?_, fun hp hk => ?_, rfl⟩
  · rw [hnm0 hp, show hdKind ((l.getD 156 0).toNat : Int) = 48 from if_pos hk]; rfl
  · rw [hnm0 hp, show hdKind ((l.getD 156 0).toNat : Int) = ((l.getD 156 0).toNat : Int) from if_neg hk]; rfl
  · rw [hnm1 hp, show hdKind ((l.getD 156 0).toNat : Int) = 48 from if_pos hk]; rfl
  · rw [hnm1 hp, show hdKind ((l.getD 156 0).toNat : Int) = ((l.getD 156 0).toNat : Int) from if_neg hk]; rfl

theorem refHdParse_any (l : List UInt8) (w : World) :
    Calls Tryd.prog 8 #[.string ⟨l.toArray⟩] w fun e w' => Below w.heap.size w w' ∧ e = .returned (.tuple #[(hdParse l).1.val, .int .i64 (hdParse l).2]) := by
  by_cases hl : l.length = 512
  · cases hr : sRight l
    · have hq : hdParse l = (Hd.zero, 4) := by unfold hdParse; rw [if_pos hl, if_neg (by rw [hr]; simp)]
      rw [hq]
      exact refParse_sum l w hl hr
    · by_cases h1 : fld l 9 = [117, 115, 116, 97, 114, 0, 48, 48]
      · exact refParse_form2 l w hl hr (by unfold hdForm; rw [if_pos h1])
      · by_cases h2 : fld l 9 = [117, 115, 116, 97, 114, 32, 32, 0]
        · exact refParse_form3 l w hl hr (by unfold hdForm; rw [if_neg h1, if_pos h2])
        · cases hb : txtBlank (fld l 9)
          · have hq := hdParse_fail l hl hr (by unfold hdForm; rw [if_neg h1, if_neg h2, hb]; rfl)
            rw [hq]
            have HB := Lib.hid (fun w => refBlank_form (fld l 9) w (by rw [fld_length l hl 9 (by decide)]; decide))
            have HR := Lib.hid (fun w => refRight_any l w hl)
            rw [hb] at HB
            rw [hr] at HR
            exact refParse_0 l (fld l 9) w hl (fun W => slice_at l hl 257 265 (by decide) (by decide) W) (by simpa using h1) (by simpa using h2) HB HR
          · exact refParse_form1 l w hl hr (by unfold hdForm; rw [if_neg h1, if_neg h2, if_pos hb])
  · have hq : hdParse l = (Hd.zero, 1) := if_neg hl
    rw [hq]
    exact refParse_len l w hl
end Go.Proofs.YtlloaalaldomkaaDoor
