/-
  Contract of the document's own Parse. (Printed by wip/gen/refparse.py.)
-/
import Derived.Test.YtlloaalaldomkaaDoorHdU
namespace Go.Proofs.YtlloaalaldomkaaDoor
open Go.ChangeShapes Go.WideShapes Go.ChangeAt Go.RowKit

/-- What holds while the document's Parse runs: the result's block and the empty head's as they began, the head in block g. -/
def Rp (W : World) (n g : Nat) (Z C : List Value) (w : World) : Prop :=
  Holds w W.heap.size 23 Z ∧ Holds w n 23 Z ∧ Holds w g 23 C ∧ Below W.heap.size W w ∧ (W.heap.size < n ∧ n < g)
theorem Rp.put {W : World} {n g : Nat} {Z C : List Value} {w : World} (r : Rp W n g Z C w) (i : Nat) (v : Value) : Rp W n g Z (C.set i v) (w.setCell ⟨g, i, none⟩ v) := by
  obtain ⟨r1, r2, r3, r4, r5, r6⟩ := r
  exact ⟨r1.other (by show W.heap.size ≠ g; omega) v, r2.other (by show n ≠ g; omega) v, r3.put i v, r4.setCell (by show W.heap.size ≤ g; omega) v, r5, r6⟩
theorem Rp.cell {W : World} {n g : Nat} {Z C : List Value} {w : World} (r : Rp W n g Z C w) (i : Nat) (h : i < C.length) : w.cell? ⟨g, i, none⟩ = some (cellV w ⟨g, i, none⟩) := by
  unfold cellV
  rw [r.2.2.1.cell h]; rfl
/-- The blocks with which Parse begins. -/
def refStart (W : World) (Z : List Value) (w1 : World) : Prop := Holds w1 W.heap.size 23 Z ∧ Holds w1 (W.heap.size + 1) 23 Z ∧ Below W.heap.size W w1
theorem refStart_of (W : World) (Z : List Value) : refStart W Z (((W.alloc (.cells Z.toArray 23)).alloc (.cells Z.toArray 23)).setRow (W.heap.size + 1) Z.toArray) := by
  have h2 := Holds.new (W.alloc (.cells Z.toArray 23)) 23 Z
  rw [World.size_alloc] at h2
  refine ⟨?_, setRow_heap _ _ _ _ _ _ h2, below_setRow (((Below.refl _ _).alloc (Nat.le_refl _) _).alloc (by simp) _) (by omega) _⟩
  unfold Holds
  rw [setRow_other _ _ _ _ (by omega)]
  exact (Holds.new W _ _).behind _

set_option maxRecDepth 100000 in
theorem refParse_len (l : List UInt8) (w : World) (h : l.length ≠ 512) :
    Calls Tryd.prog 8 #[.string ⟨l.toArray⟩] w fun e w' => Below w.heap.size w w' ∧ e = .returned (.tuple #[Hd.zero.val, .int .i64 1]) := by
  have hz := (zero_of_info info_head).1
  have Hs1 := Lib.hid (head_size Hd.zero)
  have Hone := Lib.hid Hd.zero.cells_one
  have hzl : Hd.zero.cells.length = 13 := rfl
  have e1 : ((l.length : Int) == 512) = false := by rw [beq_eq_false_iff_ne]; omega
  unfold Hd.val
  generalize Hd.zero.cells = Z at *
  clear h
  obtain ⟨w1, hw⟩ : ∃ w1, ((w.alloc (.cells Z.toArray 23)).alloc (.cells Z.toArray 23)).setRow (w.heap.size + 1) Z.toArray = w1 := ⟨_, rfl⟩
  have Hw := Lib.hid hw
  have H1 := Lib.hid (show refStart w Z w1 by rw [← hw]; exact refStart_of w Z)
  have H0 := Lib.hid (show Holds ((w.alloc (.cells Z.toArray 23)).alloc (.cells Z.toArray 23)) (w.heap.size + 1) 23 Z by
    have h2 := Holds.new (w.alloc (.cells Z.toArray 23)) 23 Z
    rwa [World.size_alloc] at h2)
  have hsz : w.heap.size + 1 < w1.heap.size := H1.out.2.1.lt
  have hsz0 : w.heap.size < w1.heap.size := by omega
  clear hw
  go_enter Tryd.func8, Tryd.ntmps8
  go_wp2_with (first
    | (refine wpList_store_row (by rfl) 23 _ _ (by rfl) (w.heap.size + 1) Z.toArray (by rfl) (by rfl) _ _ H0.out Hs1.out (by rfl) Hone.out ?_; rw [Hw.out])
    | (refine wpList_load_row (by rfl) 23 _ (by rfl) (w.heap.size + 1) (by rfl) _ _ _ _ H1.out.2.1 Tryd.underlying23 rfl Hs1.out ?_)
    | (refine wpList_store_row (by rfl) 23 _ _ (by rfl) w.heap.size Z.toArray (by rfl) (by rfl) _ _ H1.out.1 Hs1.out (by rfl) Hone.out ?_)
    | fail)
  exact bodyPost_ret (results_row2 Tryd.results8 _ _ w.heap.size _ Z.toArray _ _ _ (by rfl) (by rfl) (setRow_heap _ _ _ _ _ _ H1.out.1) Tryd.underlying23 rfl Hs1.out) rfl ⟨below_setRow H1.out.2.2 (Nat.le_refl _) _, rfl⟩

set_option maxRecDepth 100000 in
theorem refParse_sum (l : List UInt8) (w : World) (hl : l.length = 512) (h : sRight l = false) :
    Calls Tryd.prog 8 #[.string ⟨l.toArray⟩] w fun e w' => Below w.heap.size w w' ∧ e = .returned (.tuple #[Hd.zero.val, .int .i64 4]) := by
  have hz := (zero_of_info info_head).1
  have Hs1 := Lib.hid (head_size Hd.zero)
  have Hone := Lib.hid Hd.zero.cells_one
  have hzl : Hd.zero.cells.length = 13 := rfl
  have e1 : ((l.length : Int) == 512) = true := by rw [beq_iff_eq]; omega
  have HR := Lib.hid (fun w => refRight_any l w hl)
  rw [h] at HR
  unfold Hd.val
  generalize Hd.zero.cells = Z at *
  clear h
  obtain ⟨w1, hw⟩ : ∃ w1, ((w.alloc (.cells Z.toArray 23)).alloc (.cells Z.toArray 23)).setRow (w.heap.size + 1) Z.toArray = w1 := ⟨_, rfl⟩
  have Hw := Lib.hid hw
  have H1 := Lib.hid (show refStart w Z w1 by rw [← hw]; exact refStart_of w Z)
  have H0 := Lib.hid (show Holds ((w.alloc (.cells Z.toArray 23)).alloc (.cells Z.toArray 23)) (w.heap.size + 1) 23 Z by
    have h2 := Holds.new (w.alloc (.cells Z.toArray 23)) 23 Z
    rwa [World.size_alloc] at h2)
  have hsz : w.heap.size + 1 < w1.heap.size := H1.out.2.1.lt
  have hsz0 : w.heap.size < w1.heap.size := by omega
  clear hw
  go_enter Tryd.func8, Tryd.ntmps8
  go_wp2_with (first
    | (refine wpList_store_row (by rfl) 23 _ _ (by rfl) (w.heap.size + 1) Z.toArray (by rfl) (by rfl) _ _ H0.out Hs1.out (by rfl) Hone.out ?_; rw [Hw.out])
    | (refine wpList_load_row (by rfl) 23 _ (by rfl) (w.heap.size + 1) (by rfl) _ _ _ _ H1.out.2.1 Tryd.underlying23 rfl Hs1.out ?_)
    | (refine wpList_store_row (by rfl) 23 _ _ (by rfl) w.heap.size Z.toArray (by rfl) (by rfl) _ _ H1.out.1 Hs1.out (by rfl) Hone.out ?_)
    | fail)
  refine (HR.out _).mono ?_
  rintro e w' ⟨rfl, rfl⟩
  go_wp2_with (first
    | (refine wpList_load_row (by rfl) 23 _ (by rfl) (w.heap.size + 1) (by rfl) _ _ _ _ H1.out.2.1 Tryd.underlying23 rfl Hs1.out ?_)
    | (refine wpList_store_row (by rfl) 23 _ _ (by rfl) w.heap.size Z.toArray (by rfl) (by rfl) _ _ H1.out.1 Hs1.out (by rfl) Hone.out ?_)
    | fail)
  exact bodyPost_ret (results_row2 Tryd.results8 _ _ w.heap.size _ Z.toArray _ _ _ (by rfl) (by rfl) (setRow_heap _ _ _ _ _ _ H1.out.1) Tryd.underlying23 rfl Hs1.out) rfl ⟨below_setRow H1.out.2.2 (Nat.le_refl _) _, rfl⟩

set_option maxRecDepth 100000 in
set_option maxHeartbeats 3000000 in
theorem refParse_2 (l m9 : List UInt8) (w : World) (hl : l.length = 512) (Z RC : List Value) (RI : Int) (v0 v1 v2 v3 v4 v5 v6 e0 e1 e2 e3 e4 e5 e6 : Int)
    (Hn0 : Hid (∀ w : World, Calls Tryd.prog 23 #[.string ⟨l.toArray⟩, .int .i64 100, .int .i64 8, .bool false] w fun e w' => w = w' ∧ e = .returned (.tuple #[.int .i64 v0, .int .i64 e0])))
    (He0 : Hid (e0 ≠ 0 → RC = Z ∧ RI = e0))
    (Hn1 : Hid (∀ w : World, Calls Tryd.prog 23 #[.string ⟨l.toArray⟩, .int .i64 108, .int .i64 8, .bool false] w fun e w' => w = w' ∧ e = .returned (.tuple #[.int .i64 v1, .int .i64 e1])))
    (He1 : Hid (e0 = 0 → e1 ≠ 0 → RC = Z ∧ RI = e1))
    (Hn2 : Hid (∀ w : World, Calls Tryd.prog 23 #[.string ⟨l.toArray⟩, .int .i64 116, .int .i64 8, .bool false] w fun e w' => w = w' ∧ e = .returned (.tuple #[.int .i64 v2, .int .i64 e2])))
    (He2 : Hid (e0 = 0 → e1 = 0 → e2 ≠ 0 → RC = Z ∧ RI = e2))
    (Hn3 : Hid (∀ w : World, Calls Tryd.prog 23 #[.string ⟨l.toArray⟩, .int .i64 124, .int .i64 12, .bool false] w fun e w' => w = w' ∧ e = .returned (.tuple #[.int .i64 v3, .int .i64 e3])))
    (He3 : Hid (e0 = 0 → e1 = 0 → e2 = 0 → e3 ≠ 0 → RC = Z ∧ RI = e3))
    (Hn4 : Hid (∀ w : World, Calls Tryd.prog 23 #[.string ⟨l.toArray⟩, .int .i64 136, .int .i64 12, .bool true] w fun e w' => w = w' ∧ e = .returned (.tuple #[.int .i64 v4, .int .i64 e4])))
    (He4 : Hid (e0 = 0 → e1 = 0 → e2 = 0 → e3 = 0 → e4 ≠ 0 → RC = Z ∧ RI = e4))
    (Hn5 : Hid (∀ w : World, Calls Tryd.prog 23 #[.string ⟨l.toArray⟩, .int .i64 329, .int .i64 8, .bool false] w fun e w' => w = w' ∧ e = .returned (.tuple #[.int .i64 v5, .int .i64 e5])))
    (He5 : Hid (e0 = 0 → e1 = 0 → e2 = 0 → e3 = 0 → e4 = 0 → e5 ≠ 0 → RC = Z ∧ RI = e5))
    (Hn6 : Hid (∀ w : World, Calls Tryd.prog 23 #[.string ⟨l.toArray⟩, .int .i64 337, .int .i64 8, .bool false] w fun e w' => w = w' ∧ e = .returned (.tuple #[.int .i64 v6, .int .i64 e6])))
    (He6 : Hid (e0 = 0 → e1 = 0 → e2 = 0 → e3 = 0 → e4 = 0 → e5 = 0 → e6 ≠ 0 → RC = Z ∧ RI = e6))
    (fu fg fn fp fk tu tg tn tp tk : List UInt8) (kb : UInt8)
    (hsu : ∀ W : World, (Instr.slice 9 (.string ⟨l.toArray⟩) (some (.int .i64 265)) (some (.int .i64 297)) none).run Tryd.prog W = .ok (.string ⟨fu.toArray⟩) W)
    (Htu : Hid (∀ w : World, Calls Tryd.prog 24 #[.string ⟨fu.toArray⟩] w fun e w' => w = w' ∧ e = .returned (.string ⟨tu.toArray⟩)))
    (hsg : ∀ W : World, (Instr.slice 9 (.string ⟨l.toArray⟩) (some (.int .i64 297)) (some (.int .i64 329)) none).run Tryd.prog W = .ok (.string ⟨fg.toArray⟩) W)
    (Htg : Hid (∀ w : World, Calls Tryd.prog 24 #[.string ⟨fg.toArray⟩] w fun e w' => w = w' ∧ e = .returned (.string ⟨tg.toArray⟩)))
    (hsn : ∀ W : World, (Instr.slice 9 (.string ⟨l.toArray⟩) none (some (.int .i64 100)) none).run Tryd.prog W = .ok (.string ⟨fn.toArray⟩) W)
    (Htn : Hid (∀ w : World, Calls Tryd.prog 24 #[.string ⟨fn.toArray⟩] w fun e w' => w = w' ∧ e = .returned (.string ⟨tn.toArray⟩)))
    (hsp : ∀ W : World, (Instr.slice 9 (.string ⟨l.toArray⟩) (some (.int .i64 345)) (some (.int .i64 500)) none).run Tryd.prog W = .ok (.string ⟨fp.toArray⟩) W)
    (Htp : Hid (∀ w : World, Calls Tryd.prog 24 #[.string ⟨fp.toArray⟩] w fun e w' => w = w' ∧ e = .returned (.string ⟨tp.toArray⟩)))
    (hsk : ∀ W : World, (Instr.slice 9 (.string ⟨l.toArray⟩) (some (.int .i64 157)) (some (.int .i64 257)) none).run Tryd.prog W = .ok (.string ⟨fk.toArray⟩) W)
    (Htk : Hid (∀ w : World, Calls Tryd.prog 24 #[.string ⟨fk.toArray⟩] w fun e w' => w = w' ∧ e = .returned (.string ⟨tk.toArray⟩)))
    (hs9 : ∀ W : World, (Instr.slice 9 (.string ⟨l.toArray⟩) (some (.int .i64 257)) (some (.int .i64 265)) none).run Tryd.prog W = .ok (.string ⟨m9.toArray⟩) W)
    (m1 : (m9 == [117, 115, 116, 97, 114, 0, 48, 48]) = true)
    (HR : Hid (∀ w : World, Calls Tryd.prog 21 #[.string ⟨l.toArray⟩] w fun e w' => w = w' ∧ e = .returned (.bool true)))
    (hkb : l[156]'(by omega) = kb) (HZ : Hid (Z = Hd.zero.cells))
    (Hok : Hid (e0 = 0 → e1 = 0 → e2 = 0 → e3 = 0 → e4 = 0 → e5 = 0 → e6 = 0 → (tp = [] → (kb.toNat : Int) = 0 → RC = (((((((((((((Z.set 12 (.int .i64 2)).set 3 (.int .i64 v0)).set 4 (.int .i64 v1)).set 5 (.int .i64 v2)).set 6 (.int .i64 v3)).set 7 (.int .i64 v4)).set 10 (.int .i64 v5)).set 11 (.int .i64 v6)).set 8 (.string ⟨tu.toArray⟩)).set 9 (.string ⟨tg.toArray⟩)).set 0 (.string ⟨tn.toArray⟩)).set 1 (.string ⟨tk.toArray⟩)).set 2 (.int .u8 kb.toNat)).set 2 (.int .u8 48)) ∧ (tp = [] → (kb.toNat : Int) ≠ 0 → RC = ((((((((((((Z.set 12 (.int .i64 2)).set 3 (.int .i64 v0)).set 4 (.int .i64 v1)).set 5 (.int .i64 v2)).set 6 (.int .i64 v3)).set 7 (.int .i64 v4)).set 10 (.int .i64 v5)).set 11 (.int .i64 v6)).set 8 (.string ⟨tu.toArray⟩)).set 9 (.string ⟨tg.toArray⟩)).set 0 (.string ⟨tn.toArray⟩)).set 1 (.string ⟨tk.toArray⟩)).set 2 (.int .u8 kb.toNat)) ∧ (tp ≠ [] → (kb.toNat : Int) = 0 → RC = ((((((((((((((Z.set 12 (.int .i64 2)).set 3 (.int .i64 v0)).set 4 (.int .i64 v1)).set 5 (.int .i64 v2)).set 6 (.int .i64 v3)).set 7 (.int .i64 v4)).set 10 (.int .i64 v5)).set 11 (.int .i64 v6)).set 8 (.string ⟨tu.toArray⟩)).set 9 (.string ⟨tg.toArray⟩)).set 0 (.string ⟨tn.toArray⟩)).set 0 (.string ⟨(tp ++ 47 :: tn).toArray⟩)).set 1 (.string ⟨tk.toArray⟩)).set 2 (.int .u8 kb.toNat)).set 2 (.int .u8 48)) ∧ (tp ≠ [] → (kb.toNat : Int) ≠ 0 → RC = (((((((((((((Z.set 12 (.int .i64 2)).set 3 (.int .i64 v0)).set 4 (.int .i64 v1)).set 5 (.int .i64 v2)).set 6 (.int .i64 v3)).set 7 (.int .i64 v4)).set 10 (.int .i64 v5)).set 11 (.int .i64 v6)).set 8 (.string ⟨tu.toArray⟩)).set 9 (.string ⟨tg.toArray⟩)).set 0 (.string ⟨tn.toArray⟩)).set 0 (.string ⟨(tp ++ 47 :: tn).toArray⟩)).set 1 (.string ⟨tk.toArray⟩)).set 2 (.int .u8 kb.toNat)) ∧ RI = 0))
    (htl : tp.length ≤ 1000 ∧ tn.length ≤ 1000)
    (HRs : Hid (RC.length = 13)) (HRo : Hid (RC.toArray.all (·.oneCell') = true)) :
    Calls Tryd.prog 8 #[.string ⟨l.toArray⟩] w fun e w' => Below w.heap.size w w' ∧ e = .returned (.tuple #[.agg RC.toArray, .int .i64 RI]) := by
  have hz := (zero_of_info info_head).1
  have Hs1 := Lib.hid (head_size Hd.zero)
  have Hone := Lib.hid Hd.zero.cells_one
  rw [← HZ.out] at hz Hs1 Hone
  have hzl : Z.length = 13 := by rw [HZ.out]; rfl
  have HRsz := Lib.hid (show (Tryd.prog.info? 23).map (·.size) = some RC.toArray.size by rw [List.size_toArray, HRs.out]; exact head_size Hd.zero)
  have HZR := Lib.hid (show Z.toArray.size = RC.toArray.size by rw [List.size_toArray, List.size_toArray, HRs.out, hzl])
  have eL : ((l.length : Int) == 512) = true := by rw [beq_iff_eq]; omega
  have hl156 : 156 < l.length := by omega 
  have hg1 : tp.length + 1 ≤ 2000 ∧ tp.length + 1 + tn.length ≤ 3000 := by omega
  obtain ⟨hg1, hg2⟩ := hg1
  obtain ⟨w1, hw⟩ : ∃ w1, ((w.alloc (.cells Z.toArray 23)).alloc (.cells Z.toArray 23)).setRow (w.heap.size + 1) Z.toArray = w1 := ⟨_, rfl⟩
  have Hw := Lib.hid hw
  have H1 := Lib.hid (show refStart w Z w1 by rw [← hw]; exact refStart_of w Z)
  have H0 := Lib.hid (show Holds ((w.alloc (.cells Z.toArray 23)).alloc (.cells Z.toArray 23)) (w.heap.size + 1) 23 Z by
    have h2 := Holds.new (w.alloc (.cells Z.toArray 23)) 23 Z
    rwa [World.size_alloc] at h2)
  have hsz : w.heap.size + 1 < w1.heap.size := H1.out.2.1.lt
  have hsz0 : w.heap.size < w1.heap.size := by omega
  clear hw
  go_enter Tryd.func8, Tryd.ntmps8
  go_wp2_with (first
    | (refine wpList_store_row (by rfl) 23 _ _ (by rfl) (w.heap.size + 1) Z.toArray (by rfl) (by rfl) _ _ H0.out Hs1.out (by rfl) Hone.out ?_; rw [Hw.out])
    | fail)
  refine (HR.out _).mono ?_
  rintro e w' ⟨rfl, rfl⟩
  have Hnew := Lib.hid (Holds.new w1 23 Z)
  have Hp := Lib.hid (show Rp w (w.heap.size + 1) w1.heap.size Z (Z.set 12 (.int .i64 2)) (w1.alloc (.cells (Z.set 12 (.int .i64 2)).toArray 23)) from ⟨H1.out.1.behind _, H1.out.2.1.behind _, Holds.new _ _ _, H1.out.2.2.alloc H1.out.2.2.size _, by omega, hsz⟩)
  have hlen : (Z.set 12 (Value.int .i64 2)).length = 13 := by rw [List.length_set]; exact hzl
  have Hlen := Lib.hid hlen
  clear hlen
  go_wp2_with (first
    | (refine wpList_store_row (by rfl) 23 _ _ (by rfl) w1.heap.size Z.toArray (by rfl) (by rfl) _ _ Hnew.out Hs1.out (by rfl) Hone.out ?_; rw [World.setRow_alloc_new])
    | fail)
  clear Hnew
  generalize w1.alloc (.cells (Z.set 12 (.int .i64 2)).toArray 23) = wa at *
  generalize w1.heap.size = g at *
  have hgz : w.heap.size < g := hsz0
  clear hsz
  refine (Hn0.out _).mono ?_
  rintro e w' ⟨rfl, rfl⟩
  have co := Hp.out.cell 3 (by rw [Hlen.out]; omega)
  have cf := Hp.out.2.2.1.frozen 3
  have Hq := Lib.hid (Hp.out.put 3 (.int .i64 v0))
  have Hlen2 := Lib.hid (show ((_ : List Value).set 3 (.int .i64 v0)).length = 13 from (List.length_set).trans Hlen.out)
  clear Hp Hlen
  have Hp := Hq
  have Hlen := Hlen2
  clear Hq Hlen2
  by_cases hx : e0 = 0
  rotate_left
  · obtain ⟨q1, q2⟩ := He0.out  hx
    have q1 := Lib.hid q1
    have q2 := Lib.hid q2
    have ex : (e0 == 0) = false := by rw [beq_eq_false_iff_ne]; exact hx
    clear hx
    go_wp2_with (first
      | (refine wpList_load_row (by rfl) 23 _ (by rfl) (w.heap.size + 1) (by rfl) _ _ _ _ Hp.out.2.1 Tryd.underlying23 rfl Hs1.out ?_)
      | (refine wpList_store_row (by rfl) 23 _ _ (by rfl) w.heap.size Z.toArray (by rfl) (by rfl) _ _ Hp.out.1 Hs1.out (by rfl) Hone.out ?_)
      | fail)
    exact bodyPost_ret (results_row2 Tryd.results8 _ _ w.heap.size _ Z.toArray _ _ _ (by rfl) (by rfl) (setRow_heap _ _ _ _ _ _ Hp.out.1) Tryd.underlying23 rfl Hs1.out) rfl ⟨below_setRow Hp.out.2.2.2.1 (Nat.le_refl _) _, by rw [q1.out, q2.out]; rfl⟩
  subst hx
  clear Hn0 He0
  go_wp2_with fail
  clear co cf
  generalize wa.setCell ⟨g, 3, none⟩ (.int .i64 v0) = wx1 at *
  refine (Hn1.out _).mono ?_
  rintro e w' ⟨rfl, rfl⟩
  have co := Hp.out.cell 4 (by rw [Hlen.out]; omega)
  have cf := Hp.out.2.2.1.frozen 4
  have Hq := Lib.hid (Hp.out.put 4 (.int .i64 v1))
  have Hlen2 := Lib.hid (show ((_ : List Value).set 4 (.int .i64 v1)).length = 13 from (List.length_set).trans Hlen.out)
  clear Hp Hlen
  have Hp := Hq
  have Hlen := Hlen2
  clear Hq Hlen2
  by_cases hx : e1 = 0
  rotate_left
  · obtain ⟨q1, q2⟩ := He1.out (by trivial) hx
    have q1 := Lib.hid q1
    have q2 := Lib.hid q2
    have ex : (e1 == 0) = false := by rw [beq_eq_false_iff_ne]; exact hx
    clear hx
    go_wp2_with (first
      | (refine wpList_load_row (by rfl) 23 _ (by rfl) (w.heap.size + 1) (by rfl) _ _ _ _ Hp.out.2.1 Tryd.underlying23 rfl Hs1.out ?_)
      | (refine wpList_store_row (by rfl) 23 _ _ (by rfl) w.heap.size Z.toArray (by rfl) (by rfl) _ _ Hp.out.1 Hs1.out (by rfl) Hone.out ?_)
      | fail)
    exact bodyPost_ret (results_row2 Tryd.results8 _ _ w.heap.size _ Z.toArray _ _ _ (by rfl) (by rfl) (setRow_heap _ _ _ _ _ _ Hp.out.1) Tryd.underlying23 rfl Hs1.out) rfl ⟨below_setRow Hp.out.2.2.2.1 (Nat.le_refl _) _, by rw [q1.out, q2.out]; rfl⟩
  subst hx
  clear Hn1 He1
  go_wp2_with fail
  clear co cf
  generalize wx1.setCell ⟨g, 4, none⟩ (.int .i64 v1) = wx2 at *
  refine (Hn2.out _).mono ?_
  rintro e w' ⟨rfl, rfl⟩
  have co := Hp.out.cell 5 (by rw [Hlen.out]; omega)
  have cf := Hp.out.2.2.1.frozen 5
  have Hq := Lib.hid (Hp.out.put 5 (.int .i64 v2))
  have Hlen2 := Lib.hid (show ((_ : List Value).set 5 (.int .i64 v2)).length = 13 from (List.length_set).trans Hlen.out)
  clear Hp Hlen
  have Hp := Hq
  have Hlen := Hlen2
  clear Hq Hlen2
  by_cases hx : e2 = 0
  rotate_left
  · obtain ⟨q1, q2⟩ := He2.out (by trivial) (by trivial) hx
    have q1 := Lib.hid q1
    have q2 := Lib.hid q2
    have ex : (e2 == 0) = false := by rw [beq_eq_false_iff_ne]; exact hx
    clear hx
    go_wp2_with (first
      | (refine wpList_load_row (by rfl) 23 _ (by rfl) (w.heap.size + 1) (by rfl) _ _ _ _ Hp.out.2.1 Tryd.underlying23 rfl Hs1.out ?_)
      | (refine wpList_store_row (by rfl) 23 _ _ (by rfl) w.heap.size Z.toArray (by rfl) (by rfl) _ _ Hp.out.1 Hs1.out (by rfl) Hone.out ?_)
      | fail)
    exact bodyPost_ret (results_row2 Tryd.results8 _ _ w.heap.size _ Z.toArray _ _ _ (by rfl) (by rfl) (setRow_heap _ _ _ _ _ _ Hp.out.1) Tryd.underlying23 rfl Hs1.out) rfl ⟨below_setRow Hp.out.2.2.2.1 (Nat.le_refl _) _, by rw [q1.out, q2.out]; rfl⟩
  subst hx
  clear Hn2 He2
  go_wp2_with fail
  clear co cf
  generalize wx2.setCell ⟨g, 5, none⟩ (.int .i64 v2) = wx3 at *
  refine (Hn3.out _).mono ?_
  rintro e w' ⟨rfl, rfl⟩
  have co := Hp.out.cell 6 (by rw [Hlen.out]; omega)
  have cf := Hp.out.2.2.1.frozen 6
  have Hq := Lib.hid (Hp.out.put 6 (.int .i64 v3))
  have Hlen2 := Lib.hid (show ((_ : List Value).set 6 (.int .i64 v3)).length = 13 from (List.length_set).trans Hlen.out)
  clear Hp Hlen
  have Hp := Hq
  have Hlen := Hlen2
  clear Hq Hlen2
  by_cases hx : e3 = 0
  rotate_left
  · obtain ⟨q1, q2⟩ := He3.out (by trivial) (by trivial) (by trivial) hx
    have q1 := Lib.hid q1
    have q2 := Lib.hid q2
    have ex : (e3 == 0) = false := by rw [beq_eq_false_iff_ne]; exact hx
    clear hx
    go_wp2_with (first
      | (refine wpList_load_row (by rfl) 23 _ (by rfl) (w.heap.size + 1) (by rfl) _ _ _ _ Hp.out.2.1 Tryd.underlying23 rfl Hs1.out ?_)
      | (refine wpList_store_row (by rfl) 23 _ _ (by rfl) w.heap.size Z.toArray (by rfl) (by rfl) _ _ Hp.out.1 Hs1.out (by rfl) Hone.out ?_)
      | fail)
    exact bodyPost_ret (results_row2 Tryd.results8 _ _ w.heap.size _ Z.toArray _ _ _ (by rfl) (by rfl) (setRow_heap _ _ _ _ _ _ Hp.out.1) Tryd.underlying23 rfl Hs1.out) rfl ⟨below_setRow Hp.out.2.2.2.1 (Nat.le_refl _) _, by rw [q1.out, q2.out]; rfl⟩
  subst hx
  clear Hn3 He3
  go_wp2_with fail
  clear co cf
  generalize wx3.setCell ⟨g, 6, none⟩ (.int .i64 v3) = wx4 at *
  refine (Hn4.out _).mono ?_
  rintro e w' ⟨rfl, rfl⟩
  have co := Hp.out.cell 7 (by rw [Hlen.out]; omega)
  have cf := Hp.out.2.2.1.frozen 7
  have Hq := Lib.hid (Hp.out.put 7 (.int .i64 v4))
  have Hlen2 := Lib.hid (show ((_ : List Value).set 7 (.int .i64 v4)).length = 13 from (List.length_set).trans Hlen.out)
  clear Hp Hlen
  have Hp := Hq
  have Hlen := Hlen2
  clear Hq Hlen2
  by_cases hx : e4 = 0
  rotate_left
  · obtain ⟨q1, q2⟩ := He4.out (by trivial) (by trivial) (by trivial) (by trivial) hx
    have q1 := Lib.hid q1
    have q2 := Lib.hid q2
    have ex : (e4 == 0) = false := by rw [beq_eq_false_iff_ne]; exact hx
    clear hx
    go_wp2_with (first
      | (refine wpList_load_row (by rfl) 23 _ (by rfl) (w.heap.size + 1) (by rfl) _ _ _ _ Hp.out.2.1 Tryd.underlying23 rfl Hs1.out ?_)
      | (refine wpList_store_row (by rfl) 23 _ _ (by rfl) w.heap.size Z.toArray (by rfl) (by rfl) _ _ Hp.out.1 Hs1.out (by rfl) Hone.out ?_)
      | fail)
    exact bodyPost_ret (results_row2 Tryd.results8 _ _ w.heap.size _ Z.toArray _ _ _ (by rfl) (by rfl) (setRow_heap _ _ _ _ _ _ Hp.out.1) Tryd.underlying23 rfl Hs1.out) rfl ⟨below_setRow Hp.out.2.2.2.1 (Nat.le_refl _) _, by rw [q1.out, q2.out]; rfl⟩
  subst hx
  clear Hn4 He4
  have c12 : (wx4.setCell ⟨g, 7, none⟩ (.int .i64 v4)).cell? ⟨g, 12, none⟩ = some (.int .i64 2) := Hp.out.2.2.1.at (by simp [hzl])
  go_wp2_with fail
  clear co cf c12
  generalize wx4.setCell ⟨g, 7, none⟩ (.int .i64 v4) = wx5 at *
  refine (Hn5.out _).mono ?_
  rintro e w' ⟨rfl, rfl⟩
  have co := Hp.out.cell 10 (by rw [Hlen.out]; omega)
  have cf := Hp.out.2.2.1.frozen 10
  have Hq := Lib.hid (Hp.out.put 10 (.int .i64 v5))
  have Hlen2 := Lib.hid (show ((_ : List Value).set 10 (.int .i64 v5)).length = 13 from (List.length_set).trans Hlen.out)
  clear Hp Hlen
  have Hp := Hq
  have Hlen := Hlen2
  clear Hq Hlen2
  by_cases hx : e5 = 0
  rotate_left
  · obtain ⟨q1, q2⟩ := He5.out (by trivial) (by trivial) (by trivial) (by trivial) (by trivial) hx
    have q1 := Lib.hid q1
    have q2 := Lib.hid q2
    have ex : (e5 == 0) = false := by rw [beq_eq_false_iff_ne]; exact hx
    clear hx
    go_wp2_with (first
      | (refine wpList_load_row (by rfl) 23 _ (by rfl) (w.heap.size + 1) (by rfl) _ _ _ _ Hp.out.2.1 Tryd.underlying23 rfl Hs1.out ?_)
      | (refine wpList_store_row (by rfl) 23 _ _ (by rfl) w.heap.size Z.toArray (by rfl) (by rfl) _ _ Hp.out.1 Hs1.out (by rfl) Hone.out ?_)
      | fail)
    exact bodyPost_ret (results_row2 Tryd.results8 _ _ w.heap.size _ Z.toArray _ _ _ (by rfl) (by rfl) (setRow_heap _ _ _ _ _ _ Hp.out.1) Tryd.underlying23 rfl Hs1.out) rfl ⟨below_setRow Hp.out.2.2.2.1 (Nat.le_refl _) _, by rw [q1.out, q2.out]; rfl⟩
  subst hx
  clear Hn5 He5
  go_wp2_with fail
  clear co cf
  generalize wx5.setCell ⟨g, 10, none⟩ (.int .i64 v5) = wx6 at *
  refine (Hn6.out _).mono ?_
  rintro e w' ⟨rfl, rfl⟩
  have co := Hp.out.cell 11 (by rw [Hlen.out]; omega)
  have cf := Hp.out.2.2.1.frozen 11
  have Hq := Lib.hid (Hp.out.put 11 (.int .i64 v6))
  have Hlen2 := Lib.hid (show ((_ : List Value).set 11 (.int .i64 v6)).length = 13 from (List.length_set).trans Hlen.out)
  clear Hp Hlen
  have Hp := Hq
  have Hlen := Hlen2
  clear Hq Hlen2
  by_cases hx : e6 = 0
  rotate_left
  · obtain ⟨q1, q2⟩ := He6.out (by trivial) (by trivial) (by trivial) (by trivial) (by trivial) (by trivial) hx
    have q1 := Lib.hid q1
    have q2 := Lib.hid q2
    have ex : (e6 == 0) = false := by rw [beq_eq_false_iff_ne]; exact hx
    clear hx
    go_wp2_with (first
      | (refine wpList_load_row (by rfl) 23 _ (by rfl) (w.heap.size + 1) (by rfl) _ _ _ _ Hp.out.2.1 Tryd.underlying23 rfl Hs1.out ?_)
      | (refine wpList_store_row (by rfl) 23 _ _ (by rfl) w.heap.size Z.toArray (by rfl) (by rfl) _ _ Hp.out.1 Hs1.out (by rfl) Hone.out ?_)
      | fail)
    exact bodyPost_ret (results_row2 Tryd.results8 _ _ w.heap.size _ Z.toArray _ _ _ (by rfl) (by rfl) (setRow_heap _ _ _ _ _ _ Hp.out.1) Tryd.underlying23 rfl Hs1.out) rfl ⟨below_setRow Hp.out.2.2.2.1 (Nat.le_refl _) _, by rw [q1.out, q2.out]; rfl⟩
  subst hx
  clear Hn6 He6
  go_wp2_with fail
  clear co cf
  generalize wx6.setCell ⟨g, 11, none⟩ (.int .i64 v6) = wx7 at *
  refine (Htu.out _).mono ?_
  rintro e w' ⟨rfl, rfl⟩
  have co := Hp.out.cell 8 (by rw [Hlen.out]; omega)
  have cf := Hp.out.2.2.1.frozen 8
  have Hq := Lib.hid (Hp.out.put 8 (.string ⟨tu.toArray⟩))
  have Hlen2 := Lib.hid (show ((_ : List Value).set 8 (.string ⟨tu.toArray⟩)).length = 13 from (List.length_set).trans Hlen.out)
  clear Hp Hlen
  have Hp := Hq
  have Hlen := Hlen2
  clear Hq Hlen2
  clear Htu
  go_wp2_with fail
  clear co cf
  generalize wx7.setCell ⟨g, 8, none⟩ (.string ⟨tu.toArray⟩) = wx8 at *
  refine (Htg.out _).mono ?_
  rintro e w' ⟨rfl, rfl⟩
  have co := Hp.out.cell 9 (by rw [Hlen.out]; omega)
  have cf := Hp.out.2.2.1.frozen 9
  have Hq := Lib.hid (Hp.out.put 9 (.string ⟨tg.toArray⟩))
  have Hlen2 := Lib.hid (show ((_ : List Value).set 9 (.string ⟨tg.toArray⟩)).length = 13 from (List.length_set).trans Hlen.out)
  clear Hp Hlen
  have Hp := Hq
  have Hlen := Hlen2
  clear Hq Hlen2
  clear Htg
  go_wp2_with fail
  clear co cf
  generalize wx8.setCell ⟨g, 9, none⟩ (.string ⟨tg.toArray⟩) = wx9 at *
  refine (Htn.out _).mono ?_
  rintro e w' ⟨rfl, rfl⟩
  have co := Hp.out.cell 0 (by rw [Hlen.out]; omega)
  have cf := Hp.out.2.2.1.frozen 0
  have Hq := Lib.hid (Hp.out.put 0 (.string ⟨tn.toArray⟩))
  have Hlen2 := Lib.hid (show ((_ : List Value).set 0 (.string ⟨tn.toArray⟩)).length = 13 from (List.length_set).trans Hlen.out)
  clear Hp Hlen
  have Hp := Hq
  have Hlen := Hlen2
  clear Hq Hlen2
  clear Htn
  go_wp2_with fail
  clear co cf
  generalize wx9.setCell ⟨g, 0, none⟩ (.string ⟨tn.toArray⟩) = wx10 at *
  refine (Htp.out _).mono ?_
  rintro e w' ⟨rfl, rfl⟩
  have c12 : wx10.cell? ⟨g, 12, none⟩ = some (.int .i64 2) := Hp.out.2.2.1.at (by simp [hzl])
  have c0 := Hp.out.2.2.1.cell (i := 0) (by rw [Hlen.out]; omega)
  rw [List.getElem_set_self] at c0
  have cf0 := Hp.out.2.2.1.frozen 0
  by_cases hp : tp = []
  · have ep : (tp == []) = true := by rw [hp]; rfl
    go_wp2_with fail
    clear c0 cf0
    refine (Htk.out _).mono ?_
    rintro e w' ⟨rfl, rfl⟩
    have co := Hp.out.cell 1 (by rw [Hlen.out]; omega)
    have cf := Hp.out.2.2.1.frozen 1
    have Hq := Lib.hid (Hp.out.put 1 (.string ⟨tk.toArray⟩))
    have Hlen2 := Lib.hid (show ((_ : List Value).set 1 (.string ⟨tk.toArray⟩)).length = 13 from (List.length_set).trans Hlen.out)
    clear Hp Hlen
    have co2 := Hq.out.cell 2 (by rw [Hlen2.out]; omega)
    have cf2 := Hq.out.2.2.1.frozen 2
    have Hr := Lib.hid (Hq.out.put 2 (.int .u8 kb.toNat))
    have Hlen3 := Lib.hid (show ((_ : List Value).set 2 (.int .u8 kb.toNat)).length = 13 from (List.length_set).trans Hlen2.out)
    have ck := Hr.out.2.2.1.cell (i := 2) (by rw [Hlen3.out]; omega)
    rw [List.getElem_set_self] at ck
    have cfk := Hr.out.2.2.1.frozen 2
    clear Hq Hlen2
    by_cases hk : (kb.toNat : Int) = 0
    · have ek : ((kb.toNat : Int) == 0) = true := by rw [hk]; rfl
      have Hs := Lib.hid (Hr.out.put 2 (.int .u8 48))
      have q1 := (Hok.out (by trivial) (by trivial) (by trivial) (by trivial) (by trivial) (by trivial) (by trivial)).1 hp hk
      have q2 := (Hok.out (by trivial) (by trivial) (by trivial) (by trivial) (by trivial) (by trivial) (by trivial)).2.2.2.2
      have Q1 := Lib.hid q1
      have Q2 := Lib.hid q2
      clear q1 q2 hk Hr Hlen3
      rw [← Q1.out] at Hs
      go_wp2_with (first
        | (refine wpList_load_row (by rfl) 23 _ (by rfl) g (by rfl) _ _ _ _ Hs.out.2.2.1 Tryd.underlying23 rfl HRsz.out ?_)
        | (refine wpList_store_row (by rfl) 23 _ _ (by rfl) w.heap.size RC.toArray (by rfl) (by rfl) _ _ Hs.out.1 HRsz.out HZR.out HRo.out ?_)
        | fail)
      exact bodyPost_ret (results_row2 Tryd.results8 _ _ w.heap.size _ RC.toArray _ _ _ (by rfl) (by rfl) (setRow_heap _ _ _ _ _ _ Hs.out.1) Tryd.underlying23 rfl HRsz.out) rfl ⟨below_setRow Hs.out.2.2.2.1 (Nat.le_refl _) _, by rw [Q2.out]; rfl⟩
    · have ek : ((kb.toNat : Int) == 0) = false := by rw [beq_eq_false_iff_ne]; exact hk
      have q1 := (Hok.out (by trivial) (by trivial) (by trivial) (by trivial) (by trivial) (by trivial) (by trivial)).2.1 hp hk
      have q2 := (Hok.out (by trivial) (by trivial) (by trivial) (by trivial) (by trivial) (by trivial) (by trivial)).2.2.2.2
      have Q1 := Lib.hid q1
      have Q2 := Lib.hid q2
      clear q1 q2 hk
      rw [← Q1.out] at Hr
      go_wp2_with (first
        | (refine wpList_load_row (by rfl) 23 _ (by rfl) g (by rfl) _ _ _ _ Hr.out.2.2.1 Tryd.underlying23 rfl HRsz.out ?_)
        | (refine wpList_store_row (by rfl) 23 _ _ (by rfl) w.heap.size RC.toArray (by rfl) (by rfl) _ _ Hr.out.1 HRsz.out HZR.out HRo.out ?_)
        | fail)
      exact bodyPost_ret (results_row2 Tryd.results8 _ _ w.heap.size _ RC.toArray _ _ _ (by rfl) (by rfl) (setRow_heap _ _ _ _ _ _ Hr.out.1) Tryd.underlying23 rfl HRsz.out) rfl ⟨below_setRow Hr.out.2.2.2.1 (Nat.le_refl _) _, by rw [Q2.out]; rfl⟩
  · have ep : (tp == []) = false := by simpa using hp
    have Hq0 := Lib.hid (Hp.out.put 0 (.string ⟨(tp ++ 47 :: tn).toArray⟩))
    have Hlen0 := Lib.hid (show ((_ : List Value).set 0 (.string ⟨(tp ++ 47 :: tn).toArray⟩)).length = 13 from (List.length_set).trans Hlen.out)
    clear Hp Hlen
    have Hp := Hq0
    have Hlen := Hlen0
    clear Hq0 Hlen0
    go_wp2_with fail
    clear c0 cf0 c12
    generalize wx10.setCell ⟨g, 0, none⟩ (.string ⟨(tp ++ 47 :: tn).toArray⟩) = wz at *
    refine (Htk.out _).mono ?_
    rintro e w' ⟨rfl, rfl⟩
    have co := Hp.out.cell 1 (by rw [Hlen.out]; omega)
    have cf := Hp.out.2.2.1.frozen 1
    have Hq := Lib.hid (Hp.out.put 1 (.string ⟨tk.toArray⟩))
    have Hlen2 := Lib.hid (show ((_ : List Value).set 1 (.string ⟨tk.toArray⟩)).length = 13 from (List.length_set).trans Hlen.out)
    clear Hp Hlen
    have co2 := Hq.out.cell 2 (by rw [Hlen2.out]; omega)
    have cf2 := Hq.out.2.2.1.frozen 2
    have Hr := Lib.hid (Hq.out.put 2 (.int .u8 kb.toNat))
    have Hlen3 := Lib.hid (show ((_ : List Value).set 2 (.int .u8 kb.toNat)).length = 13 from (List.length_set).trans Hlen2.out)
    have ck := Hr.out.2.2.1.cell (i := 2) (by rw [Hlen3.out]; omega)
    rw [List.getElem_set_self] at ck
    have cfk := Hr.out.2.2.1.frozen 2
    clear Hq Hlen2
    by_cases hk : (kb.toNat : Int) = 0
    · have ek : ((kb.toNat : Int) == 0) = true := by rw [hk]; rfl
      have Hs := Lib.hid (Hr.out.put 2 (.int .u8 48))
      have q1 := (Hok.out (by trivial) (by trivial) (by trivial) (by trivial) (by trivial) (by trivial) (by trivial)).2.2.1 hp hk
      have q2 := (Hok.out (by trivial) (by trivial) (by trivial) (by trivial) (by trivial) (by trivial) (by trivial)).2.2.2.2
      have Q1 := Lib.hid q1
      have Q2 := Lib.hid q2
      clear q1 q2 hk Hr Hlen3
      rw [← Q1.out] at Hs
      go_wp2_with (first
        | (refine wpList_load_row (by rfl) 23 _ (by rfl) g (by rfl) _ _ _ _ Hs.out.2.2.1 Tryd.underlying23 rfl HRsz.out ?_)
        | (refine wpList_store_row (by rfl) 23 _ _ (by rfl) w.heap.size RC.toArray (by rfl) (by rfl) _ _ Hs.out.1 HRsz.out HZR.out HRo.out ?_)
        | fail)
      exact bodyPost_ret (results_row2 Tryd.results8 _ _ w.heap.size _ RC.toArray _ _ _ (by rfl) (by rfl) (setRow_heap _ _ _ _ _ _ Hs.out.1) Tryd.underlying23 rfl HRsz.out) rfl ⟨below_setRow Hs.out.2.2.2.1 (Nat.le_refl _) _, by rw [Q2.out]; rfl⟩
    · have ek : ((kb.toNat : Int) == 0) = false := by rw [beq_eq_false_iff_ne]; exact hk
      have q1 := (Hok.out (by trivial) (by trivial) (by trivial) (by trivial) (by trivial) (by trivial) (by trivial)).2.2.2.1 hp hk
      have q2 := (Hok.out (by trivial) (by trivial) (by trivial) (by trivial) (by trivial) (by trivial) (by trivial)).2.2.2.2
      have Q1 := Lib.hid q1
      have Q2 := Lib.hid q2
      clear q1 q2 hk
      rw [← Q1.out] at Hr
      go_wp2_with (first
        | (refine wpList_load_row (by rfl) 23 _ (by rfl) g (by rfl) _ _ _ _ Hr.out.2.2.1 Tryd.underlying23 rfl HRsz.out ?_)
        | (refine wpList_store_row (by rfl) 23 _ _ (by rfl) w.heap.size RC.toArray (by rfl) (by rfl) _ _ Hr.out.1 HRsz.out HZR.out HRo.out ?_)
        | fail)
      exact bodyPost_ret (results_row2 Tryd.results8 _ _ w.heap.size _ RC.toArray _ _ _ (by rfl) (by rfl) (setRow_heap _ _ _ _ _ _ Hr.out.1) Tryd.underlying23 rfl HRsz.out) rfl ⟨below_setRow Hr.out.2.2.2.1 (Nat.le_refl _) _, by rw [Q2.out]; rfl⟩
set_option maxRecDepth 100000 in
set_option maxHeartbeats 2000000 in
theorem refParse_3 (l m9 : List UInt8) (w : World) (hl : l.length = 512) (Z RC : List Value) (RI : Int) (v0 v1 v2 v3 v4 v5 v6 e0 e1 e2 e3 e4 e5 e6 : Int)
    (Hn0 : Hid (∀ w : World, Calls Tryd.prog 23 #[.string ⟨l.toArray⟩, .int .i64 100, .int .i64 8, .bool false] w fun e w' => w = w' ∧ e = .returned (.tuple #[.int .i64 v0, .int .i64 e0])))
    (He0 : Hid (e0 ≠ 0 → RC = Z ∧ RI = e0))
    (Hn1 : Hid (∀ w : World, Calls Tryd.prog 23 #[.string ⟨l.toArray⟩, .int .i64 108, .int .i64 8, .bool false] w fun e w' => w = w' ∧ e = .returned (.tuple #[.int .i64 v1, .int .i64 e1])))
    (He1 : Hid (e0 = 0 → e1 ≠ 0 → RC = Z ∧ RI = e1))
    (Hn2 : Hid (∀ w : World, Calls Tryd.prog 23 #[.string ⟨l.toArray⟩, .int .i64 116, .int .i64 8, .bool false] w fun e w' => w = w' ∧ e = .returned (.tuple #[.int .i64 v2, .int .i64 e2])))
    (He2 : Hid (e0 = 0 → e1 = 0 → e2 ≠ 0 → RC = Z ∧ RI = e2))
    (Hn3 : Hid (∀ w : World, Calls Tryd.prog 23 #[.string ⟨l.toArray⟩, .int .i64 124, .int .i64 12, .bool false] w fun e w' => w = w' ∧ e = .returned (.tuple #[.int .i64 v3, .int .i64 e3])))
    (He3 : Hid (e0 = 0 → e1 = 0 → e2 = 0 → e3 ≠ 0 → RC = Z ∧ RI = e3))
    (Hn4 : Hid (∀ w : World, Calls Tryd.prog 23 #[.string ⟨l.toArray⟩, .int .i64 136, .int .i64 12, .bool true] w fun e w' => w = w' ∧ e = .returned (.tuple #[.int .i64 v4, .int .i64 e4])))
    (He4 : Hid (e0 = 0 → e1 = 0 → e2 = 0 → e3 = 0 → e4 ≠ 0 → RC = Z ∧ RI = e4))
    (Hn5 : Hid (∀ w : World, Calls Tryd.prog 23 #[.string ⟨l.toArray⟩, .int .i64 329, .int .i64 8, .bool false] w fun e w' => w = w' ∧ e = .returned (.tuple #[.int .i64 v5, .int .i64 e5])))
    (He5 : Hid (e0 = 0 → e1 = 0 → e2 = 0 → e3 = 0 → e4 = 0 → e5 ≠ 0 → RC = Z ∧ RI = e5))
    (Hn6 : Hid (∀ w : World, Calls Tryd.prog 23 #[.string ⟨l.toArray⟩, .int .i64 337, .int .i64 8, .bool false] w fun e w' => w = w' ∧ e = .returned (.tuple #[.int .i64 v6, .int .i64 e6])))
    (He6 : Hid (e0 = 0 → e1 = 0 → e2 = 0 → e3 = 0 → e4 = 0 → e5 = 0 → e6 ≠ 0 → RC = Z ∧ RI = e6))
    (fu fg fn fp fk tu tg tn tp tk : List UInt8) (kb : UInt8)
    (hsu : ∀ W : World, (Instr.slice 9 (.string ⟨l.toArray⟩) (some (.int .i64 265)) (some (.int .i64 297)) none).run Tryd.prog W = .ok (.string ⟨fu.toArray⟩) W)
    (Htu : Hid (∀ w : World, Calls Tryd.prog 24 #[.string ⟨fu.toArray⟩] w fun e w' => w = w' ∧ e = .returned (.string ⟨tu.toArray⟩)))
    (hsg : ∀ W : World, (Instr.slice 9 (.string ⟨l.toArray⟩) (some (.int .i64 297)) (some (.int .i64 329)) none).run Tryd.prog W = .ok (.string ⟨fg.toArray⟩) W)
    (Htg : Hid (∀ w : World, Calls Tryd.prog 24 #[.string ⟨fg.toArray⟩] w fun e w' => w = w' ∧ e = .returned (.string ⟨tg.toArray⟩)))
    (hsn : ∀ W : World, (Instr.slice 9 (.string ⟨l.toArray⟩) none (some (.int .i64 100)) none).run Tryd.prog W = .ok (.string ⟨fn.toArray⟩) W)
    (Htn : Hid (∀ w : World, Calls Tryd.prog 24 #[.string ⟨fn.toArray⟩] w fun e w' => w = w' ∧ e = .returned (.string ⟨tn.toArray⟩)))
    (hsp : ∀ W : World, (Instr.slice 9 (.string ⟨l.toArray⟩) (some (.int .i64 345)) (some (.int .i64 500)) none).run Tryd.prog W = .ok (.string ⟨fp.toArray⟩) W)
    (Htp : Hid (∀ w : World, Calls Tryd.prog 24 #[.string ⟨fp.toArray⟩] w fun e w' => w = w' ∧ e = .returned (.string ⟨tp.toArray⟩)))
    (hsk : ∀ W : World, (Instr.slice 9 (.string ⟨l.toArray⟩) (some (.int .i64 157)) (some (.int .i64 257)) none).run Tryd.prog W = .ok (.string ⟨fk.toArray⟩) W)
    (Htk : Hid (∀ w : World, Calls Tryd.prog 24 #[.string ⟨fk.toArray⟩] w fun e w' => w = w' ∧ e = .returned (.string ⟨tk.toArray⟩)))
    (hs9 : ∀ W : World, (Instr.slice 9 (.string ⟨l.toArray⟩) (some (.int .i64 257)) (some (.int .i64 265)) none).run Tryd.prog W = .ok (.string ⟨m9.toArray⟩) W)
    (m1 : (m9 == [117, 115, 116, 97, 114, 0, 48, 48]) = false) (m2 : (m9 == [117, 115, 116, 97, 114, 32, 32, 0]) = true)
    (HR : Hid (∀ w : World, Calls Tryd.prog 21 #[.string ⟨l.toArray⟩] w fun e w' => w = w' ∧ e = .returned (.bool true)))
    (hkb : l[156]'(by omega) = kb) (HZ : Hid (Z = Hd.zero.cells))
    (Hok : Hid (e0 = 0 → e1 = 0 → e2 = 0 → e3 = 0 → e4 = 0 → e5 = 0 → e6 = 0 → ((kb.toNat : Int) = 0 → RC = (((((((((((((Z.set 12 (.int .i64 3)).set 3 (.int .i64 v0)).set 4 (.int .i64 v1)).set 5 (.int .i64 v2)).set 6 (.int .i64 v3)).set 7 (.int .i64 v4)).set 10 (.int .i64 v5)).set 11 (.int .i64 v6)).set 8 (.string ⟨tu.toArray⟩)).set 9 (.string ⟨tg.toArray⟩)).set 0 (.string ⟨tn.toArray⟩)).set 1 (.string ⟨tk.toArray⟩)).set 2 (.int .u8 kb.toNat)).set 2 (.int .u8 48)) ∧ ((kb.toNat : Int) ≠ 0 → RC = ((((((((((((Z.set 12 (.int .i64 3)).set 3 (.int .i64 v0)).set 4 (.int .i64 v1)).set 5 (.int .i64 v2)).set 6 (.int .i64 v3)).set 7 (.int .i64 v4)).set 10 (.int .i64 v5)).set 11 (.int .i64 v6)).set 8 (.string ⟨tu.toArray⟩)).set 9 (.string ⟨tg.toArray⟩)).set 0 (.string ⟨tn.toArray⟩)).set 1 (.string ⟨tk.toArray⟩)).set 2 (.int .u8 kb.toNat)) ∧ RI = 0))
    (HRs : Hid (RC.length = 13)) (HRo : Hid (RC.toArray.all (·.oneCell') = true)) :
    Calls Tryd.prog 8 #[.string ⟨l.toArray⟩] w fun e w' => Below w.heap.size w w' ∧ e = .returned (.tuple #[.agg RC.toArray, .int .i64 RI]) := by
  have hz := (zero_of_info info_head).1
  have Hs1 := Lib.hid (head_size Hd.zero)
  have Hone := Lib.hid Hd.zero.cells_one
  rw [← HZ.out] at hz Hs1 Hone
  have hzl : Z.length = 13 := by rw [HZ.out]; rfl
  have HRsz := Lib.hid (show (Tryd.prog.info? 23).map (·.size) = some RC.toArray.size by rw [List.size_toArray, HRs.out]; exact head_size Hd.zero)
  have HZR := Lib.hid (show Z.toArray.size = RC.toArray.size by rw [List.size_toArray, List.size_toArray, HRs.out, hzl])
  have eL : ((l.length : Int) == 512) = true := by rw [beq_iff_eq]; omega
  have hl156 : 156 < l.length := by omega
  obtain ⟨w1, hw⟩ : ∃ w1, ((w.alloc (.cells Z.toArray 23)).alloc (.cells Z.toArray 23)).setRow (w.heap.size + 1) Z.toArray = w1 := ⟨_, rfl⟩
  have Hw := Lib.hid hw
  have H1 := Lib.hid (show refStart w Z w1 by rw [← hw]; exact refStart_of w Z)
  have H0 := Lib.hid (show Holds ((w.alloc (.cells Z.toArray 23)).alloc (.cells Z.toArray 23)) (w.heap.size + 1) 23 Z by
    have h2 := Holds.new (w.alloc (.cells Z.toArray 23)) 23 Z
    rwa [World.size_alloc] at h2)
  have hsz : w.heap.size + 1 < w1.heap.size := H1.out.2.1.lt
  have hsz0 : w.heap.size < w1.heap.size := by omega
  clear hw
  go_enter Tryd.func8, Tryd.ntmps8
  go_wp2_with (first
    | (refine wpList_store_row (by rfl) 23 _ _ (by rfl) (w.heap.size + 1) Z.toArray (by rfl) (by rfl) _ _ H0.out Hs1.out (by rfl) Hone.out ?_; rw [Hw.out])
    | fail)
  refine (HR.out _).mono ?_
  rintro e w' ⟨rfl, rfl⟩
  have Hnew := Lib.hid (Holds.new w1 23 Z)
  have Hp := Lib.hid (show Rp w (w.heap.size + 1) w1.heap.size Z (Z.set 12 (.int .i64 3)) (w1.alloc (.cells (Z.set 12 (.int .i64 3)).toArray 23)) from ⟨H1.out.1.behind _, H1.out.2.1.behind _, Holds.new _ _ _, H1.out.2.2.alloc H1.out.2.2.size _, by omega, hsz⟩)
  have hlen : (Z.set 12 (Value.int .i64 3)).length = 13 := by rw [List.length_set]; exact hzl
  have Hlen := Lib.hid hlen
  clear hlen
  go_wp2_with (first
    | (refine wpList_store_row (by rfl) 23 _ _ (by rfl) w1.heap.size Z.toArray (by rfl) (by rfl) _ _ Hnew.out Hs1.out (by rfl) Hone.out ?_; rw [World.setRow_alloc_new])
    | fail)
  clear Hnew
  generalize w1.alloc (.cells (Z.set 12 (.int .i64 3)).toArray 23) = wa at *
  generalize w1.heap.size = g at *
  have hgz : w.heap.size < g := hsz0
  clear hsz
  refine (Hn0.out _).mono ?_
  rintro e w' ⟨rfl, rfl⟩
  have co := Hp.out.cell 3 (by rw [Hlen.out]; omega)
  have cf := Hp.out.2.2.1.frozen 3
  have Hq := Lib.hid (Hp.out.put 3 (.int .i64 v0))
  have Hlen2 := Lib.hid (show ((_ : List Value).set 3 (.int .i64 v0)).length = 13 from (List.length_set).trans Hlen.out)
  clear Hp Hlen
  have Hp := Hq
  have Hlen := Hlen2
  clear Hq Hlen2
  by_cases hx : e0 = 0
  rotate_left
  · obtain ⟨q1, q2⟩ := He0.out  hx
    have q1 := Lib.hid q1
    have q2 := Lib.hid q2
    have ex : (e0 == 0) = false := by rw [beq_eq_false_iff_ne]; exact hx
    clear hx
    go_wp2_with (first
      | (refine wpList_load_row (by rfl) 23 _ (by rfl) (w.heap.size + 1) (by rfl) _ _ _ _ Hp.out.2.1 Tryd.underlying23 rfl Hs1.out ?_)
      | (refine wpList_store_row (by rfl) 23 _ _ (by rfl) w.heap.size Z.toArray (by rfl) (by rfl) _ _ Hp.out.1 Hs1.out (by rfl) Hone.out ?_)
      | fail)
    exact bodyPost_ret (results_row2 Tryd.results8 _ _ w.heap.size _ Z.toArray _ _ _ (by rfl) (by rfl) (setRow_heap _ _ _ _ _ _ Hp.out.1) Tryd.underlying23 rfl Hs1.out) rfl ⟨below_setRow Hp.out.2.2.2.1 (Nat.le_refl _) _, by rw [q1.out, q2.out]; rfl⟩
  subst hx
  clear Hn0 He0
  go_wp2_with fail
  clear co cf
  generalize wa.setCell ⟨g, 3, none⟩ (.int .i64 v0) = wx1 at *
  refine (Hn1.out _).mono ?_
  rintro e w' ⟨rfl, rfl⟩
  have co := Hp.out.cell 4 (by rw [Hlen.out]; omega)
  have cf := Hp.out.2.2.1.frozen 4
  have Hq := Lib.hid (Hp.out.put 4 (.int .i64 v1))
  have Hlen2 := Lib.hid (show ((_ : List Value).set 4 (.int .i64 v1)).length = 13 from (List.length_set).trans Hlen.out)
  clear Hp Hlen
  have Hp := Hq
  have Hlen := Hlen2
  clear Hq Hlen2
  by_cases hx : e1 = 0
  rotate_left
  · obtain ⟨q1, q2⟩ := He1.out (by trivial) hx
    have q1 := Lib.hid q1
    have q2 := Lib.hid q2
    have ex : (e1 == 0) = false := by rw [beq_eq_false_iff_ne]; exact hx
    clear hx
    go_wp2_with (first
      | (refine wpList_load_row (by rfl) 23 _ (by rfl) (w.heap.size + 1) (by rfl) _ _ _ _ Hp.out.2.1 Tryd.underlying23 rfl Hs1.out ?_)
      | (refine wpList_store_row (by rfl) 23 _ _ (by rfl) w.heap.size Z.toArray (by rfl) (by rfl) _ _ Hp.out.1 Hs1.out (by rfl) Hone.out ?_)
      | fail)
    exact bodyPost_ret (results_row2 Tryd.results8 _ _ w.heap.size _ Z.toArray _ _ _ (by rfl) (by rfl) (setRow_heap _ _ _ _ _ _ Hp.out.1) Tryd.underlying23 rfl Hs1.out) rfl ⟨below_setRow Hp.out.2.2.2.1 (Nat.le_refl _) _, by rw [q1.out, q2.out]; rfl⟩
  subst hx
  clear Hn1 He1
  go_wp2_with fail
  clear co cf
  generalize wx1.setCell ⟨g, 4, none⟩ (.int .i64 v1) = wx2 at *
  refine (Hn2.out _).mono ?_
  rintro e w' ⟨rfl, rfl⟩
  have co := Hp.out.cell 5 (by rw [Hlen.out]; omega)
  have cf := Hp.out.2.2.1.frozen 5
  have Hq := Lib.hid (Hp.out.put 5 (.int .i64 v2))
  have Hlen2 := Lib.hid (show ((_ : List Value).set 5 (.int .i64 v2)).length = 13 from (List.length_set).trans Hlen.out)
  clear Hp Hlen
  have Hp := Hq
  have Hlen := Hlen2
  clear Hq Hlen2
  by_cases hx : e2 = 0
  rotate_left
  · obtain ⟨q1, q2⟩ := He2.out (by trivial) (by trivial) hx
    have q1 := Lib.hid q1
    have q2 := Lib.hid q2
    have ex : (e2 == 0) = false := by rw [beq_eq_false_iff_ne]; exact hx
    clear hx
    go_wp2_with (first
      | (refine wpList_load_row (by rfl) 23 _ (by rfl) (w.heap.size + 1) (by rfl) _ _ _ _ Hp.out.2.1 Tryd.underlying23 rfl Hs1.out ?_)
      | (refine wpList_store_row (by rfl) 23 _ _ (by rfl) w.heap.size Z.toArray (by rfl) (by rfl) _ _ Hp.out.1 Hs1.out (by rfl) Hone.out ?_)
      | fail)
    exact bodyPost_ret (results_row2 Tryd.results8 _ _ w.heap.size _ Z.toArray _ _ _ (by rfl) (by rfl) (setRow_heap _ _ _ _ _ _ Hp.out.1) Tryd.underlying23 rfl Hs1.out) rfl ⟨below_setRow Hp.out.2.2.2.1 (Nat.le_refl _) _, by rw [q1.out, q2.out]; rfl⟩
  subst hx
  clear Hn2 He2
  go_wp2_with fail
  clear co cf
  generalize wx2.setCell ⟨g, 5, none⟩ (.int .i64 v2) = wx3 at *
  refine (Hn3.out _).mono ?_
  rintro e w' ⟨rfl, rfl⟩
  have co := Hp.out.cell 6 (by rw [Hlen.out]; omega)
  have cf := Hp.out.2.2.1.frozen 6
  have Hq := Lib.hid (Hp.out.put 6 (.int .i64 v3))
  have Hlen2 := Lib.hid (show ((_ : List Value).set 6 (.int .i64 v3)).length = 13 from (List.length_set).trans Hlen.out)
  clear Hp Hlen
  have Hp := Hq
  have Hlen := Hlen2
  clear Hq Hlen2
  by_cases hx : e3 = 0
  rotate_left
  · obtain ⟨q1, q2⟩ := He3.out (by trivial) (by trivial) (by trivial) hx
    have q1 := Lib.hid q1
    have q2 := Lib.hid q2
    have ex : (e3 == 0) = false := by rw [beq_eq_false_iff_ne]; exact hx
    clear hx
    go_wp2_with (first
      | (refine wpList_load_row (by rfl) 23 _ (by rfl) (w.heap.size + 1) (by rfl) _ _ _ _ Hp.out.2.1 Tryd.underlying23 rfl Hs1.out ?_)
      | (refine wpList_store_row (by rfl) 23 _ _ (by rfl) w.heap.size Z.toArray (by rfl) (by rfl) _ _ Hp.out.1 Hs1.out (by rfl) Hone.out ?_)
      | fail)
    exact bodyPost_ret (results_row2 Tryd.results8 _ _ w.heap.size _ Z.toArray _ _ _ (by rfl) (by rfl) (setRow_heap _ _ _ _ _ _ Hp.out.1) Tryd.underlying23 rfl Hs1.out) rfl ⟨below_setRow Hp.out.2.2.2.1 (Nat.le_refl _) _, by rw [q1.out, q2.out]; rfl⟩
  subst hx
  clear Hn3 He3
  go_wp2_with fail
  clear co cf
  generalize wx3.setCell ⟨g, 6, none⟩ (.int .i64 v3) = wx4 at *
  refine (Hn4.out _).mono ?_
  rintro e w' ⟨rfl, rfl⟩
  have co := Hp.out.cell 7 (by rw [Hlen.out]; omega)
  have cf := Hp.out.2.2.1.frozen 7
  have Hq := Lib.hid (Hp.out.put 7 (.int .i64 v4))
  have Hlen2 := Lib.hid (show ((_ : List Value).set 7 (.int .i64 v4)).length = 13 from (List.length_set).trans Hlen.out)
  clear Hp Hlen
  have Hp := Hq
  have Hlen := Hlen2
  clear Hq Hlen2
  by_cases hx : e4 = 0
  rotate_left
  · obtain ⟨q1, q2⟩ := He4.out (by trivial) (by trivial) (by trivial) (by trivial) hx
    have q1 := Lib.hid q1
    have q2 := Lib.hid q2
    have ex : (e4 == 0) = false := by rw [beq_eq_false_iff_ne]; exact hx
    clear hx
    go_wp2_with (first
      | (refine wpList_load_row (by rfl) 23 _ (by rfl) (w.heap.size + 1) (by rfl) _ _ _ _ Hp.out.2.1 Tryd.underlying23 rfl Hs1.out ?_)
      | (refine wpList_store_row (by rfl) 23 _ _ (by rfl) w.heap.size Z.toArray (by rfl) (by rfl) _ _ Hp.out.1 Hs1.out (by rfl) Hone.out ?_)
      | fail)
    exact bodyPost_ret (results_row2 Tryd.results8 _ _ w.heap.size _ Z.toArray _ _ _ (by rfl) (by rfl) (setRow_heap _ _ _ _ _ _ Hp.out.1) Tryd.underlying23 rfl Hs1.out) rfl ⟨below_setRow Hp.out.2.2.2.1 (Nat.le_refl _) _, by rw [q1.out, q2.out]; rfl⟩
  subst hx
  clear Hn4 He4
  have c12 : (wx4.setCell ⟨g, 7, none⟩ (.int .i64 v4)).cell? ⟨g, 12, none⟩ = some (.int .i64 3) := Hp.out.2.2.1.at (by simp [hzl])
  go_wp2_with fail
  clear co cf c12
  generalize wx4.setCell ⟨g, 7, none⟩ (.int .i64 v4) = wx5 at *
  refine (Hn5.out _).mono ?_
  rintro e w' ⟨rfl, rfl⟩
  have co := Hp.out.cell 10 (by rw [Hlen.out]; omega)
  have cf := Hp.out.2.2.1.frozen 10
  have Hq := Lib.hid (Hp.out.put 10 (.int .i64 v5))
  have Hlen2 := Lib.hid (show ((_ : List Value).set 10 (.int .i64 v5)).length = 13 from (List.length_set).trans Hlen.out)
  clear Hp Hlen
  have Hp := Hq
  have Hlen := Hlen2
  clear Hq Hlen2
  by_cases hx : e5 = 0
  rotate_left
  · obtain ⟨q1, q2⟩ := He5.out (by trivial) (by trivial) (by trivial) (by trivial) (by trivial) hx
    have q1 := Lib.hid q1
    have q2 := Lib.hid q2
    have ex : (e5 == 0) = false := by rw [beq_eq_false_iff_ne]; exact hx
    clear hx
    go_wp2_with (first
      | (refine wpList_load_row (by rfl) 23 _ (by rfl) (w.heap.size + 1) (by rfl) _ _ _ _ Hp.out.2.1 Tryd.underlying23 rfl Hs1.out ?_)
      | (refine wpList_store_row (by rfl) 23 _ _ (by rfl) w.heap.size Z.toArray (by rfl) (by rfl) _ _ Hp.out.1 Hs1.out (by rfl) Hone.out ?_)
      | fail)
    exact bodyPost_ret (results_row2 Tryd.results8 _ _ w.heap.size _ Z.toArray _ _ _ (by rfl) (by rfl) (setRow_heap _ _ _ _ _ _ Hp.out.1) Tryd.underlying23 rfl Hs1.out) rfl ⟨below_setRow Hp.out.2.2.2.1 (Nat.le_refl _) _, by rw [q1.out, q2.out]; rfl⟩
  subst hx
  clear Hn5 He5
  go_wp2_with fail
  clear co cf
  generalize wx5.setCell ⟨g, 10, none⟩ (.int .i64 v5) = wx6 at *
  refine (Hn6.out _).mono ?_
  rintro e w' ⟨rfl, rfl⟩
  have co := Hp.out.cell 11 (by rw [Hlen.out]; omega)
  have cf := Hp.out.2.2.1.frozen 11
  have Hq := Lib.hid (Hp.out.put 11 (.int .i64 v6))
  have Hlen2 := Lib.hid (show ((_ : List Value).set 11 (.int .i64 v6)).length = 13 from (List.length_set).trans Hlen.out)
  clear Hp Hlen
  have Hp := Hq
  have Hlen := Hlen2
  clear Hq Hlen2
  by_cases hx : e6 = 0
  rotate_left
  · obtain ⟨q1, q2⟩ := He6.out (by trivial) (by trivial) (by trivial) (by trivial) (by trivial) (by trivial) hx
    have q1 := Lib.hid q1
    have q2 := Lib.hid q2
    have ex : (e6 == 0) = false := by rw [beq_eq_false_iff_ne]; exact hx
    clear hx
    go_wp2_with (first
      | (refine wpList_load_row (by rfl) 23 _ (by rfl) (w.heap.size + 1) (by rfl) _ _ _ _ Hp.out.2.1 Tryd.underlying23 rfl Hs1.out ?_)
      | (refine wpList_store_row (by rfl) 23 _ _ (by rfl) w.heap.size Z.toArray (by rfl) (by rfl) _ _ Hp.out.1 Hs1.out (by rfl) Hone.out ?_)
      | fail)
    exact bodyPost_ret (results_row2 Tryd.results8 _ _ w.heap.size _ Z.toArray _ _ _ (by rfl) (by rfl) (setRow_heap _ _ _ _ _ _ Hp.out.1) Tryd.underlying23 rfl Hs1.out) rfl ⟨below_setRow Hp.out.2.2.2.1 (Nat.le_refl _) _, by rw [q1.out, q2.out]; rfl⟩
  subst hx
  clear Hn6 He6
  go_wp2_with fail
  clear co cf
  generalize wx6.setCell ⟨g, 11, none⟩ (.int .i64 v6) = wx7 at *
  refine (Htu.out _).mono ?_
  rintro e w' ⟨rfl, rfl⟩
  have co := Hp.out.cell 8 (by rw [Hlen.out]; omega)
  have cf := Hp.out.2.2.1.frozen 8
  have Hq := Lib.hid (Hp.out.put 8 (.string ⟨tu.toArray⟩))
  have Hlen2 := Lib.hid (show ((_ : List Value).set 8 (.string ⟨tu.toArray⟩)).length = 13 from (List.length_set).trans Hlen.out)
  clear Hp Hlen
  have Hp := Hq
  have Hlen := Hlen2
  clear Hq Hlen2
  clear Htu
  go_wp2_with fail
  clear co cf
  generalize wx7.setCell ⟨g, 8, none⟩ (.string ⟨tu.toArray⟩) = wx8 at *
  refine (Htg.out _).mono ?_
  rintro e w' ⟨rfl, rfl⟩
  have co := Hp.out.cell 9 (by rw [Hlen.out]; omega)
  have cf := Hp.out.2.2.1.frozen 9
  have Hq := Lib.hid (Hp.out.put 9 (.string ⟨tg.toArray⟩))
  have Hlen2 := Lib.hid (show ((_ : List Value).set 9 (.string ⟨tg.toArray⟩)).length = 13 from (List.length_set).trans Hlen.out)
  clear Hp Hlen
  have Hp := Hq
  have Hlen := Hlen2
  clear Hq Hlen2
  clear Htg
  go_wp2_with fail
  clear co cf
  generalize wx8.setCell ⟨g, 9, none⟩ (.string ⟨tg.toArray⟩) = wx9 at *
  refine (Htn.out _).mono ?_
  rintro e w' ⟨rfl, rfl⟩
  have co := Hp.out.cell 0 (by rw [Hlen.out]; omega)
  have cf := Hp.out.2.2.1.frozen 0
  have Hq := Lib.hid (Hp.out.put 0 (.string ⟨tn.toArray⟩))
  have Hlen2 := Lib.hid (show ((_ : List Value).set 0 (.string ⟨tn.toArray⟩)).length = 13 from (List.length_set).trans Hlen.out)
  clear Hp Hlen
  have Hp := Hq
  have Hlen := Hlen2
  clear Hq Hlen2
  clear Htn
  go_wp2_with fail
  clear co cf
  generalize wx9.setCell ⟨g, 0, none⟩ (.string ⟨tn.toArray⟩) = wx10 at *
  refine (Htp.out _).mono ?_
  rintro e w' ⟨rfl, rfl⟩
  have c12 : wx10.cell? ⟨g, 12, none⟩ = some (.int .i64 3) := Hp.out.2.2.1.at (by simp [hzl])
  go_wp2_with fail
  refine (Htk.out _).mono ?_
  rintro e w' ⟨rfl, rfl⟩
  have co := Hp.out.cell 1 (by rw [Hlen.out]; omega)
  have cf := Hp.out.2.2.1.frozen 1
  have Hq := Lib.hid (Hp.out.put 1 (.string ⟨tk.toArray⟩))
  have Hlen2 := Lib.hid (show ((_ : List Value).set 1 (.string ⟨tk.toArray⟩)).length = 13 from (List.length_set).trans Hlen.out)
  clear Hp Hlen
  have co2 := Hq.out.cell 2 (by rw [Hlen2.out]; omega)
  have cf2 := Hq.out.2.2.1.frozen 2
  have Hr := Lib.hid (Hq.out.put 2 (.int .u8 kb.toNat))
  have Hlen3 := Lib.hid (show ((_ : List Value).set 2 (.int .u8 kb.toNat)).length = 13 from (List.length_set).trans Hlen2.out)
  have ck := Hr.out.2.2.1.cell (i := 2) (by rw [Hlen3.out]; omega)
  rw [List.getElem_set_self] at ck
  have cfk := Hr.out.2.2.1.frozen 2
  clear Hq Hlen2
  by_cases hk : (kb.toNat : Int) = 0
  · have ek : ((kb.toNat : Int) == 0) = true := by rw [hk]; rfl
    have Hs := Lib.hid (Hr.out.put 2 (.int .u8 48))
    have q1 := (Hok.out (by trivial) (by trivial) (by trivial) (by trivial) (by trivial) (by trivial) (by trivial)).1 hk
    have q2 := (Hok.out (by trivial) (by trivial) (by trivial) (by trivial) (by trivial) (by trivial) (by trivial)).2.2
    have Q1 := Lib.hid q1
    have Q2 := Lib.hid q2
    clear q1 q2 hk Hr Hlen3
    rw [← Q1.out] at Hs
    go_wp2_with (first
      | (refine wpList_load_row (by rfl) 23 _ (by rfl) g (by rfl) _ _ _ _ Hs.out.2.2.1 Tryd.underlying23 rfl HRsz.out ?_)
      | (refine wpList_store_row (by rfl) 23 _ _ (by rfl) w.heap.size RC.toArray (by rfl) (by rfl) _ _ Hs.out.1 HRsz.out HZR.out HRo.out ?_)
      | fail)
    exact bodyPost_ret (results_row2 Tryd.results8 _ _ w.heap.size _ RC.toArray _ _ _ (by rfl) (by rfl) (setRow_heap _ _ _ _ _ _ Hs.out.1) Tryd.underlying23 rfl HRsz.out) rfl ⟨below_setRow Hs.out.2.2.2.1 (Nat.le_refl _) _, by rw [Q2.out]; rfl⟩
  · have ek : ((kb.toNat : Int) == 0) = false := by rw [beq_eq_false_iff_ne]; exact hk
    have q1 := (Hok.out (by trivial) (by trivial) (by trivial) (by trivial) (by trivial) (by trivial) (by trivial)).2.1 hk
    have q2 := (Hok.out (by trivial) (by trivial) (by trivial) (by trivial) (by trivial) (by trivial) (by trivial)).2.2
    have Q1 := Lib.hid q1
    have Q2 := Lib.hid q2
    clear q1 q2 hk
    rw [← Q1.out] at Hr
    go_wp2_with (first
      | (refine wpList_load_row (by rfl) 23 _ (by rfl) g (by rfl) _ _ _ _ Hr.out.2.2.1 Tryd.underlying23 rfl HRsz.out ?_)
      | (refine wpList_store_row (by rfl) 23 _ _ (by rfl) w.heap.size RC.toArray (by rfl) (by rfl) _ _ Hr.out.1 HRsz.out HZR.out HRo.out ?_)
      | fail)
    exact bodyPost_ret (results_row2 Tryd.results8 _ _ w.heap.size _ RC.toArray _ _ _ (by rfl) (by rfl) (setRow_heap _ _ _ _ _ _ Hr.out.1) Tryd.underlying23 rfl HRsz.out) rfl ⟨below_setRow Hr.out.2.2.2.1 (Nat.le_refl _) _, by rw [Q2.out]; rfl⟩
set_option maxRecDepth 100000 in
set_option maxHeartbeats 2000000 in
theorem refParse_1 (l m9 : List UInt8) (w : World) (hl : l.length = 512) (Z RC : List Value) (RI : Int) (v0 v1 v2 v3 v4 e0 e1 e2 e3 e4 : Int)
    (Hn0 : Hid (∀ w : World, Calls Tryd.prog 23 #[.string ⟨l.toArray⟩, .int .i64 100, .int .i64 8, .bool false] w fun e w' => w = w' ∧ e = .returned (.tuple #[.int .i64 v0, .int .i64 e0])))
    (He0 : Hid (e0 ≠ 0 → RC = Z ∧ RI = e0))
    (Hn1 : Hid (∀ w : World, Calls Tryd.prog 23 #[.string ⟨l.toArray⟩, .int .i64 108, .int .i64 8, .bool false] w fun e w' => w = w' ∧ e = .returned (.tuple #[.int .i64 v1, .int .i64 e1])))
    (He1 : Hid (e0 = 0 → e1 ≠ 0 → RC = Z ∧ RI = e1))
    (Hn2 : Hid (∀ w : World, Calls Tryd.prog 23 #[.string ⟨l.toArray⟩, .int .i64 116, .int .i64 8, .bool false] w fun e w' => w = w' ∧ e = .returned (.tuple #[.int .i64 v2, .int .i64 e2])))
    (He2 : Hid (e0 = 0 → e1 = 0 → e2 ≠ 0 → RC = Z ∧ RI = e2))
    (Hn3 : Hid (∀ w : World, Calls Tryd.prog 23 #[.string ⟨l.toArray⟩, .int .i64 124, .int .i64 12, .bool false] w fun e w' => w = w' ∧ e = .returned (.tuple #[.int .i64 v3, .int .i64 e3])))
    (He3 : Hid (e0 = 0 → e1 = 0 → e2 = 0 → e3 ≠ 0 → RC = Z ∧ RI = e3))
    (Hn4 : Hid (∀ w : World, Calls Tryd.prog 23 #[.string ⟨l.toArray⟩, .int .i64 136, .int .i64 12, .bool true] w fun e w' => w = w' ∧ e = .returned (.tuple #[.int .i64 v4, .int .i64 e4])))
    (He4 : Hid (e0 = 0 → e1 = 0 → e2 = 0 → e3 = 0 → e4 ≠ 0 → RC = Z ∧ RI = e4))
    (fn fp fk tn tp tk : List UInt8) (kb : UInt8)
    (hsn : ∀ W : World, (Instr.slice 9 (.string ⟨l.toArray⟩) none (some (.int .i64 100)) none).run Tryd.prog W = .ok (.string ⟨fn.toArray⟩) W)
    (Htn : Hid (∀ w : World, Calls Tryd.prog 24 #[.string ⟨fn.toArray⟩] w fun e w' => w = w' ∧ e = .returned (.string ⟨tn.toArray⟩)))
    (hsp : ∀ W : World, (Instr.slice 9 (.string ⟨l.toArray⟩) (some (.int .i64 345)) (some (.int .i64 500)) none).run Tryd.prog W = .ok (.string ⟨fp.toArray⟩) W)
    (Htp : Hid (∀ w : World, Calls Tryd.prog 24 #[.string ⟨fp.toArray⟩] w fun e w' => w = w' ∧ e = .returned (.string ⟨tp.toArray⟩)))
    (hsk : ∀ W : World, (Instr.slice 9 (.string ⟨l.toArray⟩) (some (.int .i64 157)) (some (.int .i64 257)) none).run Tryd.prog W = .ok (.string ⟨fk.toArray⟩) W)
    (Htk : Hid (∀ w : World, Calls Tryd.prog 24 #[.string ⟨fk.toArray⟩] w fun e w' => w = w' ∧ e = .returned (.string ⟨tk.toArray⟩)))
    (hs9 : ∀ W : World, (Instr.slice 9 (.string ⟨l.toArray⟩) (some (.int .i64 257)) (some (.int .i64 265)) none).run Tryd.prog W = .ok (.string ⟨m9.toArray⟩) W)
    (m1 : (m9 == [117, 115, 116, 97, 114, 0, 48, 48]) = false) (m2 : (m9 == [117, 115, 116, 97, 114, 32, 32, 0]) = false)
    (HB : Hid (∀ w : World, Calls Tryd.prog 22 #[.string ⟨m9.toArray⟩] w fun e w' => w = w' ∧ e = .returned (.bool true)))
    (HR : Hid (∀ w : World, Calls Tryd.prog 21 #[.string ⟨l.toArray⟩] w fun e w' => w = w' ∧ e = .returned (.bool true)))
    (hkb : l[156]'(by omega) = kb) (HZ : Hid (Z = Hd.zero.cells))
    (Hok : Hid (e0 = 0 → e1 = 0 → e2 = 0 → e3 = 0 → e4 = 0 → ((kb.toNat : Int) = 0 → RC = (((((((((Z.set 12 (.int .i64 1)).set 3 (.int .i64 v0)).set 4 (.int .i64 v1)).set 5 (.int .i64 v2)).set 6 (.int .i64 v3)).set 7 (.int .i64 v4)).set 0 (.string ⟨tn.toArray⟩)).set 1 (.string ⟨tk.toArray⟩)).set 2 (.int .u8 kb.toNat)).set 2 (.int .u8 48)) ∧ ((kb.toNat : Int) ≠ 0 → RC = ((((((((Z.set 12 (.int .i64 1)).set 3 (.int .i64 v0)).set 4 (.int .i64 v1)).set 5 (.int .i64 v2)).set 6 (.int .i64 v3)).set 7 (.int .i64 v4)).set 0 (.string ⟨tn.toArray⟩)).set 1 (.string ⟨tk.toArray⟩)).set 2 (.int .u8 kb.toNat)) ∧ RI = 0))
    (HRs : Hid (RC.length = 13)) (HRo : Hid (RC.toArray.all (·.oneCell') = true)) :
    Calls Tryd.prog 8 #[.string ⟨l.toArray⟩] w fun e w' => Below w.heap.size w w' ∧ e = .returned (.tuple #[.agg RC.toArray, .int .i64 RI]) := by
  have hz := (zero_of_info info_head).1
  have Hs1 := Lib.hid (head_size Hd.zero)
  have Hone := Lib.hid Hd.zero.cells_one
  rw [← HZ.out] at hz Hs1 Hone
  have hzl : Z.length = 13 := by rw [HZ.out]; rfl
  have HRsz := Lib.hid (show (Tryd.prog.info? 23).map (·.size) = some RC.toArray.size by rw [List.size_toArray, HRs.out]; exact head_size Hd.zero)
  have HZR := Lib.hid (show Z.toArray.size = RC.toArray.size by rw [List.size_toArray, List.size_toArray, HRs.out, hzl])
  have eL : ((l.length : Int) == 512) = true := by rw [beq_iff_eq]; omega
  have hl156 : 156 < l.length := by omega
  obtain ⟨w1, hw⟩ : ∃ w1, ((w.alloc (.cells Z.toArray 23)).alloc (.cells Z.toArray 23)).setRow (w.heap.size + 1) Z.toArray = w1 := ⟨_, rfl⟩
  have Hw := Lib.hid hw
  have H1 := Lib.hid (show refStart w Z w1 by rw [← hw]; exact refStart_of w Z)
  have H0 := Lib.hid (show Holds ((w.alloc (.cells Z.toArray 23)).alloc (.cells Z.toArray 23)) (w.heap.size + 1) 23 Z by
    have h2 := Holds.new (w.alloc (.cells Z.toArray 23)) 23 Z
    rwa [World.size_alloc] at h2)
  have hsz : w.heap.size + 1 < w1.heap.size := H1.out.2.1.lt
  have hsz0 : w.heap.size < w1.heap.size := by omega
  clear hw
  go_enter Tryd.func8, Tryd.ntmps8
  go_wp2_with (first
    | (refine wpList_store_row (by rfl) 23 _ _ (by rfl) (w.heap.size + 1) Z.toArray (by rfl) (by rfl) _ _ H0.out Hs1.out (by rfl) Hone.out ?_; rw [Hw.out])
    | fail)
  refine (HR.out _).mono ?_
  rintro e w' ⟨rfl, rfl⟩
  have Hnew := Lib.hid (Holds.new w1 23 Z)
  have Hp := Lib.hid (show Rp w (w.heap.size + 1) w1.heap.size Z (Z.set 12 (.int .i64 1)) (w1.alloc (.cells (Z.set 12 (.int .i64 1)).toArray 23)) from ⟨H1.out.1.behind _, H1.out.2.1.behind _, Holds.new _ _ _, H1.out.2.2.alloc H1.out.2.2.size _, by omega, hsz⟩)
  have hlen : (Z.set 12 (Value.int .i64 1)).length = 13 := by rw [List.length_set]; exact hzl
  have Hlen := Lib.hid hlen
  clear hlen
  go_wp2_with (first
    | (refine wpList_store_row (by rfl) 23 _ _ (by rfl) w1.heap.size Z.toArray (by rfl) (by rfl) _ _ Hnew.out Hs1.out (by rfl) Hone.out ?_; rw [World.setRow_alloc_new])
    | fail)
  refine (HB.out _).mono ?_
  rintro e w' ⟨rfl, rfl⟩
  go_wp2_with fail
  clear Hnew
  generalize w1.alloc (.cells (Z.set 12 (.int .i64 1)).toArray 23) = wa at *
  generalize w1.heap.size = g at *
  have hgz : w.heap.size < g := hsz0
  clear hsz
  refine (Hn0.out _).mono ?_
  rintro e w' ⟨rfl, rfl⟩
  have co := Hp.out.cell 3 (by rw [Hlen.out]; omega)
  have cf := Hp.out.2.2.1.frozen 3
  have Hq := Lib.hid (Hp.out.put 3 (.int .i64 v0))
  have Hlen2 := Lib.hid (show ((_ : List Value).set 3 (.int .i64 v0)).length = 13 from (List.length_set).trans Hlen.out)
  clear Hp Hlen
  have Hp := Hq
  have Hlen := Hlen2
  clear Hq Hlen2
  by_cases hx : e0 = 0
  rotate_left
  · obtain ⟨q1, q2⟩ := He0.out  hx
    have q1 := Lib.hid q1
    have q2 := Lib.hid q2
    have ex : (e0 == 0) = false := by rw [beq_eq_false_iff_ne]; exact hx
    clear hx
    go_wp2_with (first
      | (refine wpList_load_row (by rfl) 23 _ (by rfl) (w.heap.size + 1) (by rfl) _ _ _ _ Hp.out.2.1 Tryd.underlying23 rfl Hs1.out ?_)
      | (refine wpList_store_row (by rfl) 23 _ _ (by rfl) w.heap.size Z.toArray (by rfl) (by rfl) _ _ Hp.out.1 Hs1.out (by rfl) Hone.out ?_)
      | fail)
    exact bodyPost_ret (results_row2 Tryd.results8 _ _ w.heap.size _ Z.toArray _ _ _ (by rfl) (by rfl) (setRow_heap _ _ _ _ _ _ Hp.out.1) Tryd.underlying23 rfl Hs1.out) rfl ⟨below_setRow Hp.out.2.2.2.1 (Nat.le_refl _) _, by rw [q1.out, q2.out]; rfl⟩
  subst hx
  clear Hn0 He0
  go_wp2_with fail
  clear co cf
  generalize wa.setCell ⟨g, 3, none⟩ (.int .i64 v0) = wx1 at *
  refine (Hn1.out _).mono ?_
  rintro e w' ⟨rfl, rfl⟩
  have co := Hp.out.cell 4 (by rw [Hlen.out]; omega)
  have cf := Hp.out.2.2.1.frozen 4
  have Hq := Lib.hid (Hp.out.put 4 (.int .i64 v1))
  have Hlen2 := Lib.hid (show ((_ : List Value).set 4 (.int .i64 v1)).length = 13 from (List.length_set).trans Hlen.out)
  clear Hp Hlen
  have Hp := Hq
  have Hlen := Hlen2
  clear Hq Hlen2
  by_cases hx : e1 = 0
  rotate_left
  · obtain ⟨q1, q2⟩ := He1.out (by trivial) hx
    have q1 := Lib.hid q1
    have q2 := Lib.hid q2
    have ex : (e1 == 0) = false := by rw [beq_eq_false_iff_ne]; exact hx
    clear hx
    go_wp2_with (first
      | (refine wpList_load_row (by rfl) 23 _ (by rfl) (w.heap.size + 1) (by rfl) _ _ _ _ Hp.out.2.1 Tryd.underlying23 rfl Hs1.out ?_)
      | (refine wpList_store_row (by rfl) 23 _ _ (by rfl) w.heap.size Z.toArray (by rfl) (by rfl) _ _ Hp.out.1 Hs1.out (by rfl) Hone.out ?_)
      | fail)
    exact bodyPost_ret (results_row2 Tryd.results8 _ _ w.heap.size _ Z.toArray _ _ _ (by rfl) (by rfl) (setRow_heap _ _ _ _ _ _ Hp.out.1) Tryd.underlying23 rfl Hs1.out) rfl ⟨below_setRow Hp.out.2.2.2.1 (Nat.le_refl _) _, by rw [q1.out, q2.out]; rfl⟩
  subst hx
  clear Hn1 He1
  go_wp2_with fail
  clear co cf
  generalize wx1.setCell ⟨g, 4, none⟩ (.int .i64 v1) = wx2 at *
  refine (Hn2.out _).mono ?_
  rintro e w' ⟨rfl, rfl⟩
  have co := Hp.out.cell 5 (by rw [Hlen.out]; omega)
  have cf := Hp.out.2.2.1.frozen 5
  have Hq := Lib.hid (Hp.out.put 5 (.int .i64 v2))
  have Hlen2 := Lib.hid (show ((_ : List Value).set 5 (.int .i64 v2)).length = 13 from (List.length_set).trans Hlen.out)
  clear Hp Hlen
  have Hp := Hq
  have Hlen := Hlen2
  clear Hq Hlen2
  by_cases hx : e2 = 0
  rotate_left
  · obtain ⟨q1, q2⟩ := He2.out (by trivial) (by trivial) hx
    have q1 := Lib.hid q1
    have q2 := Lib.hid q2
    have ex : (e2 == 0) = false := by rw [beq_eq_false_iff_ne]; exact hx
    clear hx
    go_wp2_with (first
      | (refine wpList_load_row (by rfl) 23 _ (by rfl) (w.heap.size + 1) (by rfl) _ _ _ _ Hp.out.2.1 Tryd.underlying23 rfl Hs1.out ?_)
      | (refine wpList_store_row (by rfl) 23 _ _ (by rfl) w.heap.size Z.toArray (by rfl) (by rfl) _ _ Hp.out.1 Hs1.out (by rfl) Hone.out ?_)
      | fail)
    exact bodyPost_ret (results_row2 Tryd.results8 _ _ w.heap.size _ Z.toArray _ _ _ (by rfl) (by rfl) (setRow_heap _ _ _ _ _ _ Hp.out.1) Tryd.underlying23 rfl Hs1.out) rfl ⟨below_setRow Hp.out.2.2.2.1 (Nat.le_refl _) _, by rw [q1.out, q2.out]; rfl⟩
  subst hx
  clear Hn2 He2
  go_wp2_with fail
  clear co cf
  generalize wx2.setCell ⟨g, 5, none⟩ (.int .i64 v2) = wx3 at *
  refine (Hn3.out _).mono ?_
  rintro e w' ⟨rfl, rfl⟩
  have co := Hp.out.cell 6 (by rw [Hlen.out]; omega)
  have cf := Hp.out.2.2.1.frozen 6
  have Hq := Lib.hid (Hp.out.put 6 (.int .i64 v3))
  have Hlen2 := Lib.hid (show ((_ : List Value).set 6 (.int .i64 v3)).length = 13 from (List.length_set).trans Hlen.out)
  clear Hp Hlen
  have Hp := Hq
  have Hlen := Hlen2
  clear Hq Hlen2
  by_cases hx : e3 = 0
  rotate_left
  · obtain ⟨q1, q2⟩ := He3.out (by trivial) (by trivial) (by trivial) hx
    have q1 := Lib.hid q1
    have q2 := Lib.hid q2
    have ex : (e3 == 0) = false := by rw [beq_eq_false_iff_ne]; exact hx
    clear hx
    go_wp2_with (first
      | (refine wpList_load_row (by rfl) 23 _ (by rfl) (w.heap.size + 1) (by rfl) _ _ _ _ Hp.out.2.1 Tryd.underlying23 rfl Hs1.out ?_)
      | (refine wpList_store_row (by rfl) 23 _ _ (by rfl) w.heap.size Z.toArray (by rfl) (by rfl) _ _ Hp.out.1 Hs1.out (by rfl) Hone.out ?_)
      | fail)
    exact bodyPost_ret (results_row2 Tryd.results8 _ _ w.heap.size _ Z.toArray _ _ _ (by rfl) (by rfl) (setRow_heap _ _ _ _ _ _ Hp.out.1) Tryd.underlying23 rfl Hs1.out) rfl ⟨below_setRow Hp.out.2.2.2.1 (Nat.le_refl _) _, by rw [q1.out, q2.out]; rfl⟩
  subst hx
  clear Hn3 He3
  go_wp2_with fail
  clear co cf
  generalize wx3.setCell ⟨g, 6, none⟩ (.int .i64 v3) = wx4 at *
  refine (Hn4.out _).mono ?_
  rintro e w' ⟨rfl, rfl⟩
  have co := Hp.out.cell 7 (by rw [Hlen.out]; omega)
  have cf := Hp.out.2.2.1.frozen 7
  have Hq := Lib.hid (Hp.out.put 7 (.int .i64 v4))
  have Hlen2 := Lib.hid (show ((_ : List Value).set 7 (.int .i64 v4)).length = 13 from (List.length_set).trans Hlen.out)
  clear Hp Hlen
  have Hp := Hq
  have Hlen := Hlen2
  clear Hq Hlen2
  by_cases hx : e4 = 0
  rotate_left
  · obtain ⟨q1, q2⟩ := He4.out (by trivial) (by trivial) (by trivial) (by trivial) hx
    have q1 := Lib.hid q1
    have q2 := Lib.hid q2
    have ex : (e4 == 0) = false := by rw [beq_eq_false_iff_ne]; exact hx
    clear hx
    go_wp2_with (first
      | (refine wpList_load_row (by rfl) 23 _ (by rfl) (w.heap.size + 1) (by rfl) _ _ _ _ Hp.out.2.1 Tryd.underlying23 rfl Hs1.out ?_)
      | (refine wpList_store_row (by rfl) 23 _ _ (by rfl) w.heap.size Z.toArray (by rfl) (by rfl) _ _ Hp.out.1 Hs1.out (by rfl) Hone.out ?_)
      | fail)
    exact bodyPost_ret (results_row2 Tryd.results8 _ _ w.heap.size _ Z.toArray _ _ _ (by rfl) (by rfl) (setRow_heap _ _ _ _ _ _ Hp.out.1) Tryd.underlying23 rfl Hs1.out) rfl ⟨below_setRow Hp.out.2.2.2.1 (Nat.le_refl _) _, by rw [q1.out, q2.out]; rfl⟩
  subst hx
  clear Hn4 He4
  have c12 : (wx4.setCell ⟨g, 7, none⟩ (.int .i64 v4)).cell? ⟨g, 12, none⟩ = some (.int .i64 1) := Hp.out.2.2.1.at (by simp [hzl])
  go_wp2_with fail
  clear co cf c12
  generalize wx4.setCell ⟨g, 7, none⟩ (.int .i64 v4) = wx5 at *
  refine (Htn.out _).mono ?_
  rintro e w' ⟨rfl, rfl⟩
  have co := Hp.out.cell 0 (by rw [Hlen.out]; omega)
  have cf := Hp.out.2.2.1.frozen 0
  have Hq := Lib.hid (Hp.out.put 0 (.string ⟨tn.toArray⟩))
  have Hlen2 := Lib.hid (show ((_ : List Value).set 0 (.string ⟨tn.toArray⟩)).length = 13 from (List.length_set).trans Hlen.out)
  clear Hp Hlen
  have Hp := Hq
  have Hlen := Hlen2
  clear Hq Hlen2
  clear Htn
  go_wp2_with fail
  clear co cf
  generalize wx5.setCell ⟨g, 0, none⟩ (.string ⟨tn.toArray⟩) = wx6 at *
  refine (Htp.out _).mono ?_
  rintro e w' ⟨rfl, rfl⟩
  have c12 : wx6.cell? ⟨g, 12, none⟩ = some (.int .i64 1) := Hp.out.2.2.1.at (by simp [hzl])
  go_wp2_with fail
  refine (Htk.out _).mono ?_
  rintro e w' ⟨rfl, rfl⟩
  have co := Hp.out.cell 1 (by rw [Hlen.out]; omega)
  have cf := Hp.out.2.2.1.frozen 1
  have Hq := Lib.hid (Hp.out.put 1 (.string ⟨tk.toArray⟩))
  have Hlen2 := Lib.hid (show ((_ : List Value).set 1 (.string ⟨tk.toArray⟩)).length = 13 from (List.length_set).trans Hlen.out)
  clear Hp Hlen
  have co2 := Hq.out.cell 2 (by rw [Hlen2.out]; omega)
  have cf2 := Hq.out.2.2.1.frozen 2
  have Hr := Lib.hid (Hq.out.put 2 (.int .u8 kb.toNat))
  have Hlen3 := Lib.hid (show ((_ : List Value).set 2 (.int .u8 kb.toNat)).length = 13 from (List.length_set).trans Hlen2.out)
  have ck := Hr.out.2.2.1.cell (i := 2) (by rw [Hlen3.out]; omega)
  rw [List.getElem_set_self] at ck
  have cfk := Hr.out.2.2.1.frozen 2
  clear Hq Hlen2
  by_cases hk : (kb.toNat : Int) = 0
  · have ek : ((kb.toNat : Int) == 0) = true := by rw [hk]; rfl
    have Hs := Lib.hid (Hr.out.put 2 (.int .u8 48))
    have q1 := (Hok.out (by trivial) (by trivial) (by trivial) (by trivial) (by trivial)).1 hk
    have q2 := (Hok.out (by trivial) (by trivial) (by trivial) (by trivial) (by trivial)).2.2
    have Q1 := Lib.hid q1
    have Q2 := Lib.hid q2
    clear q1 q2 hk Hr Hlen3
    rw [← Q1.out] at Hs
    go_wp2_with (first
      | (refine wpList_load_row (by rfl) 23 _ (by rfl) g (by rfl) _ _ _ _ Hs.out.2.2.1 Tryd.underlying23 rfl HRsz.out ?_)
      | (refine wpList_store_row (by rfl) 23 _ _ (by rfl) w.heap.size RC.toArray (by rfl) (by rfl) _ _ Hs.out.1 HRsz.out HZR.out HRo.out ?_)
      | fail)
    exact bodyPost_ret (results_row2 Tryd.results8 _ _ w.heap.size _ RC.toArray _ _ _ (by rfl) (by rfl) (setRow_heap _ _ _ _ _ _ Hs.out.1) Tryd.underlying23 rfl HRsz.out) rfl ⟨below_setRow Hs.out.2.2.2.1 (Nat.le_refl _) _, by rw [Q2.out]; rfl⟩
  · have ek : ((kb.toNat : Int) == 0) = false := by rw [beq_eq_false_iff_ne]; exact hk
    have q1 := (Hok.out (by trivial) (by trivial) (by trivial) (by trivial) (by trivial)).2.1 hk
    have q2 := (Hok.out (by trivial) (by trivial) (by trivial) (by trivial) (by trivial)).2.2
    have Q1 := Lib.hid q1
    have Q2 := Lib.hid q2
    clear q1 q2 hk
    rw [← Q1.out] at Hr
    go_wp2_with (first
      | (refine wpList_load_row (by rfl) 23 _ (by rfl) g (by rfl) _ _ _ _ Hr.out.2.2.1 Tryd.underlying23 rfl HRsz.out ?_)
      | (refine wpList_store_row (by rfl) 23 _ _ (by rfl) w.heap.size RC.toArray (by rfl) (by rfl) _ _ Hr.out.1 HRsz.out HZR.out HRo.out ?_)
      | fail)
    exact bodyPost_ret (results_row2 Tryd.results8 _ _ w.heap.size _ RC.toArray _ _ _ (by rfl) (by rfl) (setRow_heap _ _ _ _ _ _ Hr.out.1) Tryd.underlying23 rfl HRsz.out) rfl ⟨below_setRow Hr.out.2.2.2.1 (Nat.le_refl _) _, by rw [Q2.out]; rfl⟩
end Go.Proofs.YtlloaalaldomkaaDoor
