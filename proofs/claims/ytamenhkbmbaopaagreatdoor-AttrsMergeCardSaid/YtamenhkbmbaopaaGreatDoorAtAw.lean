/-
  attrs.Head and attrs.Wanted at one member, and the law's test of life.
-/
import Derived.Test.YtamenhkbmbaopaaGreatDoorAtD
namespace Go.Proofs.YtamenhkbmbaopaaGreatDoor
open Go.ChangeShapes Go.WideShapes Go.ChangeAt Go.RowKit Go.Maps

theorem results_rowA2 {P : Program} {fn : Func} {p q : Tmp} {ty : TypeId} (h : fn.results = #[.cell p ty, .tmp q]) (tmps : Array Value) (w : World) (g : Nat) (t : TypeId) (cs : Array Value) (fr : Nat × Nat) (d : TypeDesc) (v : Value)
    (hp : tmps.getD p undef = .pointer (some ⟨g, 0, none⟩)) (hq : tmps.getD q undef = v) (hg : w.heap[g]? = some (.cells cs t fr))
    (hu : P.underlying ty = some d) (hd : (match d with | .struct _ | .array _ _ => true | _ => false) = true) (hi : (P.info? ty).map (·.size) = some cs.size) :
    (results fn tmps).run P w = .ok (.tuple #[.agg cs, v]) w := by
  have hp' : tmps[p]?.getD undef = .pointer (some ⟨g, 0, none⟩) := by simpa using hp
  have hq' : tmps[q]?.getD undef = v := by simpa using hq
  simp [results, h, hp', hq', asAddr, run_loadVar_row w g t ty cs fr d hg hu hd hi]
set_option maxRecDepth 100000 in
theorem head_aw (w : World) (ht : TabOk w) :
    Calls Tryz.prog 15 #[mAw.val, .int .i64 0] w fun e w' => Below w.heap.size w w' ∧ e = .returned (.tuple #[(hAw [97]).val, .int .i64 0]) := by
  have hz := (zero_of_info infoHd).1
  have HD := Lib.hid (fun w1 => divide_aw w1)
  have Ht := Lib.hid ht
  have Hsm := Lib.hid sizeMb
  have Hs13 := Lib.hid (show (Tryz.prog.info? 30).map (·.size) = some (hAw [97]).cells.toArray.size from head_size _)
  have Hone := Lib.hid (show (hAw [97]).cells.toArray.all (·.oneCell') = true by simp [hAw, Hd.cells, Value.oneCell'])
  have Hsz := Lib.hid (show Hd.zero.cells.toArray.size = (hAw [97]).cells.toArray.size from rfl)
  have Ho := Lib.hid (show Holds ((w.alloc (.cells mAw.cells.toArray 34)).alloc (.cells Hd.zero.cells.toArray 30)) w.heap.size 34 mAw.cells from (Holds.new w _ _).behind _)
  have Hz := Lib.hid (show Holds ((w.alloc (.cells mAw.cells.toArray 34)).alloc (.cells Hd.zero.cells.toArray 30)) (w.heap.size + 1) 30 Hd.zero.cells from by
    have := Holds.new (w.alloc (.cells mAw.cells.toArray 34)) 30 Hd.zero.cells
    rwa [World.size_alloc] at this)
  have Hb := Lib.hid (((Below.refl w.heap.size w).alloc (Nat.le_refl _) (.cells mAw.cells.toArray 34)).alloc (by simp) (.cells Hd.zero.cells.toArray 30))
  unfold Mb.val Hd.val at *
  clear ht
  generalize mAw.cells = C at *
  generalize Hd.zero.cells = Z at *
  generalize (hAw [97]).cells = HC at *
  go_enter Tryz.func15, Tryz.ntmps15
  go_wp2_with (first
    | (refine wpList_load_row (by rfl) 34 _ (by rfl) w.heap.size (by rfl) _ _ _ _ Ho.out Tryz.underlying34 rfl Hsm.out ?_)
    | fail)
  refine (HD.out _ (Ht.out.below Hb.out (Nat.le_refl _))).mono ?_
  rintro e w1 ⟨hb1, v, rfl, hv⟩
  have Hz1 := Lib.hid (Hz.out.under hb1 Hz.out.lt)
  have Hb1 := Lib.hid (Hb.out.trans (hb1.mono (by simp; omega)))
  have Hn := Lib.hid (Holds.new w1 30 Z)
  have Hn2 := Lib.hid (Holds.new w1 30 HC)
  have Hz2 := Lib.hid (Hz1.out.behind (.cells HC.toArray 30))
  clear hb1 Ho Hz HD
  go_wp2_with (first
    | (refine wpList_store_row (by rfl) 30 _ _ (by rfl) w1.heap.size HC.toArray (by rfl) (by rfl) _ _ Hn.out Hs13.out (by exact Hsz.out) Hone.out ?_; rw [World.setRow_alloc_new])
    | (refine wpList_load_row (by rfl) 30 _ (by rfl) w1.heap.size (by rfl) _ _ _ _ Hn2.out Tryz.underlying30 rfl Hs13.out ?_)
    | (refine wpList_store_row (by rfl) 30 _ _ (by rfl) (w.heap.size + 1) HC.toArray (by rfl) (by rfl) _ _ Hz2.out Hs13.out (by exact Hsz.out) Hone.out ?_)
    | fail)
  exact bodyPost_ret (results_rowA2 Tryz.results15 _ _ (w.heap.size + 1) _ HC.toArray _ _ _ (by rfl) (by rfl) (setRow_heap _ _ _ _ _ _ Hz2.out) Tryz.underlying30 rfl Hs13.out) rfl ⟨below_setRow (Hb1.out.alloc Hb1.out.size _) (by omega) _, rfl⟩

set_option maxRecDepth 100000 in
theorem wanted_aw (w : World) (ht : TabOk w) :
    Calls Tryz.prog 16 #[mAw.val, .int .i64 0] w fun e w' => Below w.heap.size w w' ∧ ∃ v, e = .returned (.tuple #[v, .int .i64 0]) ∧ OwnP w' w.heap.size v [([109, 116, 105, 109, 101], stText 1 2)] := by
  have hz := (zero_of_info infoHd).1
  have HD := Lib.hid (fun w1 => divide_aw w1)
  have Ht := Lib.hid ht
  have Hsm := Lib.hid sizeMb
  have Hs13 := Lib.hid (show (Tryz.prog.info? 30).map (·.size) = some (hAw [97]).cells.toArray.size from head_size _)
  have Hone := Lib.hid (show (hAw [97]).cells.toArray.all (·.oneCell') = true by simp [hAw, Hd.cells, Value.oneCell'])
  have Hsz := Lib.hid (show Hd.zero.cells.toArray.size = (hAw [97]).cells.toArray.size from rfl)
  have Ho := Lib.hid (show Holds (w.alloc (.cells mAw.cells.toArray 34)) w.heap.size 34 mAw.cells from Holds.new w _ _)
  have Hb := Lib.hid ((Below.refl w.heap.size w).alloc (Nat.le_refl _) (.cells mAw.cells.toArray 34))
  unfold Mb.val Hd.val at *
  clear ht
  generalize mAw.cells = C at *
  generalize Hd.zero.cells = Z at *
  generalize (hAw [97]).cells = HC at *
  go_enter Tryz.func16, Tryz.ntmps16
  go_wp2_with (first
    | (refine wpList_load_row (by rfl) 34 _ (by rfl) w.heap.size (by rfl) _ _ _ _ Ho.out Tryz.underlying34 rfl Hsm.out ?_)
    | fail)
  refine (HD.out _ (Ht.out.below Hb.out (Nat.le_refl _))).mono ?_
  rintro e w1 ⟨hb1, v, rfl, hv⟩
  have Hb1 := Lib.hid (Hb.out.trans (hb1.mono (by simp)))
  have Hn := Lib.hid (Holds.new w1 30 Z)
  have Hv := Lib.hid (show OwnP (w1.alloc (.cells HC.toArray 30)) w.heap.size v [([109, 116, 105, 109, 101], stText 1 2)] from World.ownsRow.alloc (Joins.ownsRow_le hv (by simp)) _)
  clear hb1 Ho HD hv
  go_wp2_with (first
    | (refine wpList_store_row (by rfl) 30 _ _ (by rfl) w1.heap.size HC.toArray (by rfl) (by rfl) _ _ Hn.out Hs13.out (by exact Hsz.out) Hone.out ?_; rw [World.setRow_alloc_new])
    | fail)
  go_ret2
  exact ⟨Hb1.out.alloc Hb1.out.size _, v, rfl, Hv.out⟩

theorem builtMb : Tryz.prog.built 34 [(0, .string ⟨#[97]⟩), (2, .int .u8 48), (10, .agg #[.int .i64 1, .int .i64 2])] = some mAw.cells.toArray := by kernel_rfl
def zMb : List Value := (Mb.mk [] [] 0 0 0 0 [] [] 0 0 0 0 (.slice none 0 0) []).cells
theorem infoMb : (Tryz.prog.info? 34).map (fun i => (i.zero, i.size)) = some (some (.agg zMb.toArray), 14) := by kernel_rfl

set_option maxRecDepth 100000 in
set_option maxHeartbeats 1000000 in
theorem awake7_any (w : World) (ht : TabOk w) :
    Calls Tryz.prog 7 #[] w fun e w' => Below w.heap.size w w' ∧ e = .returned (.bool true) := by
  have hz := (zero_of_info infoHd).1
  have hzm := (zero_of_info infoMb).1
  have HH := Lib.hid (fun w1 => head_aw w1)
  have HW := Lib.hid (fun w1 => wanted_aw w1)
  have Ht := Lib.hid ht
  have Hsm := Lib.hid sizeMb
  have Hbm := Lib.hid builtMb
  have Hs13 := Lib.hid (show (Tryz.prog.info? 30).map (·.size) = some (hAw [97]).cells.toArray.size from head_size _)
  have Hone := Lib.hid (show (hAw [97]).cells.toArray.all (·.oneCell') = true by simp [hAw, Hd.cells, Value.oneCell'])
  have Honem := Lib.hid (show mAw.cells.toArray.all (·.oneCell') = true by simp [mAw, Mb.cells, Value.oneCell'])
  have Hsz := Lib.hid (show Hd.zero.cells.toArray.size = (hAw [97]).cells.toArray.size from rfl)
  have Hszm := Lib.hid (show zMb.toArray.size = mAw.cells.toArray.size from rfl)
  have Hn0 := Lib.hid (Holds.new w 34 zMb)
  have Ho := Lib.hid (Holds.new w 34 mAw.cells)
  have Hb := Lib.hid ((Below.refl w.heap.size w).alloc (Nat.le_refl _) (.cells mAw.cells.toArray 34))
  have H7 := Lib.hid (show (hAw [97]).cells[7]? = some (.int .i64 0) from rfl)
  rw [tx12] at HW
  unfold Mb.val Hd.val at *
  clear ht
  generalize mAw.cells = C at *
  generalize zMb = ZM at *
  generalize Hd.zero.cells = Z at *
  generalize (hAw [97]).cells = HC at *
  go_enter Tryz.func7, Tryz.ntmps7
  go_wp2_with (first
    | (refine wpList_build_is (by rfl) 34 _ (by rfl) _ _ Hbm.out ?_ ?_; first | kernel_rfl | simp [Act.eval])
    | (refine wpList_store_row (by rfl) 34 _ _ (by rfl) w.heap.size C.toArray (by rfl) (by rfl) _ _ Hn0.out Hsm.out (by exact Hszm.out) Honem.out ?_; rw [World.setRow_alloc_new])
    | (refine wpList_load_row (by rfl) 34 _ (by rfl) w.heap.size (by rfl) _ _ _ _ Ho.out Tryz.underlying34 rfl Hsm.out ?_)
    | fail)
  refine (HH.out _ (Ht.out.below Hb.out (Nat.le_refl _))).mono ?_
  rintro e w1 ⟨hb1, rfl⟩
  have Hb1 := Lib.hid (Hb.out.trans (hb1.mono (by simp)))
  have Hn := Lib.hid (Holds.new w1 30 Z)
  have Hn2 := Lib.hid (Holds.new w1 30 HC)
  have Ho1 := Lib.hid ((Ho.out.under hb1 Ho.out.lt).behind (.cells HC.toArray 30))
  clear hb1 Ho Hn0 Hb
  go_wp2_with (first
    | (refine wpList_store_row (by rfl) 30 _ _ (by rfl) w1.heap.size HC.toArray (by rfl) (by rfl) _ _ Hn.out Hs13.out (by exact Hsz.out) Hone.out ?_; rw [World.setRow_alloc_new])
    | (refine wpList_load_row (by rfl) 34 _ (by rfl) w.heap.size (by rfl) _ _ _ _ Ho1.out Tryz.underlying34 rfl Hsm.out ?_)
    | fail)
  have hb2 : Below w.heap.size w (w1.alloc (.cells HC.toArray 30)) := Hb1.out.alloc Hb1.out.size _
  refine (HW.out _ (Ht.out.below hb2 (Nat.le_refl _))).mono ?_
  rintro e w2 ⟨hb3, v, rfl, hv⟩
  have h7 := (Hn2.out.under hb3 Hn2.out.lt).at H7.out
  have Hb3 := Lib.hid (hb2.trans (hb3.mono hb2.size))
  obtain ⟨ad, cap, rfl, hp⟩ := hv.pairs
  rcases hp with hp | ⟨b, o, rfl, hbl, hpa⟩
  · cases hp
  · obtain ⟨q0, q1⟩ := hpa 0 (by decide)
    rw [Nat.zero_mul, Nat.add_zero] at q0 q1
    have q0 : w2.cell? ⟨b, o, none⟩ = some (.string ⟨([109, 116, 105, 109, 101] : List UInt8).toArray⟩) := q0
    have q1 : w2.cell? ⟨b, o + 1, none⟩ = some (.string ⟨([49, 46, 48, 48, 48, 48, 48, 48, 48, 48, 50] : List UInt8).toArray⟩) := q1
    have he := pair_eql ([109, 116, 105, 109, 101], [49, 46, 48, 48, 48, 48, 48, 48, 48, 48, 50]) ([109, 116, 105, 109, 101], [49, 46, 48, 48, 48, 48, 48, 48, 48, 48, 50]) w2
    rw [decide_eq_true rfl] at he
    clear hv hpa
    go_wp2
    go_ret
    exact ⟨Hb3.out, rfl⟩
end Go.Proofs.YtamenhkbmbaopaaGreatDoor
