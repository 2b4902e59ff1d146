/-
  Texts of this seat's proof, joined: their order is that of the build.
-/
import Derived.Test.YtjmmecokfijglaaGreatDoorJB17
import Derived.Test.YtjmmecokfijglaaGreatDoorJB28
import Derived.Test.YtjmmecokfijglaaGreatDoorJB16
namespace Go.Proofs.YtjmmecokfijglaaGreatDoor
open Go.ChangeShapes Go.WideShapes Go.ChangeAt Go.RowKit Go.Maps

theorem results_rowA2 {P : Program} {fn : Func} {p q : Tmp} {ty : TypeId} (h : fn.results = #[.cell p ty, .tmp q]) (tmps : Array Value) (w : World) (g : Nat) (t : TypeId) (cs : Array Value) (fr : Nat × Nat) (d : TypeDesc) (v : Value)
    (hp : tmps.getD p undef = .pointer (some ⟨g, 0, none⟩)) (hq : tmps.getD q undef = v) (hg : w.heap[g]? = some (.cells cs t fr))
    (hu : P.underlying ty = some d) (hd : (match d with | .struct _ | .array _ _ => true | _ => false) = true) (hi : (P.info? ty).map (·.size) = some cs.size) :
    (results fn tmps).run P w = .ok (.tuple #[.agg cs, v]) w := by
  have hp' : tmps[p]?.getD undef = .pointer (some ⟨g, 0, none⟩) := by simpa using hp
  have hq' : tmps[q]?.getD undef = v := by simpa using hq
  simp [results, h, hp', hq', asAddr, run_loadVar_row w g t ty cs fr d hg hu hd hi]
set_option maxRecDepth 100000 in
theorem head_aw (w : World) (ht : TabOk w) :
    Calls Tryz.prog 17 #[mAw.val, .int .i64 0] w fun e w' => Below w.heap.size w w' ∧ e = .returned (.tuple #[(hAw [97]).val, .int .i64 0]) := by
  have hz := (zero_of_info infoHd).1
  have HD := Lib.hid (fun w1 => divide_aw w1)
  have Ht := Lib.hid ht
  have Hsm := Lib.hid sizeMb
  have Hs13 := Lib.hid (show (Tryz.prog.info? 30).map (·.size) = some (hAw [97]).cells.toArray.size from head_size _)
  have Hone := Lib.hid (show (hAw [97]).cells.toArray.all (·.oneCell') = true by simp [hAw, Hd.cells, Value.oneCell'])
  have Hsz := Lib.hid (show Hd.zero.cells.toArray.size = (hAw [97]).cells.toArray.size from rfl)
  have Ho := Lib.hid (show Holds ((w.alloc (.cells mAw.cells.toArray 34)).alloc (.cells Hd.zero.cells.toArray 30)) w.heap.size 34 mAw.cells from (Holds.new w _ _).behind _)
  have Hz := Lib.hid (show Holds ((w.alloc (.cells mAw.cells.toArray 34)).alloc (.cells Hd.zero.cells.toArray 30)) (w.heap.size + 1) 30 Hd.zero.cells from by
    have := Holds.new (w.alloc (.cells mAw.cells.toArray 34)) 30 Hd.zero.cells
    rwa [World.size_alloc] at this)
  have Hb := Lib.hid (((Below.refl w.heap.size w).alloc (Nat.le_refl _) (.cells mAw.cells.toArray 34)).alloc (by simp) (.cells Hd.zero.cells.toArray 30))
  unfold Mb.val Hd.val at *
  clear ht
  generalize mAw.cells = C at *
  generalize Hd.zero.cells = Z at *
  generalize (hAw [97]).cells = HC at *
  go_enter Tryz.func17, Tryz.ntmps17
  go_wp2_with (first
    | (refine wpList_load_row (by rfl) 34 _ (by rfl) w.heap.size (by rfl) _ _ _ _ Ho.out Tryz.underlying34 rfl Hsm.out ?_)
    | fail)
  refine (HD.out _ (Ht.out.below Hb.out (Nat.le_refl _))).mono ?_
  rintro e w1 ⟨hb1, v, rfl, hv⟩
  have Hz1 := Lib.hid (Hz.out.under hb1 Hz.out.lt)
  have Hb1 := Lib.hid (Hb.out.trans (hb1.mono (by simp; omega)))
  have Hn := Lib.hid (Holds.new w1 30 Z)
  have Hn2 := Lib.hid (Holds.new w1 30 HC)
  have Hz2 := Lib.hid (Hz1.out.behind (.cells HC.toArray 30))
  clear hb1 Ho Hz HD
  go_wp2_with (first
    | (refine wpList_store_row (by rfl) 30 _ _ (by rfl) w1.heap.size HC.toArray (by rfl) (by rfl) _ _ Hn.out Hs13.out (by exact Hsz.out) Hone.out ?_; rw [World.setRow_alloc_new])
    | (refine wpList_load_row (by rfl) 30 _ (by rfl) w1.heap.size (by rfl) _ _ _ _ Hn2.out Tryz.underlying30 rfl Hs13.out ?_)
    | (refine wpList_store_row (by rfl) 30 _ _ (by rfl) (w.heap.size + 1) HC.toArray (by rfl) (by rfl) _ _ Hz2.out Hs13.out (by exact Hsz.out) Hone.out ?_)
    | fail)
  exact bodyPost_ret (results_rowA2 Tryz.results17 _ _ (w.heap.size + 1) _ HC.toArray _ _ _ (by rfl) (by rfl) (setRow_heap _ _ _ _ _ _ Hz2.out) Tryz.underlying30 rfl Hs13.out) rfl ⟨below_setRow (Hb1.out.alloc Hb1.out.size _) (by omega) _, rfl⟩

set_option maxRecDepth 100000 in
theorem wanted_aw (w : World) (ht : TabOk w) :
    Calls Tryz.prog 18 #[mAw.val, .int .i64 0] w fun e w' => Below w.heap.size w w' ∧ ∃ v, e = .returned (.tuple #[v, .int .i64 0]) ∧ OwnP w' w.heap.size v [([109, 116, 105, 109, 101], stText 1 2)] := by
  have hz := (zero_of_info infoHd).1
  have HD := Lib.hid (fun w1 => divide_aw w1)
  have Ht := Lib.hid ht
  have Hsm := Lib.hid sizeMb
  have Hs13 := Lib.hid (show (Tryz.prog.info? 30).map (·.size) = some (hAw [97]).cells.toArray.size from head_size _)
  have Hone := Lib.hid (show (hAw [97]).cells.toArray.all (·.oneCell') = true by simp [hAw, Hd.cells, Value.oneCell'])
  have Hsz := Lib.hid (show Hd.zero.cells.toArray.size = (hAw [97]).cells.toArray.size from rfl)
  have Ho := Lib.hid (show Holds (w.alloc (.cells mAw.cells.toArray 34)) w.heap.size 34 mAw.cells from Holds.new w _ _)
  have Hb := Lib.hid ((Below.refl w.heap.size w).alloc (Nat.le_refl _) (.cells mAw.cells.toArray 34))
  unfold Mb.val Hd.val at *
  clear ht
  generalize mAw.cells = C at *
  generalize Hd.zero.cells = Z at *
  generalize (hAw [97]).cells = HC at *
  go_enter Tryz.func18, Tryz.ntmps18
  go_wp2_with (first
    | (refine wpList_load_row (by rfl) 34 _ (by rfl) w.heap.size (by rfl) _ _ _ _ Ho.out Tryz.underlying34 rfl Hsm.out ?_)
    | fail)
  refine (HD.out _ (Ht.out.below Hb.out (Nat.le_refl _))).mono ?_
  rintro e w1 ⟨hb1, v, rfl, hv⟩
  have Hb1 := Lib.hid (Hb.out.trans (hb1.mono (by simp)))
  have Hn := Lib.hid (Holds.new w1 30 Z)
  have Hv := Lib.hid (show OwnP (w1.alloc (.cells HC.toArray 30)) w.heap.size v [([109, 116, 105, 109, 101], stText 1 2)] from World.ownsRow.alloc (Joins.ownsRow_le hv (by simp)) _)
  clear hb1 Ho HD hv
  go_wp2_with (first
    | (refine wpList_store_row (by rfl) 30 _ _ (by rfl) w1.heap.size HC.toArray (by rfl) (by rfl) _ _ Hn.out Hs13.out (by exact Hsz.out) Hone.out ?_; rw [World.setRow_alloc_new])
    | fail)
  go_ret2
  exact ⟨Hb1.out.alloc Hb1.out.size _, v, rfl, Hv.out⟩

theorem builtMb : Tryz.prog.built 34 [(0, .string ⟨#[97]⟩), (2, .int .u8 48), (10, .agg #[.int .i64 1, .int .i64 2])] = some mAw.cells.toArray := by kernel_rfl
def zMb : List Value := (Mb.mk [] [] 0 0 0 0 [] [] 0 0 0 0 (.slice none 0 0) []).cells
theorem infoMbW : (Tryz.prog.info? 34).map (fun i => (i.zero, i.size)) = some (some (.agg zMb.toArray), 14) := by kernel_rfl

set_option maxRecDepth 100000 in
set_option maxHeartbeats 1000000 in
theorem awake7_any (w : World) (ht : TabOk w) :
    Calls Tryz.prog 9 #[] w fun e w' => Below w.heap.size w w' ∧ e = .returned (.bool true) := by
  have hz := (zero_of_info infoHd).1
  have hzm := (zero_of_info infoMbW).1
  have HH := Lib.hid (fun w1 => head_aw w1)
  have HW := Lib.hid (fun w1 => wanted_aw w1)
  have Ht := Lib.hid ht
  have Hsm := Lib.hid sizeMb
  have Hbm := Lib.hid builtMb
  have Hs13 := Lib.hid (show (Tryz.prog.info? 30).map (·.size) = some (hAw [97]).cells.toArray.size from head_size _)
  have Hone := Lib.hid (show (hAw [97]).cells.toArray.all (·.oneCell') = true by simp [hAw, Hd.cells, Value.oneCell'])
  have Honem := Lib.hid (show mAw.cells.toArray.all (·.oneCell') = true by simp [mAw, Mb.cells, Value.oneCell'])
  have Hsz := Lib.hid (show Hd.zero.cells.toArray.size = (hAw [97]).cells.toArray.size from rfl)
  have Hszm := Lib.hid (show zMb.toArray.size = mAw.cells.toArray.size from rfl)
  have Hn0 := Lib.hid (Holds.new w 34 zMb)
  have Ho := Lib.hid (Holds.new w 34 mAw.cells)
  have Hb := Lib.hid ((Below.refl w.heap.size w).alloc (Nat.le_refl _) (.cells mAw.cells.toArray 34))
  have H7 := Lib.hid (show (hAw [97]).cells[7]? = some (.int .i64 0) from rfl)
  rw [tx12] at HW
  unfold Mb.val Hd.val at *
  clear ht
  generalize mAw.cells = C at *
  generalize zMb = ZM at *
  generalize Hd.zero.cells = Z at *
  generalize (hAw [97]).cells = HC at *
  go_enter Tryz.func9, Tryz.ntmps9
  go_wp2_with (first
    | (refine wpList_build_is (by rfl) 34 _ (by rfl) _ _ Hbm.out ?_ ?_; first | kernel_rfl | simp [Act.eval])
    | (refine wpList_store_row (by rfl) 34 _ _ (by rfl) w.heap.size C.toArray (by rfl) (by rfl) _ _ Hn0.out Hsm.out (by exact Hszm.out) Honem.out ?_; rw [World.setRow_alloc_new])
    | (refine wpList_load_row (by rfl) 34 _ (by rfl) w.heap.size (by rfl) _ _ _ _ Ho.out Tryz.underlying34 rfl Hsm.out ?_)
    | fail)
  refine (HH.out _ (Ht.out.below Hb.out (Nat.le_refl _))).mono ?_
  rintro e w1 ⟨hb1, rfl⟩
  have Hb1 := Lib.hid (Hb.out.trans (hb1.mono (by simp)))
  have Hn := Lib.hid (Holds.new w1 30 Z)
  have Hn2 := Lib.hid (Holds.new w1 30 HC)
  have Ho1 := Lib.hid ((Ho.out.under hb1 Ho.out.lt).behind (.cells HC.toArray 30))
  clear hb1 Ho Hn0 Hb
  go_wp2_with (first
    | (refine wpList_store_row (by rfl) 30 _ _ (by rfl) w1.heap.size HC.toArray (by rfl) (by rfl) _ _ Hn.out Hs13.out (by exact Hsz.out) Hone.out ?_; rw [World.setRow_alloc_new])
    | (refine wpList_load_row (by rfl) 34 _ (by rfl) w.heap.size (by rfl) _ _ _ _ Ho1.out Tryz.underlying34 rfl Hsm.out ?_)
    | fail)
  have hb2 : Below w.heap.size w (w1.alloc (.cells HC.toArray 30)) := Hb1.out.alloc Hb1.out.size _
  refine (HW.out _ (Ht.out.below hb2 (Nat.le_refl _))).mono ?_
  rintro e w2 ⟨hb3, v, rfl, hv⟩
  have h7 := (Hn2.out.under hb3 Hn2.out.lt).at H7.out
  have Hb3 := Lib.hid (hb2.trans (hb3.mono hb2.size))
  obtain ⟨ad, cap, rfl, hp⟩ := hv.pairs
  rcases hp with hp | ⟨b, o, rfl, hbl, hpa⟩
  · cases hp
  · obtain ⟨q0, q1⟩ := hpa 0 (by decide)
    rw [Nat.zero_mul, Nat.add_zero] at q0 q1
    have q0 : w2.cell? ⟨b, o, none⟩ = some (.string ⟨([109, 116, 105, 109, 101] : List UInt8).toArray⟩) := q0
    have q1 : w2.cell? ⟨b, o + 1, none⟩ = some (.string ⟨([49, 46, 48, 48, 48, 48, 48, 48, 48, 48, 50] : List UInt8).toArray⟩) := q1
    have he := pair_eql ([109, 116, 105, 109, 101], [49, 46, 48, 48, 48, 48, 48, 48, 48, 48, 50]) ([109, 116, 105, 109, 101], [49, 46, 48, 48, 48, 48, 48, 48, 48, 48, 50]) w2
    rw [decide_eq_true rfl] at he
    clear hv hpa
    go_wp2
    go_ret
    exact ⟨Hb3.out, rfl⟩
end Go.Proofs.YtjmmecokfijglaaGreatDoor
namespace Go.Proofs.YtjmmecokfijglaaGreatDoor
open Go.ChangeShapes Go.WideShapes Go.ChangeAt Go.RowKit Go.Maps

theorem builtHz : Tryz.prog.built 30 [] = some Hd.zero.cells.toArray := by kernel_rfl
/-- A head, records, an error's number. -/
structure Dv where
  h : Hd
  l : List Pr
  e : Int
def dvRes (m : Mb) (n : Int) (X : List Pr) : Dv := if mbRight m X = 0 then (if 0 ≤ n ∧ n ≤ 9007199254740991 then ⟨dvHd m n (fun _ => false), mMerge X (dvRec m n), 0⟩ else ⟨Hd.zero, [], 6⟩) else ⟨Hd.zero, [], mbRight m X⟩
/-- A member that a call is given, with the records of its own. -/
structure MbIn (m : Mb) (X : List Pr) (ax : Option Addr) (cx : Nat) (w : World) : Prop where
  ex : m.extra = .slice ax X.length cx
  pairs : PairsIn w (.slice ax X.length cx) X
  fits : prFits 140737488355328 X
  len : X.length ≤ 2199023255552
  lName : m.name.length ≤ 70368744177664
  lLink : m.link.length ≤ 70368744177664
  lUname : m.uname.length ≤ 70368744177664
  lGname : m.gname.length ≤ 70368744177664
theorem MbIn.under {m : Mb} {X : List Pr} {ax : Option Addr} {cx : Nat} {w w' : World} (h : MbIn m X ax cx w) (hb : Below w.heap.size w w') : MbIn m X ax cx w' := { h with pairs := h.pairs.under hb }

set_option maxRecDepth 100000 in
set_option maxHeartbeats 1000000 in
theorem divide_wrong (m : Mb) (n E : Int) (w : World) (hE : E ≠ 0) (hr : ∀ w1 : World, Below w.heap.size w w1 → Calls Tryz.prog 84 #[m.val] w1 fun e w' => Below w1.heap.size w1 w' ∧ e = .returned (.int .i64 E)) :
    Calls Tryz.prog 35 #[m.val, .int .i64 n] w fun e w' => Below w.heap.size w w' ∧ ∃ v, e = .returned (.tuple #[Hd.zero.val, v, .int .i64 E]) ∧ OwnP w' w.heap.size v [] := by
  have hz := (zero_of_info infoHd).1
  have Hbz := Lib.hid builtHz
  have Hsm := Lib.hid (mb_size m)
  have Hright := Lib.hid hr
  have Ho := Lib.hid (show Holds ((w.alloc (.cells m.cells.toArray 34)).alloc (.cells Hd.zero.cells.toArray 30)) w.heap.size 34 m.cells from (Holds.new w _ _).behind _)
  have Hz := Lib.hid (show Holds ((w.alloc (.cells m.cells.toArray 34)).alloc (.cells Hd.zero.cells.toArray 30)) (w.heap.size + 1) 30 Hd.zero.cells from by
    have := Holds.new (w.alloc (.cells m.cells.toArray 34)) 30 Hd.zero.cells
    rwa [World.size_alloc] at this)
  have Hb0 := Lib.hid (((Below.refl w.heap.size w).alloc (Nat.le_refl _) (.cells m.cells.toArray 34)).alloc (by simp) (.cells Hd.zero.cells.toArray 30))
  have Hs13 := Lib.hid (head_size Hd.zero)
  have Hone := Lib.hid Hd.zero.cells_one
  have hE0 : (E == 0) = false := by simpa using hE
  unfold Mb.val Hd.val at *
  clear hr
  generalize m.cells = C at *
  generalize Hd.zero.cells = Z at *
  go_enter Tryz.func35, Tryz.ntmps35
  go_wp2_with (first
    | (refine wpList_load_row (by rfl) 34 _ (by rfl) w.heap.size (by rfl) _ _ _ _ Ho.out Tryz.underlying34 rfl Hsm.out ?_)
    | fail)
  refine (Hright.out _ (Hb0.out)).mono ?_
  rintro e w1 ⟨hb1, rfl⟩
  have Hz1 := Lib.hid (Hz.out.under hb1 Hz.out.lt)
  have Hb1 := Lib.hid (Hb0.out.trans (hb1.mono (by simp; omega)))
  clear hb1 Ho Hz Hb0
  go_wp2_with (first
    | (refine wpList_build_is (by rfl) 30 _ (by rfl) _ _ Hbz.out ?_ ?_; kernel_rfl)
    | (refine wpList_store_row (by rfl) 30 _ _ (by rfl) (w.heap.size + 1) Z.toArray (by rfl) (by rfl) _ _ Hz1.out Hs13.out (by rfl) Hone.out ?_)
    | fail)
  exact bodyPost_ret (results_row3 Tryz.results35 _ _ (w.heap.size + 1) _ Z.toArray _ _ (.slice none 0 0) (.int .i64 E) (by rfl) (by rfl) (by rfl) (setRow_heap _ _ _ _ _ _ Hz1.out) Tryz.underlying30 rfl Hs13.out) rfl ⟨below_setRow Hb1.out (by omega) _, .slice none 0 0, rfl, World.ownsRow_nil _ _ _ _⟩

set_option maxRecDepth 100000 in
set_option maxHeartbeats 1000000 in
theorem divide_far (m : Mb) (n : Int) (w : World) (hn : ¬ (0 ≤ n ∧ n ≤ 9007199254740991)) (hr : ∀ w1 : World, Below w.heap.size w w1 → Calls Tryz.prog 84 #[m.val] w1 fun e w' => Below w1.heap.size w1 w' ∧ e = .returned (.int .i64 0)) :
    Calls Tryz.prog 35 #[m.val, .int .i64 n] w fun e w' => Below w.heap.size w w' ∧ ∃ v, e = .returned (.tuple #[Hd.zero.val, v, .int .i64 6]) ∧ OwnP w' w.heap.size v [] := by
  have hz := (zero_of_info infoHd).1
  have Hbz := Lib.hid builtHz
  have Hsm := Lib.hid (mb_size m)
  have Hright := Lib.hid hr
  have Ho := Lib.hid (show Holds ((w.alloc (.cells m.cells.toArray 34)).alloc (.cells Hd.zero.cells.toArray 30)) w.heap.size 34 m.cells from (Holds.new w _ _).behind _)
  have Hz := Lib.hid (show Holds ((w.alloc (.cells m.cells.toArray 34)).alloc (.cells Hd.zero.cells.toArray 30)) (w.heap.size + 1) 30 Hd.zero.cells from by
    have := Holds.new (w.alloc (.cells m.cells.toArray 34)) 30 Hd.zero.cells
    rwa [World.size_alloc] at this)
  have Hb0 := Lib.hid (((Below.refl w.heap.size w).alloc (Nat.le_refl _) (.cells m.cells.toArray 34)).alloc (by simp) (.cells Hd.zero.cells.toArray 30))
  have Hs13 := Lib.hid (head_size Hd.zero)
  have Hone := Lib.hid Hd.zero.cells_one
  have Hin := Lib.hid (fun w1 => atIsIn_any n 9007199254740991 w1)
  rw [decide_eq_false hn] at Hin
  unfold Mb.val Hd.val at *
  clear hr hn
  generalize m.cells = C at *
  generalize Hd.zero.cells = Z at *
  go_enter Tryz.func35, Tryz.ntmps35
  go_wp2_with (first
    | (refine wpList_load_row (by rfl) 34 _ (by rfl) w.heap.size (by rfl) _ _ _ _ Ho.out Tryz.underlying34 rfl Hsm.out ?_)
    | fail)
  refine (Hright.out _ (Hb0.out)).mono ?_
  rintro e w1 ⟨hb1, rfl⟩
  have Hz1 := Lib.hid (Hz.out.under hb1 Hz.out.lt)
  have Hb1 := Lib.hid (Hb0.out.trans (hb1.mono (by simp; omega)))
  clear hb1 Ho Hz Hb0
  go_wp2_with fail
  refine (Hin.out _).mono ?_
  rintro e w' ⟨rfl, rfl⟩
  go_wp2_with (first
    | (refine wpList_build_is (by rfl) 30 _ (by rfl) _ _ Hbz.out ?_ ?_; kernel_rfl)
    | (refine wpList_store_row (by rfl) 30 _ _ (by rfl) (w.heap.size + 1) Z.toArray (by rfl) (by rfl) _ _ Hz1.out Hs13.out (by rfl) Hone.out ?_)
    | fail)
  exact bodyPost_ret (results_row3 Tryz.results35 _ _ (w.heap.size + 1) _ Z.toArray _ _ (.slice none 0 0) (.int .i64 6) (by rfl) (by rfl) (by rfl) (setRow_heap _ _ _ _ _ _ Hz1.out) Tryz.underlying30 rfl Hs13.out) rfl ⟨below_setRow Hb1.out (by omega) _, .slice none 0 0, rfl, World.ownsRow_nil _ _ _ _⟩

theorem divide_any (m : Mb) (n : Int) (X : List Pr) (ax : Option Addr) (cx : Nat) (w : World) (h : MbIn m X ax cx w) (ht : TabOk w) :
    Calls Tryz.prog 35 #[m.val, .int .i64 n] w fun e w' => Below w.heap.size w w' ∧ ∃ v, e = .returned (.tuple #[(dvRes m n X).h.val, v, .int .i64 (dvRes m n X).e]) ∧ OwnP w' w.heap.size v (dvRes m n X).l := by
  have hr : ∀ w1 : World, Below w.heap.size w w1 → Calls Tryz.prog 84 #[m.val] w1 fun e w' => Below w1.heap.size w1 w' ∧ e = .returned (.int .i64 (mbRight m X)) :=
    fun w1 hb => right_any m X ax cx w1 h.ex (h.pairs.under hb) h.fits (by have := h.len; omega)
  unfold dvRes
  by_cases h0 : mbRight m X = 0
  · rw [if_pos h0]
    rw [h0] at hr
    by_cases hn : 0 ≤ n ∧ n ≤ 9007199254740991
    · rw [if_pos hn]
      exact divide_good m n X ax cx w h.ex h.pairs h.fits h.len (dvIn_of h0 hn h.lName h.lLink h.lUname h.lGname) hr ht
    · rw [if_neg hn]
      exact divide_far m n w hn hr
  · rw [if_neg h0]
    exact divide_wrong m n _ w h0 hr

set_option maxRecDepth 100000 in
theorem head_any (m : Mb) (n : Int) (X : List Pr) (ax : Option Addr) (cx : Nat) (w : World) (h : MbIn m X ax cx w) (ht : TabOk w) :
    Calls Tryz.prog 17 #[m.val, .int .i64 n] w fun e w' => Below w.heap.size w w' ∧ e = .returned (.tuple #[(dvRes m n X).h.val, .int .i64 (dvRes m n X).e]) := by
  have hz := (zero_of_info infoHd).1
  have HD := Lib.hid (fun w1 (hb : Below w.heap.size w w1) => divide_any m n X ax cx w1 (h.under hb) (ht.below hb (Nat.le_refl _)))
  have Hsm := Lib.hid (mb_size m)
  have Hs13 := Lib.hid (head_size (dvRes m n X).h)
  have Hone := Lib.hid ((dvRes m n X).h.cells_one)
  have Hsz := Lib.hid (show Hd.zero.cells.toArray.size = (dvRes m n X).h.cells.toArray.size from rfl)
  have Ho := Lib.hid (show Holds ((w.alloc (.cells m.cells.toArray 34)).alloc (.cells Hd.zero.cells.toArray 30)) w.heap.size 34 m.cells from (Holds.new w _ _).behind _)
  have Hz := Lib.hid (show Holds ((w.alloc (.cells m.cells.toArray 34)).alloc (.cells Hd.zero.cells.toArray 30)) (w.heap.size + 1) 30 Hd.zero.cells from by
    have := Holds.new (w.alloc (.cells m.cells.toArray 34)) 30 Hd.zero.cells
    rwa [World.size_alloc] at this)
  have Hb := Lib.hid (((Below.refl w.heap.size w).alloc (Nat.le_refl _) (.cells m.cells.toArray 34)).alloc (by simp) (.cells Hd.zero.cells.toArray 30))
  unfold Mb.val Hd.val at *
  clear h ht
  generalize (dvRes m n X).e = E at *
  generalize (dvRes m n X).l = L at *
  generalize m.cells = C at *
  generalize Hd.zero.cells = Z at *
  generalize (dvRes m n X).h.cells = HC at *
  go_enter Tryz.func17, Tryz.ntmps17
  go_wp2_with (first
    | (refine wpList_load_row (by rfl) 34 _ (by rfl) w.heap.size (by rfl) _ _ _ _ Ho.out Tryz.underlying34 rfl Hsm.out ?_)
    | fail)
  refine (HD.out _ Hb.out).mono ?_
  rintro e w1 ⟨hb1, v, rfl, hv⟩
  have Hz1 := Lib.hid (Hz.out.under hb1 Hz.out.lt)
  have Hb1 := Lib.hid (Hb.out.trans (hb1.mono (by simp; omega)))
  have Hn := Lib.hid (Holds.new w1 30 Z)
  have Hn2 := Lib.hid (Holds.new w1 30 HC)
  have Hz2 := Lib.hid (Hz1.out.behind (.cells HC.toArray 30))
  clear hb1 Ho Hz HD
  go_wp2_with (first
    | (refine wpList_store_row (by rfl) 30 _ _ (by rfl) w1.heap.size HC.toArray (by rfl) (by rfl) _ _ Hn.out Hs13.out (by exact Hsz.out) Hone.out ?_; rw [World.setRow_alloc_new])
    | (refine wpList_load_row (by rfl) 30 _ (by rfl) w1.heap.size (by rfl) _ _ _ _ Hn2.out Tryz.underlying30 rfl Hs13.out ?_)
    | (refine wpList_store_row (by rfl) 30 _ _ (by rfl) (w.heap.size + 1) HC.toArray (by rfl) (by rfl) _ _ Hz2.out Hs13.out (by exact Hsz.out) Hone.out ?_)
    | fail)
  exact bodyPost_ret (results_rowA2 Tryz.results17 _ _ (w.heap.size + 1) _ HC.toArray _ _ _ (by rfl) (by rfl) (setRow_heap _ _ _ _ _ _ Hz2.out) Tryz.underlying30 rfl Hs13.out) rfl ⟨below_setRow (Hb1.out.alloc Hb1.out.size _) (by omega) _, rfl⟩

set_option maxRecDepth 100000 in
theorem wanted_any (m : Mb) (n : Int) (X : List Pr) (ax : Option Addr) (cx : Nat) (w : World) (h : MbIn m X ax cx w) (ht : TabOk w) :
    Calls Tryz.prog 18 #[m.val, .int .i64 n] w fun e w' => Below w.heap.size w w' ∧ ∃ v, e = .returned (.tuple #[v, .int .i64 (dvRes m n X).e]) ∧ OwnP w' w.heap.size v (dvRes m n X).l := by
  have hz := (zero_of_info infoHd).1
  have HD := Lib.hid (fun w1 (hb : Below w.heap.size w w1) => divide_any m n X ax cx w1 (h.under hb) (ht.below hb (Nat.le_refl _)))
  have Hsm := Lib.hid (mb_size m)
  have Hs13 := Lib.hid (head_size (dvRes m n X).h)
  have Hone := Lib.hid ((dvRes m n X).h.cells_one)
  have Hsz := Lib.hid (show Hd.zero.cells.toArray.size = (dvRes m n X).h.cells.toArray.size from rfl)
  have Ho := Lib.hid (show Holds (w.alloc (.cells m.cells.toArray 34)) w.heap.size 34 m.cells from Holds.new w _ _)
  have Hb := Lib.hid ((Below.refl w.heap.size w).alloc (Nat.le_refl _) (.cells m.cells.toArray 34))
  unfold Mb.val Hd.val at *
  clear h ht
  generalize (dvRes m n X).e = E at *
  generalize (dvRes m n X).l = L at *
  generalize m.cells = C at *
  generalize Hd.zero.cells = Z at *
  generalize (dvRes m n X).h.cells = HC at *
  go_enter Tryz.func18, Tryz.ntmps18
  go_wp2_with (first
    | (refine wpList_load_row (by rfl) 34 _ (by rfl) w.heap.size (by rfl) _ _ _ _ Ho.out Tryz.underlying34 rfl Hsm.out ?_)
    | fail)
  refine (HD.out _ Hb.out).mono ?_
  rintro e w1 ⟨hb1, v, rfl, hv⟩
  have Hb1 := Lib.hid (Hb.out.trans (hb1.mono (by simp)))
  have Hn := Lib.hid (Holds.new w1 30 Z)
  have Hv := Lib.hid (show OwnP (w1.alloc (.cells HC.toArray 30)) w.heap.size v L from World.ownsRow.alloc (Joins.ownsRow_le hv (by simp)) _)
  clear hb1 Ho HD hv
  go_wp2_with (first
    | (refine wpList_store_row (by rfl) 30 _ _ (by rfl) w1.heap.size HC.toArray (by rfl) (by rfl) _ _ Hn.out Hs13.out (by exact Hsz.out) Hone.out ?_; rw [World.setRow_alloc_new])
    | fail)
  go_ret2
  exact ⟨Hb1.out.alloc Hb1.out.size _, v, rfl, Hv.out⟩
end Go.Proofs.YtjmmecokfijglaaGreatDoor
namespace Go.Proofs.YtjmmecokfijglaaGreatDoor
open Go.ChangeShapes Go.WideShapes Go.ChangeAt Go.RowKit Go.Maps

theorem mPut_length (l : List Pr) (p : Pr) : (mPut l p).length ≤ l.length + 1 := by
  have h1 : ∀ m : List Pr, (mIns p m).length = m.length + 1 := by
    intro m
    induction m with
    | nil => rfl
    | cons y r ih => unfold mIns; split <;> simp [ih]
  unfold mPut
  rw [h1]
  have := List.length_filter_le (fun y : Pr => !(y.1 == p.1)) l
  omega

set_option maxRecDepth 100000 in
set_option maxHeartbeats 1000000 in
theorem refMerge_any (g l : List Pr) (ag al : Option Addr) (cg cl : Nat) (w : World) (hg : PairsIn w (.slice ag g.length cg) g) (hl : PairsIn w (.slice al l.length cl) l)
    (hlen : g.length + l.length ≤ 1099511627776) :
    Calls Tryz.prog 12 #[.slice ag g.length cg, .slice al l.length cl] w fun e w' => Below w.heap.size w w' ∧ ∃ v, e = .returned v ∧ OwnP w' w.heap.size v (mMerge g l) := by
  have Hg := Lib.hid hg.cells
  have Hl := Lib.hid hl.cells
  have Hlen := Lib.hid hlen
  generalize hR : mMerge g l = R
  have HR := Lib.hid hR
  clear hg hl hlen hR
  go_enter Tryz.func12, Tryz.ntmps12
  go_wp2
  go_loopw [5, 6] (fun o i wr => ∃ (k : Nat) (M : List Pr) (av : Option Addr) (cs : Nat), o = .slice av M.length cs ∧ i = .int .i64 k ∧ k ≤ g.length ∧ M = mAll [] (g.take k) ∧ Rising M ∧ M.length ≤ k ∧ PairsIn wr (.slice av M.length cs) M ∧ Below w.heap.size w wr) (fun _ i _ => g.length - (intOf i).toNat)
  case atStart => exact ⟨0, [], some ⟨w.heap.size, 0, none⟩, 0, rfl, rfl, Nat.zero_le _, rfl, List.Pairwise.nil, Nat.zero_le _, (OwnP.fresh w).pairs, (Below.refl _ _).alloc (Nat.le_refl _) _⟩
  case round =>
    obtain ⟨k, M, av, cs, rfl, rfl, hk, hM, hris, hMl, hin, hb⟩ := hrel
    have HM := Lib.hid hM
    have Hris := Lib.hid hris
    have Hin := Lib.hid hin
    have Hb := Lib.hid hb
    clear hM hris hin hb
    by_cases hlt : k < g.length
    · obtain ⟨b, o, rfl, hb0, c1, c2⟩ := Hg.out k hlt
      have hkb : (k : Int) ≤ 1099511627776 := by have := Hlen.out; omega
      rw [← Hb.out.cell (p := ⟨b, o + k * 2, none⟩) hb0] at c1
      rw [← Hb.out.cell (p := ⟨b, o + k * 2 + 1, none⟩) hb0] at c2
      have Hst := Lib.hid (show mAll [] (g.take (k + 1)) = mPut M g[k] by rw [mAll_take [] hlt, ← HM.out])
      have hlt2 : (k : Int) < g.length := by omega
      generalize g[k] = p at *
      obtain ⟨x, y⟩ := p
      have hput := refPut_any M (x, y) av cs wr Hin.out (by have := Hlen.out; omega)
      unfold prVal at hput
      rw [rPut_eq (x, y) M Hris.out] at hput
      have Hput := Lib.hid hput
      clear hput
      go_wp2_with (fail)
      refine Hput.out.mono ?_
      rintro e w1 ⟨hb1, v, rfl, hown⟩
      obtain ⟨av2, cs2, rfl⟩ := hown.slice
      have Hin1 := Lib.hid hown.pairs
      have Hb1 := Lib.hid (Hb.out.trans (hb1.mono Hb.out.size))
      have hl1 := mPut_length M (x, y)
      clear hown hb1
      go_wp2
      go_roundw
      case rel => exact ⟨k + 1, _, av2, cs2, rfl, by go_num, by omega, Hst.out.symm, mPut_rising Hris.out, by omega, Hin1.out, Hb1.out⟩
      case measure => simp [intOf]; omega
    · have hkn : k = g.length := by omega
      subst hkn
      rw [List.take_length] at HM
      clear Hg hlt
      go_wp2
      go_loopw [5, 7] (fun o i wr => ∃ (k : Nat) (N : List Pr) (av : Option Addr) (cs : Nat), o = .slice av N.length cs ∧ i = .int .i64 k ∧ k ≤ l.length ∧ N = mAll M (l.take k) ∧ Rising N ∧ N.length ≤ g.length + k ∧ PairsIn wr (.slice av N.length cs) N ∧ Below w.heap.size w wr) (fun _ i _ => l.length - (intOf i).toNat)
      case atStart => exact ⟨0, M, av, cs, rfl, rfl, Nat.zero_le _, rfl, Hris.out, by omega, Hin.out, Hb.out⟩
      case round =>
        obtain ⟨k, N, av, cs, rfl, rfl, hk, hN, hris, hNl, hin, hb⟩ := hrel
        have HN := Lib.hid hN
        clear Hris Hin Hb
        have Hris := Lib.hid hris
        have Hin := Lib.hid hin
        have Hb := Lib.hid hb
        clear hN hris hin hb
        by_cases hlt : k < l.length
        · obtain ⟨b, o, rfl, hb0, c1, c2⟩ := Hl.out k hlt
          have hkb : (k : Int) ≤ 1099511627776 := by have := Hlen.out; omega
          rw [← Hb.out.cell (p := ⟨b, o + k * 2, none⟩) hb0] at c1
          rw [← Hb.out.cell (p := ⟨b, o + k * 2 + 1, none⟩) hb0] at c2
          have Hst := Lib.hid (show mAll M (l.take (k + 1)) = mPut N l[k] by rw [mAll_take M hlt, ← HN.out])
          have hlt2 : (k : Int) < l.length := by omega
          generalize l[k] = p at *
          obtain ⟨x, y⟩ := p
          have hput := refPut_any N (x, y) av cs wr Hin.out (by have := Hlen.out; omega)
          unfold prVal at hput
          rw [rPut_eq (x, y) N Hris.out] at hput
          have Hput := Lib.hid hput
          clear hput
          go_wp2_with (fail)
          refine Hput.out.mono ?_
          rintro e w1 ⟨hb1, v, rfl, hown⟩
          obtain ⟨av2, cs2, rfl⟩ := hown.slice
          have Hin1 := Lib.hid hown.pairs
          have Hb1 := Lib.hid (Hb.out.trans (hb1.mono Hb.out.size))
          have hl1 := mPut_length N (x, y)
          clear hown hb1
          go_wp2
          go_roundw
          case rel => exact ⟨k + 1, _, av2, cs2, rfl, by go_num, by omega, Hst.out.symm, mPut_rising Hris.out, by omega, Hin1.out, Hb1.out⟩
          case measure => simp [intOf]; omega
        · have hkn : k = l.length := by omega
          subst hkn
          rw [List.take_length, HM.out] at HN
          have HR2 := Lib.hid (show N.filter full = R by rw [HN.out]; exact HR.out)
          have Hc := Lib.hid Hin.out.cells
          have HNl := Lib.hid (show N.length ≤ 1099511627776 by have := Hlen.out; omega)
          obtain ⟨i0, hi, hz0, hz1, hz2⟩ := info_parts zero_pair
          clear Hl hlt HM HN Hris Hin hNl hMl
          go_wp2
          go_loopw [8, 9] (fun s i wx => ∃ (j : Nat) (F : List Pr) (au : Option Addr) (cu : Nat), s = .slice au F.length cu ∧ i = .int .i64 j ∧ j ≤ N.length ∧ F = (N.take j).filter full ∧ OwnP wx wr.heap.size (.slice au F.length cu) F ∧ Below wr.heap.size wr wx) (fun _ i _ => N.length - (intOf i).toNat)
          case atStart => exact ⟨0, [], some ⟨wr.heap.size, 0, none⟩, 0, rfl, rfl, Nat.zero_le _, rfl, OwnP.fresh wr, (Below.refl _ _).alloc (Nat.le_refl _) _⟩
          case round =>
            obtain ⟨j, F, au, cu, rfl, rfl, hj, hF, hownp, hbx⟩ := hrel
            rename World => wx
            have Hownp := Lib.hid hownp
            have Hbx := Lib.hid hbx
            have HF := Lib.hid hF
            clear hownp hbx hF
            by_cases hlt : j < N.length
            · obtain ⟨b, o, rfl, hb0, c1, c2⟩ := Hc.out j hlt
              rw [← Hbx.out.cell (p := ⟨b, o + j * 2, none⟩) hb0] at c1
              rw [← Hbx.out.cell (p := ⟨b, o + j * 2 + 1, none⟩) hb0] at c2
              have Hst := Lib.hid (show (N.take (j + 1)).filter full = F ++ (if full N[j] = true then [N[j]] else []) by rw [filter_take hlt, ← HF.out])
              have hfl : F.length ≤ j := by
                have h1 := List.length_filter_le full (N.take j)
                rw [List.length_take, ← HF.out] at h1
                omega
              have hjb : (j : Int) ≤ 1099511627776 := by have := HNl.out; omega
              have hlt2 : (j : Int) < N.length := by omega
              generalize N[j] = p at *
              obtain ⟨x, y⟩ := p
              simp only at c1 c2
              cases y with
              | nil =>
                go_wp2
                go_roundw
                case rel => exact ⟨j + 1, F, au, cu, rfl, by go_num, by omega, by rw [Hst.out]; simp [full], Hownp.out, Hbx.out⟩
                case measure => simp [intOf]; omega
              | cons y0 y =>
                generalize hyy : y0 :: y = yy at *
                have Hyy := Lib.hid (show full (x, yy) = true by rw [← hyy]; rfl)
                have hne : (yy == []) = false := by rw [← hyy]; rfl
                clear hyy
                go_wp2_with (first | (at_builtin; go_loud (refine wpList_append_own _ rfl _ _ 22 rfl wr.heap.size 27 i0 (.agg #[.string ⟨#[]⟩, .string ⟨#[]⟩]) 2 32 Tryz.underlying22 hi hz0 hz1 hz2 rfl (by decide) _ _ _ rfl (World.ownsRow.alloc Hownp.out _) ⟨wx.heap.size, 0, none⟩ 1 1 [.string ⟨x.toArray⟩, .string ⟨yy.toArray⟩] rfl rfl (fun j u hj => cell_two_new wx _ _ 27 j u hj) (one_two _ _) ?c3 ?c4 ?c5 ?_)) | go_in)
                case c3 => have := HNl.out; unfold maxLen; omega
                case c4 => have := HNl.out; omega
                case c5 => have := Hbx.out.size; simp; omega
                intro v' w2 hown2 hgrow hnil
                have hown3 : OwnP w2 wr.heap.size v' (F ++ [(x, yy)]) := by
                  show w2.ownsRow wr.heap.size _ 2 v' (F ++ [(x, yy)]).length (pairCells (F ++ [(x, yy)]))
                  rw [pairCells_append, List.length_append]
                  exact hown2
                have hb3 : Below wr.heap.size wr w2 := (Hbx.out.alloc Hbx.out.size _).grown hgrow (by have := Hbx.out.size; simp; omega) (fun k hk => (Hownp.out.lt k hk).1)
                obtain ⟨av2, cs2, rfl⟩ := hown3.slice
                have Hown3 := Lib.hid hown3
                have Hb3 := Lib.hid hb3
                clear hown2 hgrow hown3 hb3 hnil
                go_wp2
                go_roundw
                case rel => exact ⟨j + 1, _, av2, cs2, rfl, by go_num, by omega, by rw [Hst.out, if_pos Hyy.out], Hown3.out, Hb3.out⟩
                case measure => simp [intOf]; omega
            · have hjn : j = N.length := by omega
              subst hjn
              have hFR : F = R := by rw [HF.out, List.take_length]; exact HR2.out
              subst hFR
              go_wp2
              go_ret
              exact ⟨Hb.out.trans (Hbx.out.mono Hb.out.size), _, rfl, Hownp.out.base Hb.out.size⟩
end Go.Proofs.YtjmmecokfijglaaGreatDoor
