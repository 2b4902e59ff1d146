/-
  Texts of this seat's proof, joined: their order is that of the build.
-/
import Derived.Test.YtjmmecokfijglaaGreatDoorJB11
import Derived.Test.YtjmmecokfijglaaGreatDoorJB16
import Derived.Deep.WholeRow
import Derived.Maps.RangeWalk
import Derived.Deep.MidRow
import Derived.Deep.RegionWith
import Derived.Lib.SmallJoins
namespace Go.Proofs.YtjmmecokfijglaaGreatDoor
open Go.ChangeShapes Go.WideShapes Go.ChangeAt Go.RowKit Go.Maps

def mAw : Mb := ⟨[97], [], 48, 0, 0, 0, [], [], 0, 0, 1, 2, .slice none 0 0, []⟩
def hAw (nm : List UInt8) : Hd := ⟨nm, [], 48, 0, 0, 0, 0, 0, [], [], 0, 0, 2⟩
def mcAw : List Value := mAw.cells ++ [.int .i64 0]
def zParts : List Value := (Mb.mk [] [] 0 0 0 0 [] [] 0 0 0 0 (.slice none 0 0) []).cells ++ [.int .i64 0] ++ Hd.zero.cells
theorem infoHd : (Tryz.prog.info? 30).map (fun i => (i.zero, i.size)) = some (some (.agg Hd.zero.cells.toArray), 13) := by kernel_rfl
theorem infoPa : (Tryz.prog.info? 78).map (fun i => (i.zero, i.size)) = some (some (.agg zParts.toArray), 28) := by kernel_rfl
theorem builtHd : Tryz.prog.built 30 [(2, .int .u8 48), (3, .int .i64 0), (10, .int .i64 0), (11, .int .i64 0), (12, .int .i64 2)] = some (hAw []).cells.toArray := by kernel_rfl
theorem builtPa : Tryz.prog.built 78 [(0, mAw.val), (1, .int .i64 0), (2, (hAw []).val)] = some (mcAw ++ (hAw []).cells).toArray := by kernel_rfl
theorem sizeMb : (Tryz.prog.info? 34).map (·.size) = some mAw.cells.toArray.size := by
  have h : (Tryz.prog.info? 34).map (·.size) = some 14 := by kernel_rfl
  rw [h]; rfl
theorem fitsAw : hdFits (hAw []) = 0 ∧ hdFits (hAw [97]) = 0 := by
  constructor <;> decide

/-- All below a block is as it was, but for two blocks. -/
structure DvK (W w : World) (p r : Nat) : Prop where
  os : w.os = W.os
  tape : w.tape = W.tape
  output : w.output = W.output
  size : W.heap.size ≤ w.heap.size
  block : ∀ k, k < W.heap.size → k ≠ p → k ≠ r → w.heap[k]? = W.heap[k]?
theorem DvK.refl (W : World) (p r : Nat) : DvK W W p r := ⟨rfl, rfl, rfl, Nat.le_refl _, fun _ _ _ _ => rfl⟩
theorem DvK.grown {W w w' : World} {p r : Nat} (h : DvK W w p r) {row : Option Nat} (g : w.grownBy w' row) (hr : ∀ k, row = some k → k = p ∨ k = r ∨ W.heap.size ≤ k) : DvK W w' p r :=
  ⟨g.os.trans h.os, g.tape.trans h.tape, g.output.trans h.output, Nat.le_trans h.size g.size, fun k hk h1 h2 => (g.block k (Nat.lt_of_lt_of_le hk h.size) (fun e => by
    rcases hr k e.symm with h3 | h3 | h3
    · exact h1 h3
    · exact h2 h3
    · omega)).trans (h.block k hk h1 h2)⟩
theorem DvK.holds {W w : World} {p r g : Nat} {t : TypeId} {cs : List Value} (h : DvK W w p r) (hh : Holds W g t cs) (h1 : g ≠ p) (h2 : g ≠ r) : Holds w g t cs := (h.block g hh.lt h1 h2).trans hh
theorem DvK.below {W w w0 : World} {p r : Nat} (h : DvK W w p r) (hb : Below w0.heap.size w0 W) (h1 : w0.heap.size ≤ p) (h2 : w0.heap.size ≤ r) : Below w0.heap.size w0 w :=
  hb.trans ⟨h.os, h.tape, h.output, h.size, fun k hk => by
    by_cases hk2 : k < W.heap.size
    · exact h.block k hk2 (by omega) (by omega)
    · have := hb.size; omega⟩

theorem okAw (nm : List UInt8) : (hAw nm).okN := by
  intro k hk
  rcases lt7 hk with rfl | rfl | rfl | rfl | rfl | rfl | rfl <;> simp [nv, hAw]
theorem leftGone {left : Lit → Bool} {x y : List UInt8} (h : (y == x) = false) : (left (.string y) && !(Lit.string y).sameKey (.string x)) = left (.string y) := by
  have e : (Lit.string y).sameKey (.string x) = (y == x) := rfl
  rw [e, h]; simp
theorem putEnd_fit {h h' : Hd} (hf : hdFits h' = 0) : putEnd h h' = h' := if_pos hf
theorem putEnd_self (h : Hd) : putEnd h h = h := by unfold putEnd; split <;> rfl
theorem fitsEither {nm : List UInt8} (h : nm = [97] ∨ nm = []) : (hdFits (hAw nm) == 0) = true := by
  rcases h with rfl | rfl
  · rw [fitsAw.2]; rfl
  · rw [fitsAw.1]; rfl
theorem tx12 : stText 1 2 = [49, 46, 48, 48, 48, 48, 48, 48, 48, 48, 50] := by
  unfold stText dec2
  simp [Lib.decDigits]
  decide
theorem merge_one (k x : List UInt8) (h : x ≠ []) : mMerge [] [(k, x)] = [(k, x)] := by
  unfold mMerge
  have e : mAll (mAll [] []) [(k, x)] = [(k, x)] := mPut_new (l := []) (p := (k, x)) (fun q hq => by cases hq)
  rw [e]
  cases x with
  | nil => exact absurd rfl h
  | cons a b => rfl
/-- Cells that are written one behind the other. -/
def setL : List Value → Nat → List Value → List Value
  | cs, _, [] => cs
  | cs, o, v :: r => setL (cs.set o v) (o + 1) r
theorem Holds.setCells {g : Nat} {t : TypeId} : ∀ (vs : List Value) (o : Nat) (w : World) (cs : List Value), Holds w g t cs → Holds (w.setCells g o vs) g t (setL cs o vs)
  | [], _, _, _, h => h
  | v :: r, o, w, cs, h => by
    rw [World.setCells]
    exact Holds.setCells r (o + 1) _ _ (h.put o v)
theorem below_setCellsU {B : Nat} {w0 : World} (b : Nat) (hB : B ≤ b) : ∀ (vs : List Value) (o : Nat) (w : World), Below B w0 w → Below B w0 (w.setCells b o vs)
  | [], _, _, h => h
  | v :: r, o, w, h => by
    rw [World.setCells]
    exact below_setCellsU b hB r (o + 1) _ (h.setCell hB v)
theorem owns_setCells {base : Nat} {e : TypeId} {size n : Nat} {v : Value} {xs : List Value} (b : Nat) (hv : v.ownBlock ≠ some b) : ∀ (vs : List Value) (o : Nat) (w : World), w.ownsRow base e size v n xs → (w.setCells b o vs).ownsRow base e size v n xs
  | [], _, _, h => h
  | u :: r, o, w, h => by
    rw [World.setCells]
    refine owns_setCells b hv r (o + 1) _ (h.kept (row := some b) ⟨rfl, rfl, rfl, by simp [World.setCell], fun k _ hk => Below.heap_setCell _ _ _ _ (fun e => hk (by simp [e]))⟩ (.inr hv))
theorem ld_head {wx : World} {b : Nat} (h : Holds wx b 78 (mcAw ++ (hAw [97]).cells)) :
    (loadVar 30 ⟨b, 15, none⟩).run Tryz.prog wx = .ok (.agg (hAw [97]).cells.toArray) wx := by
  refine run_loadVar_mid wx b 15 30 (hAw [97]).cells _ (fun j v hj => ?_) Tryz.underlying30 rfl (by kernel_rfl)
  refine h.at ?_
  rw [List.getElem?_append_right (by show 15 ≤ 15 + j; omega)]
  show (hAw [97]).cells[15 + j - 15]? = some v
  rw [Nat.add_sub_cancel_left]
  exact hj
theorem st_head {wx : World} {b : Nat} (h : Holds wx b 30 Hd.zero.cells) :
    (storeVar 30 ⟨b, 0, none⟩ (.agg (hAw [97]).cells.toArray)).run Tryz.prog wx = .ok () (wx.setCells b 0 (hAw [97]).cells) := by
  refine run_storeVar_mid wx b 0 30 (hAw [97]).cells.toArray (fun j hj => ?_) (by kernel_rfl) (by simp [hAw, Hd.cells, Value.oneCell'])
  have hj2 : j < Hd.zero.cells.length := hj
  have := h.cell hj2
  rw [Nat.zero_add]
  exact ⟨by rw [this]; rfl, h.frozen j⟩
theorem results_row3 {P : Program} {fn : Func} {p q s : Tmp} {ty : TypeId} (h : fn.results = #[.cell p ty, .tmp q, .tmp s]) (tmps : Array Value) (w : World) (g : Nat) (t : TypeId) (cs : Array Value) (fr : Nat × Nat) (d : TypeDesc) (v u : Value)
    (hp : tmps.getD p undef = .pointer (some ⟨g, 0, none⟩)) (hq : tmps.getD q undef = v) (hs : tmps.getD s undef = u) (hg : w.heap[g]? = some (.cells cs t fr))
    (hu : P.underlying ty = some d) (hd : (match d with | .struct _ | .array _ _ => true | _ => false) = true) (hi : (P.info? ty).map (·.size) = some cs.size) :
    (results fn tmps).run P w = .ok (.tuple #[.agg cs, v, u]) w := by
  have hp' : tmps[p]?.getD undef = .pointer (some ⟨g, 0, none⟩) := by simpa using hp
  have hq' : tmps[q]?.getD undef = v := by simpa using hq
  have hs' : tmps[s]?.getD undef = u := by simpa using hs
  simp [results, h, hp', hq', hs', asAddr, run_loadVar_row w g t ty cs fr d hg hu hd hi]
set_option maxRecDepth 100000 in
set_option maxHeartbeats 4000000 in
theorem divide_aw (w : World) (ht : TabOk w) :
    Calls Tryz.prog 35 #[mAw.val, .int .i64 0] w fun e w' => Below w.heap.size w w' ∧ ∃ v, e = .returned (.tuple #[(hAw [97]).val, v, .int .i64 0]) ∧ OwnP w' w.heap.size v [([109, 116, 105, 109, 101], stText 1 2)] := by
  have hz := (zero_of_info infoHd).1
  have hzp := (zero_of_info infoPa).1
  have Hbh := Lib.hid builtHd
  have Hbp := Lib.hid builtPa
  have Hsm := Lib.hid sizeMb
  have hsp : (Tryz.prog.info? 78).map (·.size) = some (mcAw ++ (hAw []).cells).toArray.size := by rw [show (mcAw ++ (hAw []).cells).toArray.size = 28 from rfl]; exact (zero_of_info infoPa).2
  have Hsp := Lib.hid hsp
  have Hpone := Lib.hid (show (mcAw ++ (hAw []).cells).toArray.all (·.oneCell') = true by simp [mcAw, mAw, hAw, Mb.cells, Hd.cells, Value.oneCell'])
  have hb2 : mAw.cells[2]? = some (.int .u8 48) := rfl
  have hb3 : mAw.cells[3]? = some (.int .i64 0) := rfl
  have hb8 : mAw.cells[8]? = some (.int .i64 0) := rfl
  have hb9 : mAw.cells[9]? = some (.int .i64 0) := rfl
  have Hright := Lib.hid (fun w1 => right_ok mAw w1 rfl (by decide) (by decide) (by decide) (by decide) (by decide))
  have H2 := Lib.hid hb2
  have H3 := Lib.hid hb3
  have H8 := Lib.hid hb8
  have H9 := Lib.hid hb9
  have Ht := Lib.hid ht
  have Ho := Lib.hid (show Holds ((w.alloc (.cells mAw.cells.toArray 34)).alloc (.cells Hd.zero.cells.toArray 30)) w.heap.size 34 mAw.cells from (Holds.new w _ _).behind _)
  have Hz := Lib.hid (show Holds ((w.alloc (.cells mAw.cells.toArray 34)).alloc (.cells Hd.zero.cells.toArray 30)) (w.heap.size + 1) 30 Hd.zero.cells from by
    have := Holds.new (w.alloc (.cells mAw.cells.toArray 34)) 30 Hd.zero.cells
    rwa [World.size_alloc] at this)
  have hb12 : mAw.cells[12]? = some (.slice none 0 0) := rfl
  have H12 := Lib.hid hb12
  have Hld := Lib.hid (fun (wx : World) (b : Nat) (hh : Holds wx b 78 (mcAw ++ (hAw [97]).cells)) => ld_head hh)
  have Hsto := Lib.hid (fun (wx : World) (b : Nat) (hh : Holds wx b 30 Hd.zero.cells) => st_head hh)
  have hset : setL Hd.zero.cells 0 (hAw [97]).cells = (hAw [97]).cells := rfl
  have Hs13 := Lib.hid (And.intro hset (show (Tryz.prog.info? 30).map (·.size) = some (hAw [97]).cells.toArray.size from head_size _))
  clear hset hb12
  clear hsp hb2 hb3 hb8 hb9 ht
  have Hsz := Lib.hid (show zParts.toArray.size = (mcAw ++ (hAw []).cells).toArray.size from rfl)
  have Hin := Lib.hid (fun w1 => atIsIn_any 0 9007199254740991 w1)
  unfold Mb.val at *
  generalize hC : mAw.cells = C at *
  generalize hZ : Hd.zero.cells = Z at *
  have hZl := Lib.hid hZ
  generalize hP : mcAw ++ (hAw []).cells = PC at *
  generalize hZP : zParts = ZP at *
  go_enter Tryz.func35, Tryz.ntmps35
  go_wp2_with (first
    | (refine wpList_load_row (by rfl) 34 _ (by rfl) w.heap.size (by rfl) _ _ _ _ Ho.out Tryz.underlying34 rfl Hsm.out ?_)
    | fail)
  refine (Hright.out _).mono ?_
  rintro e w1 ⟨hb1, rfl⟩
  have Ho1 := Lib.hid (Ho.out.under hb1 Ho.out.lt)
  have Hz1 := Lib.hid (Hz.out.under hb1 Hz.out.lt)
  have Hb1 := Lib.hid ((((Below.refl w.heap.size w).alloc (Nat.le_refl _) (.cells C.toArray 34)).alloc (by simp) (.cells Z.toArray 30)).trans (hb1.mono (by simp; omega)))
  have hsz12 : w.heap.size + 2 ≤ w1.heap.size := by have := hb1.size; simp at this; omega
  clear hb1 Ho
  go_wp2_with fail
  refine (Hin.out _).mono ?_
  rintro e w' ⟨rfl, rfl⟩
  rw [show decide ((0 : Int) ≤ 0 ∧ (0 : Int) ≤ 9007199254740991) = true from rfl]
  have c2 := Ho1.out.at H2.out
  have c3 := Ho1.out.at H3.out
  have c8 := Ho1.out.at H8.out
  have c9 := Ho1.out.at H9.out
  have Hnp := Lib.hid (Holds.new w1 78 ZP)
  go_wp2_with (first
    | (refine wpList_load_row (by rfl) 34 _ (by rfl) w.heap.size (by rfl) _ _ _ _ Ho1.out Tryz.underlying34 rfl Hsm.out ?_)
    | (refine wpList_build_is (by rfl) 30 _ (by rfl) _ _ Hbh.out ?_ ?_; first | kernel_rfl | simp [Act.eval])
    | (refine wpList_build_is (by rfl) 78 _ (by rfl) _ _ Hbp.out ?_ ?_; first | kernel_rfl | simp [Act.eval, Hd.val])
    | (refine wpList_store_row (by rfl) 78 _ _ (by rfl) w1.heap.size PC.toArray (by rfl) (by rfl) _ _ Hnp.out Hsp.out (by exact Hsz.out) Hpone.out ?_; rw [World.setRow_alloc_new])
    | fail)
  refine (known_any _).mono ?_
  rintro e w2 ⟨hb2, t, hown, htbl, htin, rfl⟩
  rw [World.size_alloc] at htin
  rw [World.size_alloc] at hown
  have hPs : Holds w2 w1.heap.size 78 PC := (Holds.new w1 _ PC).under hb2 (by simp)
  have hbz := hb2.size
  rw [World.size_alloc] at hbz
  have Hb2 := Lib.hid (Hb1.out.trans (((Below.refl w1.heap.size w1).alloc (Nat.le_refl _) (.cells PC.toArray 78)).trans (hb2.mono (by simp)) |>.mono Hb1.out.size))
  have Ho2 := Lib.hid ((Ho1.out.behind (.cells PC.toArray 78)).under hb2 (by have := Ho1.out.lt; simp; omega))
  have hsz1 := Hb1.out.size
  have Hz2 := Lib.hid ((Hz1.out.behind (.cells PC.toArray 78)).under hb2 (by have := Hz1.out.lt; simp; omega))
  clear hb2 c2 c3 c8 c9 Hnp Hb1 Ho1 Hz1 hC hZ hZP hz hzp
  go_wp2_with (first
    | (at_range; refine wpList_range_own _ rfl _ 79 rfl 9 85 (string_keyed Tryz.underlying9) Tryz.underlying79 heldElem _ 8 _ rfl hown ?_; intro w3 hrg3 hg3 hs3)
    | fail)
  have Hg3 := Lib.hid hg3
  have H3b := Lib.hid (show Below w.heap.size w w3 from Hb2.out.trans ⟨hg3.os, hg3.tape, hg3.output, hg3.size, fun k hk => hg3.block k (Nat.lt_of_lt_of_le hk Hb2.out.size) (by simp)⟩)
  have Hp3 := Lib.hid (hPs.grown hg3 (by simp))
  have Ht3 := Lib.hid (show ∀ w4 : World, DvK w3 w4 w1.heap.size w2.heap.size → TblAt t w4 from fun w4 h => by
    obtain ⟨t1, t2, t3, t4, t5, t6, t7⟩ := htbl
    obtain ⟨i1, i2, i3, i4, i5, i6, i7⟩ := htin
    have hh : ∀ (g : Nat) (T : TypeId) (cs : List Value), w1.heap.size + 1 < g → Holds w2 g T cs → Holds w4 g T cs := fun g T cs hg hw => h.holds (hw.grown hg3 (by simp)) (by omega) (by have := hw.lt; omega)
    exact ⟨hh _ _ _ i1 t1, hh _ _ _ i2 t2, hh _ _ _ i3 t3, hh _ _ _ i4 t4, hh _ _ _ i5 t5, hh _ _ _ i6 t6, hh _ _ _ i7 t7⟩)
  have hr3 := hrg3
  clear hown hPs htbl htin hg3 hrg3
  go_frame
  go_loopw [9] (fun wn wr => ∃ (left : Lit → Bool) (cnt : Nat) (nm : List UInt8) (F : List Pr) (av : Option Addr) (cs : Nat), wn = .slice av F.length cs ∧ F = (if left (.string [109, 116, 105, 109, 101]) = true then [] else [([109, 116, 105, 109, 101], stText 1 2)]) ∧ OwnP wr w3.heap.size (.slice av F.length cs) F ∧
      wr.ranges Tryz.prog 9 heldElem (w1.heap.size + 1) w2.heap.size 8 (knownD t) left cnt ∧ Holds wr w1.heap.size 78 (mcAw ++ (hAw nm).cells) ∧ (nm = [97] ∨ nm = [] ∧ left (.string [112, 97, 116, 104]) = true) ∧ DvK w3 wr w1.heap.size w2.heap.size)
    (fun _ wr => wr.rangeLeft (w1.heap.size + 1) w2.heap.size)
  case atStart =>
    refine ⟨_, _, [], [], none, 0, rfl, ?_, World.ownsRow_nil _ _ _ _, hr3, ?_, .inr ⟨rfl, ?_⟩, DvK.refl _ _ _⟩
    · rw [knownD_eq]; rfl
    · rw [hP]; exact Hp3.out
    · rw [knownD_eq]; rfl
  case round =>
    obtain ⟨left, cnt, nm, F, av, cs, rfl, hF, hown, hrg, hp, hnm, hdv⟩ := hrel
    have HF := Lib.hid hF
    have Hown := Lib.hid hown
    have Hp := Lib.hid hp
    have Hnm := Lib.hid hnm
    have Hdv := Lib.hid hdv
    clear hF hown hp hnm hdv
    go_wp2_with (first
      | (at_next; refine wpList_next_ranges _ rfl _ rfl 9 (string_keyed Tryz.underlying9) heldElem encStr id (fun key kl h => by obtain ⟨x, hx, _⟩ := Maps.keyOf_str Tryz.underlying9 h; exact ⟨x, hx⟩) (fun v y _ => ⟨v, rfl⟩) (w1.heap.size + 1) w2.heap.size 8 _ _ _ rfl hrg ?_ ?_)
      | fail)
    · intro _ hl0
      have hFn : F = [([109, 116, 105, 109, 101], stText 1 2)] := by rw [HF.out, hl0]; rfl
      obtain rfl : nm = [97] := by
        rcases Hnm.out with h | ⟨_, h⟩
        · exact h
        · rw [hl0] at h; cases h
      have hzr : Holds wr (w.heap.size + 1) 30 Z := Hdv.out.holds (Hz2.out.grown Hg3.out (by simp)) (by omega) (by omega)
      have hor : Holds wr w.heap.size 34 C := Hdv.out.holds (Ho2.out.grown Hg3.out (by simp)) (by omega) (by omega)
      have c12 := hor.at H12.out
      have L1 := Hld.out wr.drew w1.heap.size Hp.out
      have hm1 : mMerge [] F = F := by rw [hFn]; exact merge_one _ _ (by rw [tx12]; decide)
      have hfit : prFits 140737488355328 F := by rw [hFn]; intro q hq; rw [List.mem_singleton.1 hq, tx12]; decide
      have hFl : F.length = 1 := by rw [hFn]; rfl
      have hop : OwnP wr.drew w3.heap.size (.slice av F.length cs) F := Hown.out
      have HM := Lib.hid (merge_any [] F none av 0 cs wr.drew (PairsIn.nil _) hop.pairs (fun q hq => by cases hq) hfit (by rw [hFl]; decide))
      rw [hm1, hFl] at HM
      have hbw : Below w.heap.size w wr.drew := Below.drew (Hdv.out.below H3b.out hsz1 (by omega))
      have hsr : w.heap.size + 1 < wr.heap.size := hzr.lt
      have hpr : w1.heap.size < wr.heap.size := Hp.out.lt
      have hzd : Holds wr.drew (w.heap.size + 1) 30 Z := hzr
      have hpd : Holds wr.drew w1.heap.size 78 (mcAw ++ (hAw [97]).cells) := Hp.out
      have Hfin := Lib.hid (fun (wM : World) (v : Value) (hb : Below wr.drew.heap.size wr.drew wM) (hv : OwnP wM wr.drew.heap.size v F) => show Holds (wM.setCells (w.heap.size + 1) 0 (hAw [97]).cells) (w.heap.size + 1) 30 (hAw [97]).cells ∧
          Below w.heap.size w (wM.setCells (w.heap.size + 1) 0 (hAw [97]).cells) ∧ OwnP (wM.setCells (w.heap.size + 1) 0 (hAw [97]).cells) w.heap.size v [([109, 116, 105, 109, 101], stText 1 2)] by
        refine ⟨?_, below_setCellsU _ (by omega) _ _ _ (hbw.trans (hb.mono hbw.size)), ?_⟩
        · have := Holds.setCells (hAw [97]).cells 0 wM Z (hzd.under hb hsr)
          rw [Hs13.out.1] at this
          exact this
        · rw [hFn] at hv
          refine owns_setCells _ (fun e => ?_) _ _ _ (Joins.ownsRow_le hv (Nat.le_trans hbw.size (Nat.le_refl _)))
          have := (hv.lt _ e).1
          have : wr.drew.heap.size = wr.heap.size := rfl
          omega)
      clear hFn hm1 hfit hop hbw
      have hcz : Z.length = 13 := by rw [← hZl.out]; rfl
      clear Hbh Hin Hright H2 H3 H8 H9 Hsm L1
      obtain ⟨z0, z1, z2, z3, z4, z5, z6, z7, z8, z9, z10, z11, z12⟩ := cells13 (show mcAw.length = 15 from rfl) hpd
      go_wp2
      go_region_with (go_at_call 10; refine HM.out.mono ?_; rintro e wM ⟨hbM, v, rfl, hvM⟩; obtain ⟨y0, y1, y2, y3, y4, y5, y6, y7, y8, y9, y10, y11, y12⟩ := cells13 (show mcAw.length = 15 from rfl) (hpd.under hbM hpr); have hzM := hzd.under hbM hsr; have u0 := hzM.cell (i := 0) (by omega); have g0 := hzM.frozen 0; have u1 := hzM.cell (i := 1) (by omega); have g1 := hzM.frozen 1; have u2 := hzM.cell (i := 2) (by omega); have g2 := hzM.frozen 2; have u3 := hzM.cell (i := 3) (by omega); have g3 := hzM.frozen 3; have u4 := hzM.cell (i := 4) (by omega); have g4 := hzM.frozen 4; have u5 := hzM.cell (i := 5) (by omega); have g5 := hzM.frozen 5; have u6 := hzM.cell (i := 6) (by omega); have g6 := hzM.frozen 6; have u7 := hzM.cell (i := 7) (by omega); have g7 := hzM.frozen 7; have u8 := hzM.cell (i := 8) (by omega); have g8 := hzM.frozen 8; have u9 := hzM.cell (i := 9) (by omega); have g9 := hzM.frozen 9; have u10 := hzM.cell (i := 10) (by omega); have g10 := hzM.frozen 10; have u11 := hzM.cell (i := 11) (by omega); have g11 := hzM.frozen 11; have u12 := hzM.cell (i := 12) (by omega); have g12 := hzM.frozen 12)
      all_goals
        have HE := Lib.hid (Hfin.out wM v hbM hvM)
        clear Hfin HM hbM hvM
        go_wp2
        exact bodyPost_ret (results_row3 Tryz.results35 _ _ (w.heap.size + 1) _ (hAw [97]).cells.toArray _ _ v _ (by rfl) (by rfl) (by rfl) HE.out.1 Tryz.underlying30 rfl Hs13.out.2) rfl ⟨HE.out.2.1, v, rfl, HE.out.2.2⟩
    · intro x c kl y ps w4 cnt4 hkey hlk hv hat hrg4 hlt hg4 hs4 hen
      have hkl : kl = .string x := by
        obtain ⟨x2, e1, e2, -⟩ := Maps.keyOf_str Tryz.underlying9 hkey
        rw [e2, encStr_inj e1]
      have hy : y = DataW.held c := (congrArg Prod.fst (Option.some.inj hv)).symm
      subst hkl hy
      have Hp4 := Lib.hid (Hp.out.grown hg4 (by simp; omega))
      have Hdv4 := Lib.hid (Hdv.out.grown hg4 (fun k hk => by cases hk; exact .inr (.inl rfl)))
      have Hown4 := Lib.hid (World.ownsRow.kept Hown.out hg4 (by
        rcases hv2 : (Value.slice av F.length cs).ownBlock with _ | g
        · exact .inl rfl
        · right
          have := (Hown.out.lt g hv2).1
          intro e
          injection e with e
          omega))
      have Hcs := Lib.hid (known_cases t x c hat)
      have Hhat := Lib.hid hat
      have Hrg4 := Lib.hid hrg4
      have Hlk := Lib.hid hlk
      have Hlt := Lib.hid hlt
      have Hrl := Lib.hid hrg.left_eq
      have Htb := Lib.hid (Ht3.out w4 Hdv4.out)
      clear hat hrg4 hlk hv hkey hlt Hp Hdv Hown hrg hg4 hs4
      have hcs := Hcs.out
      clear Hcs
      rcases hcs with ⟨rfl, rfl⟩ | ⟨rfl, rfl⟩ | ⟨rfl, rfl⟩ | ⟨rfl, rfl⟩ | ⟨rfl, rfl⟩ | ⟨rfl, rfl⟩ | ⟨rfl, rfl⟩ | ⟨rfl, rfl⟩
      · unfold numField at hen
        have Hst := Lib.hid (Holds.new w4 85 [.nilFunc, .nilFunc, .nilFunc])
        have Hone := Lib.hid (show #[Value.func (.func 128) #[] #[.pointer (some ⟨t.g, 0, none⟩)], Value.func (.func 130) #[] #[.pointer (some ⟨t.g, 0, none⟩)], Value.func (.func 132) #[] #[.pointer (some ⟨t.g, 0, none⟩)]].all (·.oneCell') = true by simp [Value.oneCell'])
        have Hs1 := Lib.hid (show (Tryz.prog.info? 85).map (·.size) = some 3 by kernel_rfl)
        go_wp2_with (first
          | (refine wpList_store_row (by rfl) 85 _ _ (by rfl) w4.heap.size #[Value.func (.func 128) #[] #[.pointer (some ⟨t.g, 0, none⟩)], Value.func (.func 130) #[] #[.pointer (some ⟨t.g, 0, none⟩)], Value.func (.func 132) #[] #[.pointer (some ⟨t.g, 0, none⟩)]] (by rfl) (by rfl) 85 #[.nilFunc, .nilFunc, .nilFunc] Hst.out Hs1.out (by rfl) Hone.out ?_; rw [World.setRow_alloc_new])
          | fail)
        have Hp5 := Lib.hid (Hp4.out.behind (.cells #[Value.func (.func 128) #[] #[.pointer (some ⟨t.g, 0, none⟩)], Value.func (.func 130) #[] #[.pointer (some ⟨t.g, 0, none⟩)], Value.func (.func 132) #[] #[.pointer (some ⟨t.g, 0, none⟩)]] 85))
        have Hfit := Lib.hid (fitGid_any mcAw rfl (hAw nm) (hAw nm) 0 0 rfl rfl rfl rfl (okAw nm) (by rcases Hnm.out with rfl | ⟨rfl, -⟩ <;> decide) w1.heap.size t.g _ Hp5.out (Htb.out.1.behind _))
        rw [putEnd_self, fitsEither (Hnm.out.imp id And.left)] at Hfit
        refine Hfit.out.mono ?_
        rintro e w5 ⟨g5, hp5, rfl⟩
        have Hgr := Lib.hid (grown_trans (World.grownBy_alloc w4 _ (some w1.heap.size)) g5)
        have Hp6 := Lib.hid hp5
        have Hdv6 := Lib.hid (Hdv4.out.grown Hgr.out (fun k hk => by cases hk; exact .inl rfl))
        have Hrg6 := Lib.hid (Hrg4.out.kept Hgr.out (by intro e; injection e with e; omega) (by intro e; injection e with e; omega))
        have Hown6 := Lib.hid (World.ownsRow.kept Hown4.out Hgr.out (by
          rcases hv2 : (Value.slice av F.length cs).ownBlock with _ | g
          · exact .inl rfl
          · right
            have := (Hown4.out.lt g hv2).1
            intro e
            injection e with e
            omega))
        clear hp5 g5
        have Hl6 := Lib.hid (show w5.rangeLeft (w1.heap.size + 1) w2.heap.size < wr.rangeLeft (w1.heap.size + 1) w2.heap.size by rw [Hrg6.out.left_eq, Hrl.out]; exact Hlt.out)
        go_wp2
        go_roundw
        case rel => exact ⟨_, cnt4, nm, F, av, cs, rfl, by rw [HF.out, leftGone (by decide)], Hown6.out, Hrg6.out, Hp6.out, by rw [leftGone (by decide)]; exact Hnm.out, Hdv6.out⟩
        case measure => exact Hl6.out
      · unfold texField at hen
        have Hst := Lib.hid (Holds.new w4 85 [.nilFunc, .nilFunc, .nilFunc])
        have Hone := Lib.hid (show #[Value.func (.func 134) #[] #[.pointer (some ⟨t.gn, 0, none⟩)], Value.func (.func 136) #[] #[.pointer (some ⟨t.gn, 0, none⟩)], Value.func (.func 137) #[] #[.pointer (some ⟨t.gn, 0, none⟩)]].all (·.oneCell') = true by simp [Value.oneCell'])
        have Hs1 := Lib.hid (show (Tryz.prog.info? 85).map (·.size) = some 3 by kernel_rfl)
        go_wp2_with (first
          | (refine wpList_store_row (by rfl) 85 _ _ (by rfl) w4.heap.size #[Value.func (.func 134) #[] #[.pointer (some ⟨t.gn, 0, none⟩)], Value.func (.func 136) #[] #[.pointer (some ⟨t.gn, 0, none⟩)], Value.func (.func 137) #[] #[.pointer (some ⟨t.gn, 0, none⟩)]] (by rfl) (by rfl) 85 #[.nilFunc, .nilFunc, .nilFunc] Hst.out Hs1.out (by rfl) Hone.out ?_; rw [World.setRow_alloc_new])
          | fail)
        have Hp5 := Lib.hid (Hp4.out.behind (.cells #[Value.func (.func 134) #[] #[.pointer (some ⟨t.gn, 0, none⟩)], Value.func (.func 136) #[] #[.pointer (some ⟨t.gn, 0, none⟩)], Value.func (.func 137) #[] #[.pointer (some ⟨t.gn, 0, none⟩)]] 85))
        have Hfit := Lib.hid (fitGname_any mcAw rfl (hAw nm) (hAw nm) [] [] rfl rfl rfl rfl (okAw nm) (by rcases Hnm.out with rfl | ⟨rfl, -⟩ <;> decide) w1.heap.size t.gn _ Hp5.out (Htb.out.2.1.behind _))
        rw [putEnd_self, fitsEither (Hnm.out.imp id And.left)] at Hfit
        refine Hfit.out.mono ?_
        rintro e w5 ⟨g5, hp5, rfl⟩
        have Hgr := Lib.hid (grown_trans (World.grownBy_alloc w4 _ (some w1.heap.size)) g5)
        have Hp6 := Lib.hid hp5
        have Hdv6 := Lib.hid (Hdv4.out.grown Hgr.out (fun k hk => by cases hk; exact .inl rfl))
        have Hrg6 := Lib.hid (Hrg4.out.kept Hgr.out (by intro e; injection e with e; omega) (by intro e; injection e with e; omega))
        have Hown6 := Lib.hid (World.ownsRow.kept Hown4.out Hgr.out (by
          rcases hv2 : (Value.slice av F.length cs).ownBlock with _ | g
          · exact .inl rfl
          · right
            have := (Hown4.out.lt g hv2).1
            intro e
            injection e with e
            omega))
        clear hp5 g5
        have Hl6 := Lib.hid (show w5.rangeLeft (w1.heap.size + 1) w2.heap.size < wr.rangeLeft (w1.heap.size + 1) w2.heap.size by rw [Hrg6.out.left_eq, Hrl.out]; exact Hlt.out)
        go_wp2
        go_roundw
        case rel => exact ⟨_, cnt4, nm, F, av, cs, rfl, by rw [HF.out, leftGone (by decide)], Hown6.out, Hrg6.out, Hp6.out, by rw [leftGone (by decide)]; exact Hnm.out, Hdv6.out⟩
        case measure => exact Hl6.out
      · unfold texField at hen
        have Hst := Lib.hid (Holds.new w4 85 [.nilFunc, .nilFunc, .nilFunc])
        have Hone := Lib.hid (show #[Value.func (.func 134) #[] #[.pointer (some ⟨t.l, 0, none⟩)], Value.func (.func 136) #[] #[.pointer (some ⟨t.l, 0, none⟩)], Value.func (.func 137) #[] #[.pointer (some ⟨t.l, 0, none⟩)]].all (·.oneCell') = true by simp [Value.oneCell'])
        have Hs1 := Lib.hid (show (Tryz.prog.info? 85).map (·.size) = some 3 by kernel_rfl)
        go_wp2_with (first
          | (refine wpList_store_row (by rfl) 85 _ _ (by rfl) w4.heap.size #[Value.func (.func 134) #[] #[.pointer (some ⟨t.l, 0, none⟩)], Value.func (.func 136) #[] #[.pointer (some ⟨t.l, 0, none⟩)], Value.func (.func 137) #[] #[.pointer (some ⟨t.l, 0, none⟩)]] (by rfl) (by rfl) 85 #[.nilFunc, .nilFunc, .nilFunc] Hst.out Hs1.out (by rfl) Hone.out ?_; rw [World.setRow_alloc_new])
          | fail)
        have Hp5 := Lib.hid (Hp4.out.behind (.cells #[Value.func (.func 134) #[] #[.pointer (some ⟨t.l, 0, none⟩)], Value.func (.func 136) #[] #[.pointer (some ⟨t.l, 0, none⟩)], Value.func (.func 137) #[] #[.pointer (some ⟨t.l, 0, none⟩)]] 85))
        have Hfit := Lib.hid (fitLink_any mcAw rfl (hAw nm) (hAw nm) [] [] rfl rfl rfl rfl (okAw nm) (by rcases Hnm.out with rfl | ⟨rfl, -⟩ <;> decide) w1.heap.size t.l _ Hp5.out (Htb.out.2.2.1.behind _))
        rw [putEnd_self, fitsEither (Hnm.out.imp id And.left)] at Hfit
        refine Hfit.out.mono ?_
        rintro e w5 ⟨g5, hp5, rfl⟩
        have Hgr := Lib.hid (grown_trans (World.grownBy_alloc w4 _ (some w1.heap.size)) g5)
        have Hp6 := Lib.hid hp5
        have Hdv6 := Lib.hid (Hdv4.out.grown Hgr.out (fun k hk => by cases hk; exact .inl rfl))
        have Hrg6 := Lib.hid (Hrg4.out.kept Hgr.out (by intro e; injection e with e; omega) (by intro e; injection e with e; omega))
        have Hown6 := Lib.hid (World.ownsRow.kept Hown4.out Hgr.out (by
          rcases hv2 : (Value.slice av F.length cs).ownBlock with _ | g
          · exact .inl rfl
          · right
            have := (Hown4.out.lt g hv2).1
            intro e
            injection e with e
            omega))
        clear hp5 g5
        have Hl6 := Lib.hid (show w5.rangeLeft (w1.heap.size + 1) w2.heap.size < wr.rangeLeft (w1.heap.size + 1) w2.heap.size by rw [Hrg6.out.left_eq, Hrl.out]; exact Hlt.out)
        go_wp2
        go_roundw
        case rel => exact ⟨_, cnt4, nm, F, av, cs, rfl, by rw [HF.out, leftGone (by decide)], Hown6.out, Hrg6.out, Hp6.out, by rw [leftGone (by decide)]; exact Hnm.out, Hdv6.out⟩
        case measure => exact Hl6.out
      · unfold timField at hen
        have Hst := Lib.hid (Holds.new w4 85 [.nilFunc, .nilFunc, .nilFunc])
        have Hone := Lib.hid (show #[Value.func (.func 139) #[] #[], Value.func (.func 141) #[] #[], Value.func (.func 143) #[] #[]].all (·.oneCell') = true by simp [Value.oneCell'])
        have Hs1 := Lib.hid (show (Tryz.prog.info? 85).map (·.size) = some 3 by kernel_rfl)
        go_wp2_with (first
          | (refine wpList_store_row (by rfl) 85 _ _ (by rfl) w4.heap.size #[Value.func (.func 139) #[] #[], Value.func (.func 141) #[] #[], Value.func (.func 143) #[] #[]] (by rfl) (by rfl) 85 #[.nilFunc, .nilFunc, .nilFunc] Hst.out Hs1.out (by rfl) Hone.out ?_; rw [World.setRow_alloc_new])
          | fail)
        have Hp5 := Lib.hid (Hp4.out.behind (.cells #[Value.func (.func 139) #[] #[], Value.func (.func 141) #[] #[], Value.func (.func 143) #[] #[]] 85))
        refine (fitTime_no mcAw (hAw nm) 2 rfl (by decide) w1.heap.size _ Hp5.out).mono ?_
        rintro e w5 ⟨⟨m5, hw5⟩, rfl⟩
        have hF0 : F = [] := by rw [HF.out, if_pos Hlk.out]
        subst hF0
        have Hgr := Lib.hid (show w4.grownBy w5 none from by rw [hw5]; exact grown_trans (World.grownBy_alloc w4 _ none) (grown_drewN _ m5 none))
        have Hb5 := Lib.hid (show Holds w5 w4.heap.size 85 [Value.func (.func 139) #[] #[], Value.func (.func 141) #[] #[], Value.func (.func 143) #[] #[]] by rw [hw5]; exact Holds.new w4 _ _)
        have c5 := Hb5.out.at (i := 1) (v := Value.func (.func 141) #[] #[]) rfl
        clear hw5
        have Hp6 := Lib.hid (Hp4.out.grown Hgr.out (by simp))
        have Hdv6 := Lib.hid (Hdv4.out.grown Hgr.out (fun k hk => by cases hk))
        have Hrg6 := Lib.hid (Hrg4.out.kept Hgr.out (by simp) (by simp))
        have Hown6 := Lib.hid (World.ownsRow.kept Hown4.out Hgr.out (by
          rcases hv2 : (Value.slice av ([] : List Pr).length cs).ownBlock with _ | g
          · exact .inl rfl
          · exact .inr (by simp)))
        go_wp2_with (fail)
        refine (timeText_any mcAw (hAw nm) 1 2 rfl rfl (by decide) w1.heap.size w5 Hp6.out (Ht.out.below (Hdv6.out.below H3b.out (by omega) (by omega)) (Nat.le_refl _))).mono ?_
        rintro e w6 ⟨hb6, rfl⟩
        have Hp7 := Lib.hid (Hp6.out.under hb6 Hp6.out.lt)
        have Hgb := Lib.hid (grown_below hb6 none)
        have Hdv7 := Lib.hid (Hdv6.out.grown Hgb.out (fun k hk => by cases hk))
        have Hrg7 := Lib.hid (Hrg6.out.kept Hgb.out (by simp) (by simp))
        have Hown7 := Lib.hid (OwnP.step Hown6.out hb6)
        clear hb6
        obtain ⟨i0, hi, hz0, hz1, hz2⟩ := info_parts zero_pair
        generalize htx : stText 1 2 = tx at *
        have Htx := Lib.hid htx
        clear htx
        go_wp2_with (first | (at_builtin; go_loud (refine wpList_append_own _ rfl _ _ 22 rfl w3.heap.size 27 i0 (.agg #[.string ⟨#[]⟩, .string ⟨#[]⟩]) 2 32 Tryz.underlying22 hi hz0 hz1 hz2 rfl (by decide) _ _ _ rfl (World.ownsRow.alloc Hown7.out _) ⟨w6.heap.size, 0, none⟩ 1 1 [encStr [109, 116, 105, 109, 101], .string ⟨tx.toArray⟩] rfl rfl (fun j u hj => cell_two_new w6 _ _ 27 j u hj) (one_two _ _) (by unfold maxLen; simp) (by simp) (by have := Hdv7.out.size; simp; omega) ?_)) | fail)
        intro v' w7 hown8 hgrow hnil
        have hown9 : OwnP w7 w3.heap.size v' [([109, 116, 105, 109, 101], tx)] := by rw [hs3]; exact hown8
        obtain ⟨av2, cs2, rfl⟩ := hown9.slice
        have hrow : ∀ k, (Value.slice av ([] : List Pr).length cs).ownBlock = some k → w3.heap.size ≤ k := fun k hk => (Hown7.out.lt k hk).1
        have Hown9 := Lib.hid hown9
        have Hdv9 := Lib.hid ((Hdv7.out.grown (World.grownBy_alloc w6 _ none) (fun k hk => by cases hk)).grown hgrow (fun k hk => .inr (.inr (hrow k hk))))
        have Hrg9 := Lib.hid ((Hrg7.out.alloc _).kept hgrow (by intro e; have := hrow _ e.symm; omega) (by intro e; have := hrow _ e.symm; omega))
        have Hp9 := Lib.hid ((Hp7.out.behind _).grown hgrow (by intro e; have := hrow _ e.symm; omega))
        clear hown8 hgrow hnil hown9 hrow
        have Hl9 := Lib.hid (show w7.rangeLeft (w1.heap.size + 1) w2.heap.size < wr.rangeLeft (w1.heap.size + 1) w2.heap.size by rw [Hrg9.out.left_eq, Hrl.out]; exact Hlt.out)
        go_wp2
        go_roundw
        case rel => exact ⟨_, cnt4, nm, [([109, 116, 105, 109, 101], tx)], av2, cs2, rfl, by rw [show (Lit.string [109, 116, 105, 109, 101]).sameKey (.string [109, 116, 105, 109, 101]) = true from by decide, Bool.not_true, Bool.and_false, Htx.out]; rfl, Hown9.out, Hrg9.out, Hp9.out, by rw [leftGone (by decide)]; exact Hnm.out, Hdv9.out⟩
        case measure => exact Hl9.out
      · unfold texField at hen
        have Hst := Lib.hid (Holds.new w4 85 [.nilFunc, .nilFunc, .nilFunc])
        have Hone := Lib.hid (show #[Value.func (.func 134) #[] #[.pointer (some ⟨t.p, 0, none⟩)], Value.func (.func 136) #[] #[.pointer (some ⟨t.p, 0, none⟩)], Value.func (.func 137) #[] #[.pointer (some ⟨t.p, 0, none⟩)]].all (·.oneCell') = true by simp [Value.oneCell'])
        have Hs1 := Lib.hid (show (Tryz.prog.info? 85).map (·.size) = some 3 by kernel_rfl)
        go_wp2_with (first
          | (refine wpList_store_row (by rfl) 85 _ _ (by rfl) w4.heap.size #[Value.func (.func 134) #[] #[.pointer (some ⟨t.p, 0, none⟩)], Value.func (.func 136) #[] #[.pointer (some ⟨t.p, 0, none⟩)], Value.func (.func 137) #[] #[.pointer (some ⟨t.p, 0, none⟩)]] (by rfl) (by rfl) 85 #[.nilFunc, .nilFunc, .nilFunc] Hst.out Hs1.out (by rfl) Hone.out ?_; rw [World.setRow_alloc_new])
          | fail)
        have Hp5 := Lib.hid (Hp4.out.behind (.cells #[Value.func (.func 134) #[] #[.pointer (some ⟨t.p, 0, none⟩)], Value.func (.func 136) #[] #[.pointer (some ⟨t.p, 0, none⟩)], Value.func (.func 137) #[] #[.pointer (some ⟨t.p, 0, none⟩)]] 85))
        have Hfit := Lib.hid (fitName_any mcAw rfl (hAw nm) (hAw [97]) nm [97] rfl rfl rfl rfl (okAw _) (by decide) w1.heap.size t.p _ Hp5.out (Htb.out.2.2.2.1.behind _))
        rw [putEnd_fit fitsAw.2, fitsEither (.inl rfl)] at Hfit
        refine Hfit.out.mono ?_
        rintro e w5 ⟨g5, hp5, rfl⟩
        have Hgr := Lib.hid (grown_trans (World.grownBy_alloc w4 _ (some w1.heap.size)) g5)
        have Hp6 := Lib.hid hp5
        have Hdv6 := Lib.hid (Hdv4.out.grown Hgr.out (fun k hk => by cases hk; exact .inl rfl))
        have Hrg6 := Lib.hid (Hrg4.out.kept Hgr.out (by intro e; injection e with e; omega) (by intro e; injection e with e; omega))
        have Hown6 := Lib.hid (World.ownsRow.kept Hown4.out Hgr.out (by
          rcases hv2 : (Value.slice av F.length cs).ownBlock with _ | g
          · exact .inl rfl
          · right
            have := (Hown4.out.lt g hv2).1
            intro e
            injection e with e
            omega))
        clear hp5 g5
        have Hl6 := Lib.hid (show w5.rangeLeft (w1.heap.size + 1) w2.heap.size < wr.rangeLeft (w1.heap.size + 1) w2.heap.size by rw [Hrg6.out.left_eq, Hrl.out]; exact Hlt.out)
        go_wp2
        go_roundw
        case rel => exact ⟨_, cnt4, [97], F, av, cs, rfl, by rw [HF.out, leftGone (by decide)], Hown6.out, Hrg6.out, Hp6.out, .inl rfl, Hdv6.out⟩
        case measure => exact Hl6.out
      · unfold numField at hen
        have Hst := Lib.hid (Holds.new w4 85 [.nilFunc, .nilFunc, .nilFunc])
        have Hone := Lib.hid (show #[Value.func (.func 128) #[] #[.pointer (some ⟨t.s, 0, none⟩)], Value.func (.func 130) #[] #[.pointer (some ⟨t.s, 0, none⟩)], Value.func (.func 132) #[] #[.pointer (some ⟨t.s, 0, none⟩)]].all (·.oneCell') = true by simp [Value.oneCell'])
        have Hs1 := Lib.hid (show (Tryz.prog.info? 85).map (·.size) = some 3 by kernel_rfl)
        go_wp2_with (first
          | (refine wpList_store_row (by rfl) 85 _ _ (by rfl) w4.heap.size #[Value.func (.func 128) #[] #[.pointer (some ⟨t.s, 0, none⟩)], Value.func (.func 130) #[] #[.pointer (some ⟨t.s, 0, none⟩)], Value.func (.func 132) #[] #[.pointer (some ⟨t.s, 0, none⟩)]] (by rfl) (by rfl) 85 #[.nilFunc, .nilFunc, .nilFunc] Hst.out Hs1.out (by rfl) Hone.out ?_; rw [World.setRow_alloc_new])
          | fail)
        have Hp5 := Lib.hid (Hp4.out.behind (.cells #[Value.func (.func 128) #[] #[.pointer (some ⟨t.s, 0, none⟩)], Value.func (.func 130) #[] #[.pointer (some ⟨t.s, 0, none⟩)], Value.func (.func 132) #[] #[.pointer (some ⟨t.s, 0, none⟩)]] 85))
        have Hfit := Lib.hid (fitSize_any mcAw rfl (hAw nm) (hAw nm) 0 0 rfl rfl rfl rfl (okAw nm) (by rcases Hnm.out with rfl | ⟨rfl, -⟩ <;> decide) w1.heap.size t.s _ Hp5.out (Htb.out.2.2.2.2.1.behind _))
        rw [putEnd_self, fitsEither (Hnm.out.imp id And.left)] at Hfit
        refine Hfit.out.mono ?_
        rintro e w5 ⟨g5, hp5, rfl⟩
        have Hgr := Lib.hid (grown_trans (World.grownBy_alloc w4 _ (some w1.heap.size)) g5)
        have Hp6 := Lib.hid hp5
        have Hdv6 := Lib.hid (Hdv4.out.grown Hgr.out (fun k hk => by cases hk; exact .inl rfl))
        have Hrg6 := Lib.hid (Hrg4.out.kept Hgr.out (by intro e; injection e with e; omega) (by intro e; injection e with e; omega))
        have Hown6 := Lib.hid (World.ownsRow.kept Hown4.out Hgr.out (by
          rcases hv2 : (Value.slice av F.length cs).ownBlock with _ | g
          · exact .inl rfl
          · right
            have := (Hown4.out.lt g hv2).1
            intro e
            injection e with e
            omega))
        clear hp5 g5
        have Hl6 := Lib.hid (show w5.rangeLeft (w1.heap.size + 1) w2.heap.size < wr.rangeLeft (w1.heap.size + 1) w2.heap.size by rw [Hrg6.out.left_eq, Hrl.out]; exact Hlt.out)
        go_wp2
        go_roundw
        case rel => exact ⟨_, cnt4, nm, F, av, cs, rfl, by rw [HF.out, leftGone (by decide)], Hown6.out, Hrg6.out, Hp6.out, by rw [leftGone (by decide)]; exact Hnm.out, Hdv6.out⟩
        case measure => exact Hl6.out
      · unfold numField at hen
        have Hst := Lib.hid (Holds.new w4 85 [.nilFunc, .nilFunc, .nilFunc])
        have Hone := Lib.hid (show #[Value.func (.func 128) #[] #[.pointer (some ⟨t.u, 0, none⟩)], Value.func (.func 130) #[] #[.pointer (some ⟨t.u, 0, none⟩)], Value.func (.func 132) #[] #[.pointer (some ⟨t.u, 0, none⟩)]].all (·.oneCell') = true by simp [Value.oneCell'])
        have Hs1 := Lib.hid (show (Tryz.prog.info? 85).map (·.size) = some 3 by kernel_rfl)
        go_wp2_with (first
          | (refine wpList_store_row (by rfl) 85 _ _ (by rfl) w4.heap.size #[Value.func (.func 128) #[] #[.pointer (some ⟨t.u, 0, none⟩)], Value.func (.func 130) #[] #[.pointer (some ⟨t.u, 0, none⟩)], Value.func (.func 132) #[] #[.pointer (some ⟨t.u, 0, none⟩)]] (by rfl) (by rfl) 85 #[.nilFunc, .nilFunc, .nilFunc] Hst.out Hs1.out (by rfl) Hone.out ?_; rw [World.setRow_alloc_new])
          | fail)
        have Hp5 := Lib.hid (Hp4.out.behind (.cells #[Value.func (.func 128) #[] #[.pointer (some ⟨t.u, 0, none⟩)], Value.func (.func 130) #[] #[.pointer (some ⟨t.u, 0, none⟩)], Value.func (.func 132) #[] #[.pointer (some ⟨t.u, 0, none⟩)]] 85))
        have Hfit := Lib.hid (fitUid_any mcAw rfl (hAw nm) (hAw nm) 0 0 rfl rfl rfl rfl (okAw nm) (by rcases Hnm.out with rfl | ⟨rfl, -⟩ <;> decide) w1.heap.size t.u _ Hp5.out (Htb.out.2.2.2.2.2.1.behind _))
        rw [putEnd_self, fitsEither (Hnm.out.imp id And.left)] at Hfit
        refine Hfit.out.mono ?_
        rintro e w5 ⟨g5, hp5, rfl⟩
        have Hgr := Lib.hid (grown_trans (World.grownBy_alloc w4 _ (some w1.heap.size)) g5)
        have Hp6 := Lib.hid hp5
        have Hdv6 := Lib.hid (Hdv4.out.grown Hgr.out (fun k hk => by cases hk; exact .inl rfl))
        have Hrg6 := Lib.hid (Hrg4.out.kept Hgr.out (by intro e; injection e with e; omega) (by intro e; injection e with e; omega))
        have Hown6 := Lib.hid (World.ownsRow.kept Hown4.out Hgr.out (by
          rcases hv2 : (Value.slice av F.length cs).ownBlock with _ | g
          · exact .inl rfl
          · right
            have := (Hown4.out.lt g hv2).1
            intro e
            injection e with e
            omega))
        clear hp5 g5
        have Hl6 := Lib.hid (show w5.rangeLeft (w1.heap.size + 1) w2.heap.size < wr.rangeLeft (w1.heap.size + 1) w2.heap.size by rw [Hrg6.out.left_eq, Hrl.out]; exact Hlt.out)
        go_wp2
        go_roundw
        case rel => exact ⟨_, cnt4, nm, F, av, cs, rfl, by rw [HF.out, leftGone (by decide)], Hown6.out, Hrg6.out, Hp6.out, by rw [leftGone (by decide)]; exact Hnm.out, Hdv6.out⟩
        case measure => exact Hl6.out
      · unfold texField at hen
        have Hst := Lib.hid (Holds.new w4 85 [.nilFunc, .nilFunc, .nilFunc])
        have Hone := Lib.hid (show #[Value.func (.func 134) #[] #[.pointer (some ⟨t.un, 0, none⟩)], Value.func (.func 136) #[] #[.pointer (some ⟨t.un, 0, none⟩)], Value.func (.func 137) #[] #[.pointer (some ⟨t.un, 0, none⟩)]].all (·.oneCell') = true by simp [Value.oneCell'])
        have Hs1 := Lib.hid (show (Tryz.prog.info? 85).map (·.size) = some 3 by kernel_rfl)
        go_wp2_with (first
          | (refine wpList_store_row (by rfl) 85 _ _ (by rfl) w4.heap.size #[Value.func (.func 134) #[] #[.pointer (some ⟨t.un, 0, none⟩)], Value.func (.func 136) #[] #[.pointer (some ⟨t.un, 0, none⟩)], Value.func (.func 137) #[] #[.pointer (some ⟨t.un, 0, none⟩)]] (by rfl) (by rfl) 85 #[.nilFunc, .nilFunc, .nilFunc] Hst.out Hs1.out (by rfl) Hone.out ?_; rw [World.setRow_alloc_new])
          | fail)
        have Hp5 := Lib.hid (Hp4.out.behind (.cells #[Value.func (.func 134) #[] #[.pointer (some ⟨t.un, 0, none⟩)], Value.func (.func 136) #[] #[.pointer (some ⟨t.un, 0, none⟩)], Value.func (.func 137) #[] #[.pointer (some ⟨t.un, 0, none⟩)]] 85))
        have Hfit := Lib.hid (fitUname_any mcAw rfl (hAw nm) (hAw nm) [] [] rfl rfl rfl rfl (okAw nm) (by rcases Hnm.out with rfl | ⟨rfl, -⟩ <;> decide) w1.heap.size t.un _ Hp5.out (Htb.out.2.2.2.2.2.2.behind _))
        rw [putEnd_self, fitsEither (Hnm.out.imp id And.left)] at Hfit
        refine Hfit.out.mono ?_
        rintro e w5 ⟨g5, hp5, rfl⟩
        have Hgr := Lib.hid (grown_trans (World.grownBy_alloc w4 _ (some w1.heap.size)) g5)
        have Hp6 := Lib.hid hp5
        have Hdv6 := Lib.hid (Hdv4.out.grown Hgr.out (fun k hk => by cases hk; exact .inl rfl))
        have Hrg6 := Lib.hid (Hrg4.out.kept Hgr.out (by intro e; injection e with e; omega) (by intro e; injection e with e; omega))
        have Hown6 := Lib.hid (World.ownsRow.kept Hown4.out Hgr.out (by
          rcases hv2 : (Value.slice av F.length cs).ownBlock with _ | g
          · exact .inl rfl
          · right
            have := (Hown4.out.lt g hv2).1
            intro e
            injection e with e
            omega))
        clear hp5 g5
        have Hl6 := Lib.hid (show w5.rangeLeft (w1.heap.size + 1) w2.heap.size < wr.rangeLeft (w1.heap.size + 1) w2.heap.size by rw [Hrg6.out.left_eq, Hrl.out]; exact Hlt.out)
        go_wp2
        go_roundw
        case rel => exact ⟨_, cnt4, nm, F, av, cs, rfl, by rw [HF.out, leftGone (by decide)], Hown6.out, Hrg6.out, Hp6.out, by rw [leftGone (by decide)]; exact Hnm.out, Hdv6.out⟩
        case measure => exact Hl6.out
end Go.Proofs.YtjmmecokfijglaaGreatDoor
