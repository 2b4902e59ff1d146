/-
  Texts of this seat's proof, joined: their order is that of the build.
-/
import Derived.Test.YtjmmecokfijglaaGreatDoorRows
import Derived.Test.YtjmmecokfijglaaGreatDoorJ05
import Derived.Test.YtjmmecokfijglaaGreatDoorJ07
import Derived.Lib.SmallJoins
import Derived.Deep.Modes
import Derived.ChangeSame
import Derived.ChangeArms
import Derived.WideKeyArgs
import Derived.Test.YtjmmecokfijglaaGreatDoorJ21
import Derived.Test.YtjmmecokfijglaaGreatDoorJ12
import Derived.MakeChecks
import Derived.Stop.LaidErr
import Derived.Lib.LaidTab
namespace Go.Proofs.YtjmmecokfijglaaGreatDoor
open Go.ChangeShapes Go.WideShapes Go.ChangeAt Go.RowKit Go.Joins Go.Deep Go.WideElems
open Go.ChangeMaps (open_string shut_string)

/-- A head of the size that a machine can hold. -/
def Hd.fine (h : Hd) : Prop := (0 ≤ h.kind ∧ h.kind < 256) ∧ h.okN ∧ (h.name.length ≤ 9223372036854775807 ∧ h.link.length ≤ 9223372036854775807 ∧ h.uname.length ≤ 9223372036854775807 ∧ h.gname.length ≤ 9223372036854775807)

theorem byte_bd {n : Int} (h : (Lit.int .u8 n).wf = true) : 0 ≤ n ∧ n < 256 := by have := bounds_u8 h; omega
theorem i64_bd {n : Int} (h : (Lit.int .i64 n).wf = true) : -9223372036854775808 ≤ n ∧ n ≤ 9223372036854775807 := by have := bounds_i64 h; omega

section
variable {H : Type} {enc : TypeId × Value → H} {w : World} {base : Nat} {spare : Nat → Bool} {held : Bool}
set_option maxRecDepth 100000 in

theorem open_head {r : Reach} {b0 : Nat} {v : Value} {d : DataW H} {p : List MemPlace} (hv : Value.okWide Tryz.prog w r b0 30 v) (h : DataW.Trod enc Tryz.prog w base spare held 30 v d p) :
    ∃ hd : Hd, v = hd.val ∧ p = [] ∧ hd.fine := by
  have hs := Tryz.underlying30
  obtain ⟨cs, rfl, hsz⟩ := okWide_struct hs hv
  obtain ⟨l⟩ := cs
  have hC : Tryz.prog.cellsOf 30 = 13 := by kernel_rfl
  match l, hsz.trans hC with
  | [c0, c1, c2, c3, c4, c5, c6, c7, c8, c9, c10, c11, c12], _ =>
    obtain ⟨fuel, hf⟩ := h
    obtain ⟨xs, n, _, hx, _, hlen, hg⟩ := DataW.trod_struct hs hf
    match xs, hlen with
    | [y0, y1, y2, y3, y4, y5, y6, y7, y8, y9, y10, y11, y12], _ =>
      have cS : Tryz.prog.cellsOf 9 = 1 := by kernel_rfl
      have cI : Tryz.prog.cellsOf 3 = 1 := by kernel_rfl
      have cU : Tryz.prog.cellsOf 5 = 1 := by kernel_rfl
      have g0 : DataW.trod enc Tryz.prog w base spare held n 9 [c0] = some y0 := by simpa [cS, Value.cells] using hg 0 _ rfl
      have g1 : DataW.trod enc Tryz.prog w base spare held n 9 [c1] = some y1 := by simpa [cS, Value.cells] using hg 1 _ rfl
      have g2 : DataW.trod enc Tryz.prog w base spare held n 5 [c2] = some y2 := by simpa [cU, Value.cells] using hg 2 _ rfl
      have g3 : DataW.trod enc Tryz.prog w base spare held n 3 [c3] = some y3 := by simpa [cI, Value.cells] using hg 3 _ rfl
      have g4 : DataW.trod enc Tryz.prog w base spare held n 3 [c4] = some y4 := by simpa [cI, Value.cells] using hg 4 _ rfl
      have g5 : DataW.trod enc Tryz.prog w base spare held n 3 [c5] = some y5 := by simpa [cI, Value.cells] using hg 5 _ rfl
      have g6 : DataW.trod enc Tryz.prog w base spare held n 3 [c6] = some y6 := by simpa [cI, Value.cells] using hg 6 _ rfl
      have g7 : DataW.trod enc Tryz.prog w base spare held n 3 [c7] = some y7 := by simpa [cI, Value.cells] using hg 7 _ rfl
      have g8 : DataW.trod enc Tryz.prog w base spare held n 9 [c8] = some y8 := by simpa [cS, Value.cells] using hg 8 _ rfl
      have g9 : DataW.trod enc Tryz.prog w base spare held n 9 [c9] = some y9 := by simpa [cS, Value.cells] using hg 9 _ rfl
      have g10 : DataW.trod enc Tryz.prog w base spare held n 3 [c10] = some y10 := by simpa [cI, Value.cells] using hg 10 _ rfl
      have g11 : DataW.trod enc Tryz.prog w base spare held n 3 [c11] = some y11 := by simpa [cI, Value.cells] using hg 11 _ rfl
      have g12 : DataW.trod enc Tryz.prog w base spare held n 3 [c12] = some y12 := by simpa [cI, Value.cells] using hg 12 _ rfl
      obtain ⟨s0, e0, rfl, w0⟩ := DataW.trod_string Tryz.underlying9 g0
      obtain ⟨s1, e1, rfl, w1⟩ := DataW.trod_string Tryz.underlying9 g1
      obtain ⟨a2, e2, rfl, w2⟩ := DataW.trod_int Tryz.underlying5 g2
      obtain ⟨a3, e3, rfl, w3⟩ := DataW.trod_int Tryz.underlying3 g3
      obtain ⟨a4, e4, rfl, w4⟩ := DataW.trod_int Tryz.underlying3 g4
      obtain ⟨a5, e5, rfl, w5⟩ := DataW.trod_int Tryz.underlying3 g5
      obtain ⟨a6, e6, rfl, w6⟩ := DataW.trod_int Tryz.underlying3 g6
      obtain ⟨a7, e7, rfl, w7⟩ := DataW.trod_int Tryz.underlying3 g7
      obtain ⟨s8, e8, rfl, w8⟩ := DataW.trod_string Tryz.underlying9 g8
      obtain ⟨s9, e9, rfl, w9⟩ := DataW.trod_string Tryz.underlying9 g9
      obtain ⟨a10, e10, rfl, w10⟩ := DataW.trod_int Tryz.underlying3 g10
      obtain ⟨a11, e11, rfl, w11⟩ := DataW.trod_int Tryz.underlying3 g11
      obtain ⟨a12, e12, rfl, w12⟩ := DataW.trod_int Tryz.underlying3 g12
      obtain ⟨l0, rfl⟩ := str_of s0
      obtain ⟨l1, rfl⟩ := str_of s1
      obtain ⟨l8, rfl⟩ := str_of s8
      obtain ⟨l9, rfl⟩ := str_of s9
      simp only [List.cons.injEq, and_true] at e0 e1 e2 e3 e4 e5 e6 e7 e8 e9 e10 e11 e12
      subst e0 e1 e2 e3 e4 e5 e6 e7 e8 e9 e10 e11 e12
      refine ⟨⟨l0, l1, a2, a3, a4, a5, a6, a7, l8, l9, a10, a11, a12⟩, rfl, ?_, ?_⟩
      · simp only [Prod.mk.injEq] at hx
        simpa using hx.2
      · have hb := byte_bd w2
        have h3 := i64_bd w3
        have h4 := i64_bd w4
        have h5 := i64_bd w5
        have h6 := i64_bd w6
        have h7 := i64_bd w7
        have h10 := i64_bd w10
        have h11 := i64_bd w11
        have q0 : l0.length ≤ 9223372036854775807 := w0
        have q1 : l1.length ≤ 9223372036854775807 := w1
        have q8 : l8.length ≤ 9223372036854775807 := w8
        have q9 : l9.length ≤ 9223372036854775807 := w9
        refine ⟨hb, ?_, q0, q1, q8, q9⟩
        intro k hk
        rcases lt7 hk with rfl | rfl | rfl | rfl | rfl | rfl | rfl
        · exact h3
        · exact h4
        · exact h5
        · exact h6
        · exact h7
        · exact h10
        · exact h11
theorem shut_head {w' : World} {sp : Nat → Bool} {v : Value} {d : DataW H} (h : DataW.Trod enc Tryz.prog w base (fun _ => true) true 30 v d []) : DataW.Trod enc Tryz.prog w' base sp true 30 v d [] :=
  Trod_stays (by kernel_rfl) (by kernel_rfl) (of_decide_eq_true (by kernel_rfl)) h (fun p hp => by cases hp) (fun p hp => by cases hp)
end
end Go.Proofs.YtjmmecokfijglaaGreatDoor
namespace Go.Proofs.YtjmmecokfijglaaGreatDoor
open Go.ChangeShapes Go.WideShapes Go.ChangeAt Go.RowKit Go.Maps

theorem results_rowA2 {P : Program} {fn : Func} {p q : Tmp} {ty : TypeId} (h : fn.results = #[.cell p ty, .tmp q]) (tmps : Array Value) (w : World) (g : Nat) (t : TypeId) (cs : Array Value) (fr : Nat × Nat) (d : TypeDesc) (v : Value)
    (hp : tmps.getD p undef = .pointer (some ⟨g, 0, none⟩)) (hq : tmps.getD q undef = v) (hg : w.heap[g]? = some (.cells cs t fr))
    (hu : P.underlying ty = some d) (hd : (match d with | .struct _ | .array _ _ => true | _ => false) = true) (hi : (P.info? ty).map (·.size) = some cs.size) :
    (results fn tmps).run P w = .ok (.tuple #[.agg cs, v]) w := by
  have hp' : tmps[p]?.getD undef = .pointer (some ⟨g, 0, none⟩) := by simpa using hp
  have hq' : tmps[q]?.getD undef = v := by simpa using hq
  simp [results, h, hp', hq', asAddr, run_loadVar_row w g t ty cs fr d hg hu hd hi]
set_option maxRecDepth 100000 in
theorem head_aw (w : World) (ht : TabOk w) :
    Calls Tryz.prog 17 #[mAw.val, .int .i64 0] w fun e w' => Below w.heap.size w w' ∧ e = .returned (.tuple #[(hAw [97]).val, .int .i64 0]) := by
  have hz := (zero_of_info infoHd).1
  have HD := Lib.hid (fun w1 => divide_aw w1)
  have Ht := Lib.hid ht
  have Hsm := Lib.hid sizeMb
  have Hs13 := Lib.hid (show (Tryz.prog.info? 30).map (·.size) = some (hAw [97]).cells.toArray.size from head_size _)
  have Hone := Lib.hid (show (hAw [97]).cells.toArray.all (·.oneCell') = true by simp [hAw, Hd.cells, Value.oneCell'])
  have Hsz := Lib.hid (show Hd.zero.cells.toArray.size = (hAw [97]).cells.toArray.size from rfl)
  have Ho := Lib.hid (show Holds ((w.alloc (.cells mAw.cells.toArray 34)).alloc (.cells Hd.zero.cells.toArray 30)) w.heap.size 34 mAw.cells from (Holds.new w _ _).behind _)
  have Hz := Lib.hid (show Holds ((w.alloc (.cells mAw.cells.toArray 34)).alloc (.cells Hd.zero.cells.toArray 30)) (w.heap.size + 1) 30 Hd.zero.cells from by
    have := Holds.new (w.alloc (.cells mAw.cells.toArray 34)) 30 Hd.zero.cells
    rwa [World.size_alloc] at this)
  have Hb := Lib.hid (((Below.refl w.heap.size w).alloc (Nat.le_refl _) (.cells mAw.cells.toArray 34)).alloc (by simp) (.cells Hd.zero.cells.toArray 30))
  unfold Mb.val Hd.val at *
  clear ht
  generalize mAw.cells = C at *
  generalize Hd.zero.cells = Z at *
  generalize (hAw [97]).cells = HC at *
  go_enter Tryz.func17, Tryz.ntmps17
  go_wp2_with (first
    | (refine wpList_load_row (by rfl) 34 _ (by rfl) w.heap.size (by rfl) _ _ _ _ Ho.out Tryz.underlying34 rfl Hsm.out ?_)
    | fail)
  refine (HD.out _ (Ht.out.below Hb.out (Nat.le_refl _))).mono ?_
  rintro e w1 ⟨hb1, v, rfl, hv⟩
  have Hz1 := Lib.hid (Hz.out.under hb1 Hz.out.lt)
  have Hb1 := Lib.hid (Hb.out.trans (hb1.mono (by simp; omega)))
  have Hn := Lib.hid (Holds.new w1 30 Z)
  have Hn2 := Lib.hid (Holds.new w1 30 HC)
  have Hz2 := Lib.hid (Hz1.out.behind (.cells HC.toArray 30))
  clear hb1 Ho Hz HD
  go_wp2_with (first
    | (refine wpList_store_row (by rfl) 30 _ _ (by rfl) w1.heap.size HC.toArray (by rfl) (by rfl) _ _ Hn.out Hs13.out (by exact Hsz.out) Hone.out ?_; rw [World.setRow_alloc_new])
    | (refine wpList_load_row (by rfl) 30 _ (by rfl) w1.heap.size (by rfl) _ _ _ _ Hn2.out Tryz.underlying30 rfl Hs13.out ?_)
    | (refine wpList_store_row (by rfl) 30 _ _ (by rfl) (w.heap.size + 1) HC.toArray (by rfl) (by rfl) _ _ Hz2.out Hs13.out (by exact Hsz.out) Hone.out ?_)
    | fail)
  exact bodyPost_ret (results_rowA2 Tryz.results17 _ _ (w.heap.size + 1) _ HC.toArray _ _ _ (by rfl) (by rfl) (setRow_heap _ _ _ _ _ _ Hz2.out) Tryz.underlying30 rfl Hs13.out) rfl ⟨below_setRow (Hb1.out.alloc Hb1.out.size _) (by omega) _, rfl⟩

set_option maxRecDepth 100000 in
theorem wanted_aw (w : World) (ht : TabOk w) :
    Calls Tryz.prog 18 #[mAw.val, .int .i64 0] w fun e w' => Below w.heap.size w w' ∧ ∃ v, e = .returned (.tuple #[v, .int .i64 0]) ∧ OwnP w' w.heap.size v [([109, 116, 105, 109, 101], stText 1 2)] := by
  have hz := (zero_of_info infoHd).1
  have HD := Lib.hid (fun w1 => divide_aw w1)
  have Ht := Lib.hid ht
  have Hsm := Lib.hid sizeMb
  have Hs13 := Lib.hid (show (Tryz.prog.info? 30).map (·.size) = some (hAw [97]).cells.toArray.size from head_size _)
  have Hone := Lib.hid (show (hAw [97]).cells.toArray.all (·.oneCell') = true by simp [hAw, Hd.cells, Value.oneCell'])
  have Hsz := Lib.hid (show Hd.zero.cells.toArray.size = (hAw [97]).cells.toArray.size from rfl)
  have Ho := Lib.hid (show Holds (w.alloc (.cells mAw.cells.toArray 34)) w.heap.size 34 mAw.cells from Holds.new w _ _)
  have Hb := Lib.hid ((Below.refl w.heap.size w).alloc (Nat.le_refl _) (.cells mAw.cells.toArray 34))
  unfold Mb.val Hd.val at *
  clear ht
  generalize mAw.cells = C at *
  generalize Hd.zero.cells = Z at *
  generalize (hAw [97]).cells = HC at *
  go_enter Tryz.func18, Tryz.ntmps18
  go_wp2_with (first
    | (refine wpList_load_row (by rfl) 34 _ (by rfl) w.heap.size (by rfl) _ _ _ _ Ho.out Tryz.underlying34 rfl Hsm.out ?_)
    | fail)
  refine (HD.out _ (Ht.out.below Hb.out (Nat.le_refl _))).mono ?_
  rintro e w1 ⟨hb1, v, rfl, hv⟩
  have Hb1 := Lib.hid (Hb.out.trans (hb1.mono (by simp)))
  have Hn := Lib.hid (Holds.new w1 30 Z)
  have Hv := Lib.hid (show OwnP (w1.alloc (.cells HC.toArray 30)) w.heap.size v [([109, 116, 105, 109, 101], stText 1 2)] from World.ownsRow.alloc (Joins.ownsRow_le hv (by simp)) _)
  clear hb1 Ho HD hv
  go_wp2_with (first
    | (refine wpList_store_row (by rfl) 30 _ _ (by rfl) w1.heap.size HC.toArray (by rfl) (by rfl) _ _ Hn.out Hs13.out (by exact Hsz.out) Hone.out ?_; rw [World.setRow_alloc_new])
    | fail)
  go_ret2
  exact ⟨Hb1.out.alloc Hb1.out.size _, v, rfl, Hv.out⟩

theorem builtMb : Tryz.prog.built 34 [(0, .string ⟨#[97]⟩), (2, .int .u8 48), (10, .agg #[.int .i64 1, .int .i64 2])] = some mAw.cells.toArray := by kernel_rfl
def zMb : List Value := (Mb.mk [] [] 0 0 0 0 [] [] 0 0 0 0 (.slice none 0 0) []).cells
theorem infoMbW : (Tryz.prog.info? 34).map (fun i => (i.zero, i.size)) = some (some (.agg zMb.toArray), 14) := by kernel_rfl

set_option maxRecDepth 100000 in
set_option maxHeartbeats 1000000 in
theorem awake7_any (w : World) (ht : TabOk w) :
    Calls Tryz.prog 9 #[] w fun e w' => Below w.heap.size w w' ∧ e = .returned (.bool true) := by
  have hz := (zero_of_info infoHd).1
  have hzm := (zero_of_info infoMbW).1
  have HH := Lib.hid (fun w1 => head_aw w1)
  have HW := Lib.hid (fun w1 => wanted_aw w1)
  have Ht := Lib.hid ht
  have Hsm := Lib.hid sizeMb
  have Hbm := Lib.hid builtMb
  have Hs13 := Lib.hid (show (Tryz.prog.info? 30).map (·.size) = some (hAw [97]).cells.toArray.size from head_size _)
  have Hone := Lib.hid (show (hAw [97]).cells.toArray.all (·.oneCell') = true by simp [hAw, Hd.cells, Value.oneCell'])
  have Honem := Lib.hid (show mAw.cells.toArray.all (·.oneCell') = true by simp [mAw, Mb.cells, Value.oneCell'])
  have Hsz := Lib.hid (show Hd.zero.cells.toArray.size = (hAw [97]).cells.toArray.size from rfl)
  have Hszm := Lib.hid (show zMb.toArray.size = mAw.cells.toArray.size from rfl)
  have Hn0 := Lib.hid (Holds.new w 34 zMb)
  have Ho := Lib.hid (Holds.new w 34 mAw.cells)
  have Hb := Lib.hid ((Below.refl w.heap.size w).alloc (Nat.le_refl _) (.cells mAw.cells.toArray 34))
  have H7 := Lib.hid (show (hAw [97]).cells[7]? = some (.int .i64 0) from rfl)
  rw [tx12] at HW
  unfold Mb.val Hd.val at *
  clear ht
  generalize mAw.cells = C at *
  generalize zMb = ZM at *
  generalize Hd.zero.cells = Z at *
  generalize (hAw [97]).cells = HC at *
  go_enter Tryz.func9, Tryz.ntmps9
  go_wp2_with (first
    | (refine wpList_build_is (by rfl) 34 _ (by rfl) _ _ Hbm.out ?_ ?_; first | kernel_rfl | simp [Act.eval])
    | (refine wpList_store_row (by rfl) 34 _ _ (by rfl) w.heap.size C.toArray (by rfl) (by rfl) _ _ Hn0.out Hsm.out (by exact Hszm.out) Honem.out ?_; rw [World.setRow_alloc_new])
    | (refine wpList_load_row (by rfl) 34 _ (by rfl) w.heap.size (by rfl) _ _ _ _ Ho.out Tryz.underlying34 rfl Hsm.out ?_)
    | fail)
  refine (HH.out _ (Ht.out.below Hb.out (Nat.le_refl _))).mono ?_
  rintro e w1 ⟨hb1, rfl⟩
  have Hb1 := Lib.hid (Hb.out.trans (hb1.mono (by simp)))
  have Hn := Lib.hid (Holds.new w1 30 Z)
  have Hn2 := Lib.hid (Holds.new w1 30 HC)
  have Ho1 := Lib.hid ((Ho.out.under hb1 Ho.out.lt).behind (.cells HC.toArray 30))
  clear hb1 Ho Hn0 Hb
  go_wp2_with (first
    | (refine wpList_store_row (by rfl) 30 _ _ (by rfl) w1.heap.size HC.toArray (by rfl) (by rfl) _ _ Hn.out Hs13.out (by exact Hsz.out) Hone.out ?_; rw [World.setRow_alloc_new])
    | (refine wpList_load_row (by rfl) 34 _ (by rfl) w.heap.size (by rfl) _ _ _ _ Ho1.out Tryz.underlying34 rfl Hsm.out ?_)
    | fail)
  have hb2 : Below w.heap.size w (w1.alloc (.cells HC.toArray 30)) := Hb1.out.alloc Hb1.out.size _
  refine (HW.out _ (Ht.out.below hb2 (Nat.le_refl _))).mono ?_
  rintro e w2 ⟨hb3, v, rfl, hv⟩
  have h7 := (Hn2.out.under hb3 Hn2.out.lt).at H7.out
  have Hb3 := Lib.hid (hb2.trans (hb3.mono hb2.size))
  obtain ⟨ad, cap, rfl, hp⟩ := hv.pairs
  rcases hp with hp | ⟨b, o, rfl, hbl, hpa⟩
  · cases hp
  · obtain ⟨q0, q1⟩ := hpa 0 (by decide)
    rw [Nat.zero_mul, Nat.add_zero] at q0 q1
    have q0 : w2.cell? ⟨b, o, none⟩ = some (.string ⟨([109, 116, 105, 109, 101] : List UInt8).toArray⟩) := q0
    have q1 : w2.cell? ⟨b, o + 1, none⟩ = some (.string ⟨([49, 46, 48, 48, 48, 48, 48, 48, 48, 48, 50] : List UInt8).toArray⟩) := q1
    have he := pair_eql ([109, 116, 105, 109, 101], [49, 46, 48, 48, 48, 48, 48, 48, 48, 48, 50]) ([109, 116, 105, 109, 101], [49, 46, 48, 48, 48, 48, 48, 48, 48, 48, 50]) w2
    rw [decide_eq_true rfl] at he
    clear hv hpa
    go_wp2
    go_ret
    exact ⟨Hb3.out, rfl⟩
end Go.Proofs.YtjmmecokfijglaaGreatDoor
namespace Go.Proofs.YtjmmecokfijglaaGreatDoor
open Go.ChangeShapes Go.WideShapes Go.ChangeAt Go.RowKit

theorem TabOk.of_laid {W : World} (h : laidMetH Tryz.prog Rows.attrsMergeRow.laid W) : TabOk W := by
  replace h : laidMet Tryz.prog Rows.attrsMergeRow.laid W := h
  have h2 := h.tail.tail
  exact Lib.tabIs_of_head (zs := Lib.pow10Tab) (t := 298) (e := 235) (n := 20) tab_named (by kernel_rfl) (by kernel_rfl) (by kernel_rfl) (by kernel_rfl) (by kernel_rfl) h2
end Go.Proofs.YtjmmecokfijglaaGreatDoor
