/-
  Contracts of package header: places and cuts.
-/
import Derived.Test.YtamenhkbmbaopaaGreatDoorHdP
import Derived.Test.YtamenhkbmbaopaaGreatDoorTxtM
import Derived.Test.YtamenhkbmbaopaaGreatDoorRow
import Derived.Test.YtamenhkbmbaopaaGreatDoorOctO
namespace Go.Proofs.YtamenhkbmbaopaaGreatDoor
open Go.ChangeShapes Go.WideShapes Go.ChangeAt Go.RowKit

section
variable {P : Program}
/-- A struct or array put together, its cells known. -/
theorem wpList_build_is {ops : Array Oper} {rest : List Oper} {o : Oper} {a : Act} {w : World} {Q : Exit → Act → World → Prop} (hg : o.guard = none) (t : TypeId) (parts : Array (Nat × Operand)) (ho : o.op = .build t parts)
    (vs : List (Nat × Value)) (cs : Array Value) (hf : P.built t vs = some cs) (he : (parts.map fun (i, x) => (i, a.eval x)).toList = vs)
    (h : wpList P ops Q rest (a.put o.dst (.agg cs)) w) : wpList P ops Q (o :: rest) a w := by
  subst he
  refine wpList_build hg t parts ho (by rw [hf]; rfl) ?_
  rw [hf]
  exact h
end
def tabParts : List (Nat × Value) := [(0, .agg #[.int .i64 0, .int .i64 100]), (1, .agg #[.int .i64 100, .int .i64 8]), (2, .agg #[.int .i64 108, .int .i64 8]), (3, .agg #[.int .i64 116, .int .i64 8]), (4, .agg #[.int .i64 124, .int .i64 12]), (5, .agg #[.int .i64 136, .int .i64 12]), (6, .agg #[.int .i64 148, .int .i64 8]), (7, .agg #[.int .i64 156, .int .i64 1]), (8, .agg #[.int .i64 157, .int .i64 100]), (9, .agg #[.int .i64 257, .int .i64 8]), (10, .agg #[.int .i64 265, .int .i64 32]), (11, .agg #[.int .i64 297, .int .i64 32]), (12, .agg #[.int .i64 329, .int .i64 8]), (13, .agg #[.int .i64 337, .int .i64 8]), (14, .agg #[.int .i64 345, .int .i64 155])]
theorem built_tab : Tryz.prog.built 116 tabParts = some #[.int .i64 0, .int .i64 100, .int .i64 100, .int .i64 8, .int .i64 108, .int .i64 8, .int .i64 116, .int .i64 8, .int .i64 124, .int .i64 12, .int .i64 136, .int .i64 12, .int .i64 148, .int .i64 8, .int .i64 156, .int .i64 1, .int .i64 157, .int .i64 100, .int .i64 257, .int .i64 8, .int .i64 265, .int .i64 32, .int .i64 297, .int .i64 32, .int .i64 329, .int .i64 8, .int .i64 337, .int .i64 8, .int .i64 345, .int .i64 155] := by kernel_rfl
theorem info_tab : (Tryz.prog.info? 116).map (·.size) = some 30 := by kernel_rfl

set_option maxRecDepth 100000 in
theorem placeOf_any (f : Nat) (w : World) (h : f < 15) :
    Calls Tryz.prog 35 #[.int .i64 f] w fun e w' => Below w.heap.size w w' ∧ e = .returned (.agg #[.int .i64 (plS f), .int .i64 (plN f)]) := by
  have h1 := tab_start f h
  have h2 := tab_size f h
  have hbt := built_tab
  change _ = some tabCells.toArray at hbt
  have Hbt := Lib.hid hbt
  have Hl := Lib.hid (show tabCells.toArray.size = 30 from rfl)
  have Hone := Lib.hid (show tabCells.toArray.all (·.oneCell') = true by simp [tabCells, Value.oneCell'])
  have Hs1 := Lib.hid (show (Tryz.prog.info? 116).map (·.size) = some tabCells.toArray.size from info_tab)
  clear hbt
  have Hst := Lib.hid (show ((w.alloc (.cells #[.int .i64 0, .int .i64 0] 96)).alloc (.cells #[.int .i64 0, .int .i64 0, .int .i64 0, .int .i64 0, .int .i64 0, .int .i64 0, .int .i64 0, .int .i64 0, .int .i64 0, .int .i64 0, .int .i64 0, .int .i64 0, .int .i64 0, .int .i64 0, .int .i64 0, .int .i64 0, .int .i64 0, .int .i64 0, .int .i64 0, .int .i64 0, .int .i64 0, .int .i64 0, .int .i64 0, .int .i64 0, .int .i64 0, .int .i64 0, .int .i64 0, .int .i64 0, .int .i64 0, .int .i64 0] 116)).heap[w.heap.size + 1]? = some (.cells #[.int .i64 0, .int .i64 0, .int .i64 0, .int .i64 0, .int .i64 0, .int .i64 0, .int .i64 0, .int .i64 0, .int .i64 0, .int .i64 0, .int .i64 0, .int .i64 0, .int .i64 0, .int .i64 0, .int .i64 0, .int .i64 0, .int .i64 0, .int .i64 0, .int .i64 0, .int .i64 0, .int .i64 0, .int .i64 0, .int .i64 0, .int .i64 0, .int .i64 0, .int .i64 0, .int .i64 0, .int .i64 0, .int .i64 0, .int .i64 0] 116 (0, 0)) by have := heap_alloc_last (w.alloc (.cells #[.int .i64 0, .int .i64 0] 96)) (.cells #[.int .i64 0, .int .i64 0, .int .i64 0, .int .i64 0, .int .i64 0, .int .i64 0, .int .i64 0, .int .i64 0, .int .i64 0, .int .i64 0, .int .i64 0, .int .i64 0, .int .i64 0, .int .i64 0, .int .i64 0, .int .i64 0, .int .i64 0, .int .i64 0, .int .i64 0, .int .i64 0, .int .i64 0, .int .i64 0, .int .i64 0, .int .i64 0, .int .i64 0, .int .i64 0, .int .i64 0, .int .i64 0, .int .i64 0, .int .i64 0] 116); rw [World.size_alloc] at this; exact this)
  generalize tabCells = T at *
  obtain ⟨w1, hw⟩ : ∃ w1, (((w.alloc (.cells #[.int .i64 0, .int .i64 0] 96)).alloc (.cells #[.int .i64 0, .int .i64 0, .int .i64 0, .int .i64 0, .int .i64 0, .int .i64 0, .int .i64 0, .int .i64 0, .int .i64 0, .int .i64 0, .int .i64 0, .int .i64 0, .int .i64 0, .int .i64 0, .int .i64 0, .int .i64 0, .int .i64 0, .int .i64 0, .int .i64 0, .int .i64 0, .int .i64 0, .int .i64 0, .int .i64 0, .int .i64 0, .int .i64 0, .int .i64 0, .int .i64 0, .int .i64 0, .int .i64 0, .int .i64 0] 116)).setRow (w.heap.size + 1) T.toArray) = w1 := ⟨_, rfl⟩
  have Hw := Lib.hid hw
  have H1 : Holds w1 (w.heap.size + 1) 116 T := by rw [← hw]; exact setRow_heap _ _ _ _ _ _ Hst.out
  have H0 : Holds w1 w.heap.size 96 [.int .i64 0, .int .i64 0] := by
    rw [← hw]
    unfold Holds
    rw [setRow_other _ _ _ _ (by omega)]
    exact (Holds.new w _ _).behind _
  have hb : Below w.heap.size w w1 := by
    rw [← hw]
    exact below_setRow (((Below.refl _ _).alloc (Nat.le_refl _) _).alloc (by simp) _) (by omega) _
  have hsz : w.heap.size + 1 < w1.heap.size := H1.lt
  have hsz0 : w.heap.size < w1.heap.size := by omega
  have hl : T.length = 30 := by have := Hl.out; simpa using this
  have c1 : w1.cell? ⟨w.heap.size + 1, f * 2, none⟩ = some (.int .i64 (plS f)) := by
    rw [H1.cell (i := f * 2) (by omega), ← h1, List.getElem?_eq_getElem (by omega)]
  have c2 : w1.cell? ⟨w.heap.size + 1, f * 2 + 1, none⟩ = some (.int .i64 (plN f)) := by
    rw [H1.cell (i := f * 2 + 1) (by omega), ← h2, List.getElem?_eq_getElem (by omega)]
  have z0 : w1.cell? ⟨w.heap.size, 0, none⟩ = some (.int .i64 0) := H0.cell (i := 0) (by simp)
  have z1 : w1.cell? ⟨w.heap.size, 1, none⟩ = some (.int .i64 0) := H0.cell (i := 1) (by simp)
  have z2 : w1.frozen? ⟨w.heap.size, 0, none⟩ = false := H0.frozen 0
  have z3 : w1.frozen? ⟨w.heap.size, 1, none⟩ = false := H0.frozen 1
  have Hb := Lib.hid hb
  clear hw H1 H0 hb hl h1 h2
  go_enter Tryz.func35, Tryz.ntmps35
  go_wp2_with (first
    | (refine wpList_build_is (by rfl) 116 _ (by rfl) tabParts _ Hbt.out ?_ ?_; kernel_rfl)
    | (refine wpList_store_row (by rfl) 116 _ _ (by rfl) (w.heap.size + 1) T.toArray (by rfl) (by rfl) 116 #[.int .i64 0, .int .i64 0, .int .i64 0, .int .i64 0, .int .i64 0, .int .i64 0, .int .i64 0, .int .i64 0, .int .i64 0, .int .i64 0, .int .i64 0, .int .i64 0, .int .i64 0, .int .i64 0, .int .i64 0, .int .i64 0, .int .i64 0, .int .i64 0, .int .i64 0, .int .i64 0, .int .i64 0, .int .i64 0, .int .i64 0, .int .i64 0, .int .i64 0, .int .i64 0, .int .i64 0, .int .i64 0, .int .i64 0, .int .i64 0] Hst.out Hs1.out (by exact Hl.out.symm) Hone.out ?_; rw [Hw.out])
    | fail)
  exact bodyPost_ret (v := .agg #[.int .i64 (plS f), .int .i64 (plN f)]) (by simp [results, Tryz.results35, go_sem, z0, z1]) rfl ⟨(Hb.out.setCell (by simp) _).setCell (by simp) _, rfl⟩

set_option maxRecDepth 100000 in
theorem cut_any (l : List UInt8) (f : Nat) (w : World) (hl : l.length = 512) (h : f < 15) :
    Calls Tryz.prog 40 #[.string ⟨l.toArray⟩, .int .i64 f] w fun e w' => Below w.heap.size w w' ∧ e = .returned (.string ⟨(fld l f).toArray⟩) := by
  have hb := pl_bd f h
  have Hp := Lib.hid (placeOf_any f w h)
  have Hq := Lib.hid (show fld l f = (l.drop (plS f)).take (plS f + plN f - plS f) by unfold fld fldAt; rw [Nat.add_sub_cancel_left])
  have hsl : ∀ W : World, (Instr.slice 9 (.string ⟨l.toArray⟩) (some (.int .i64 (plS f))) (some (.int .i64 ((plS f : Int) + plN f))) none).run Tryz.prog W = .ok (.string ⟨(fld l f).toArray⟩) W := by
    intro W
    rw [run_slice_string W _ _ _ _ _ _ Tryz.underlying9 (by omega) (by omega) (by simp [ByteArray.size]; omega)]
    have he := str_extract l (plS f) (plS f + plN f)
    rw [← Hq.out] at he
    have e1 : ((plS f : Int)).toNat = plS f := by omega
    have e2 : ((plS f : Int) + plN f).toNat = plS f + plN f := by omega
    rw [e1, e2]
    exact congrArg (fun s => Result.ok (Value.string s) W) he
  clear Hq
  generalize fld l f = r at *
  generalize plS f = s at *
  generalize plN f = n at *
  obtain ⟨b1, b2, b3⟩ := hb
  go_enter Tryz.func40, Tryz.ntmps40
  go_wp2_with fail
  refine Hp.out.mono ?_
  rintro e w1 ⟨hb1, rfl⟩
  have Hb1 := Lib.hid hb1
  clear hb1
  go_wp2
  go_ret
  exact ⟨Hb1.out.alloc Hb1.out.size _, rfl⟩
end Go.Proofs.YtamenhkbmbaopaaGreatDoor

