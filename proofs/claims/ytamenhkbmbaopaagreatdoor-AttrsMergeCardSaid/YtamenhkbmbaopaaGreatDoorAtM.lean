/-
  The table of the fields that attrs knows: its closures, its map.
-/
import Derived.Test.YtamenhkbmbaopaaGreatDoorAtT
import Derived.Maps.RangeWalk
import Derived.Maps.OwnSet
import Derived.Test.YtamenhkbmbaopaaGreatDoorRow
import Derived.Laws.Rows
import Derived.Deep.WholeRow
namespace Go.Proofs.YtamenhkbmbaopaaGreatDoor
open Go.ChangeShapes Go.WideShapes Go.ChangeAt Go.RowKit Go.Maps

/-- Any element reads as itself. -/
def heldElem (v : Value) : Option (DataW Value × List MemPlace) := some (.held v, [])
theorem wpList_insert_own {H : Type} {P : Program} (w : World) {ops : Array Oper} {rest : List Oper} {o : Oper} {a : Act} {Q : Exit → Act → World → Prop}
    (hg : o.guard = none) (m x v : Operand) (t : TypeId) (hop : o.op = Op.insert t m x v)
    (k e : TypeId) (K : Keyed P k) (ht : P.underlying t = some (.map k e)) (R : Value → Option (DataW H × List MemPlace)) (b n : Nat) (D : DataW H)
    (hm : a.eval m = .map (some b)) (hown : w.ownsMap P k R b n D) (hn : n < maxLen) (key val : Value) (kl : Lit) (hx : a.eval x = key) (hv : a.eval v = val) (hkey : keyOf P k key = some kl)
    (d : DataW H) (ps : List MemPlace) (hval : R val = some (d, ps))
    (hK : ∀ w', w'.ownsMap P k R b (n + 1) (D.put kl d) → w.grownBy w' (some b) → wpList P ops Q rest (a.put o.dst undef) w') :
    wpList P ops Q (o :: rest) a w := by
  refine wpList_plain hg fun K' hK' => ?_
  obtain ⟨w', hrun, r1, r2⟩ := hown.update K ht hn hkey hval
  unfold Oper.wp
  simp [execOp, hop, hm, hx, hv, hrun, Result.andThen]
  exact hK' _ _ (hK w' r1 r2)

def numField (c : Nat) : Value := .agg #[.func (.func 78) #[] #[.pointer (some ⟨c, 0, none⟩)], .func (.func 80) #[] #[.pointer (some ⟨c, 0, none⟩)], .func (.func 82) #[] #[.pointer (some ⟨c, 0, none⟩)]]
def texField (c : Nat) : Value := .agg #[.func (.func 84) #[] #[.pointer (some ⟨c, 0, none⟩)], .func (.func 86) #[] #[.pointer (some ⟨c, 0, none⟩)], .func (.func 87) #[] #[.pointer (some ⟨c, 0, none⟩)]]
def timField : Value := .agg #[.func (.func 89) #[] #[], .func (.func 91) #[] #[], .func (.func 93) #[] #[]]

set_option maxRecDepth 100000 in
theorem numberField_any (kf : Nat) (w : World) :
    Calls Tryz.prog 46 #[.func (.func kf) #[] #[]] w fun e w' => Below w.heap.size w w' ∧ Holds w' w.heap.size 106 [.func (.func kf) #[] #[]] ∧ e = .returned (numField w.heap.size) := by
  have Ho := Holds.new w 106 [.func (.func kf) #[] #[]]
  generalize hA : w.alloc (.cells #[.func (.func kf) #[] #[]] 106) = wa at *
  have hsz : wa.heap.size = w.heap.size + 1 := by rw [← hA]; simp
  have Ha := Lib.hid (show Below w.heap.size w wa by rw [← hA]; exact (Below.refl _ _).alloc (Nat.le_refl _) _)
  have HD := Lib.hid (show numField w.heap.size = .agg #[Value.func (.func 78) #[] #[.pointer (some ⟨w.heap.size, 0, none⟩)], Value.func (.func 80) #[] #[.pointer (some ⟨w.heap.size, 0, none⟩)], Value.func (.func 82) #[] #[.pointer (some ⟨w.heap.size, 0, none⟩)]] from rfl)
  have Hone := Lib.hid (show #[Value.func (.func 78) #[] #[.pointer (some ⟨w.heap.size, 0, none⟩)], Value.func (.func 80) #[] #[.pointer (some ⟨w.heap.size, 0, none⟩)], Value.func (.func 82) #[] #[.pointer (some ⟨w.heap.size, 0, none⟩)]].all (·.oneCell') = true by simp [Value.oneCell'])
  have Hst := Lib.hid (show (wa.alloc (.cells #[.nilFunc, .nilFunc, .nilFunc] 66)).heap[w.heap.size + 1]? = some (.cells #[.nilFunc, .nilFunc, .nilFunc] 66 (0, 0)) by rw [← hsz]; exact heap_alloc_new wa _)
  obtain ⟨w1, hw⟩ : ∃ w1, (wa.alloc (.cells #[.nilFunc, .nilFunc, .nilFunc] 66)).setRow (w.heap.size + 1) #[Value.func (.func 78) #[] #[.pointer (some ⟨w.heap.size, 0, none⟩)], Value.func (.func 80) #[] #[.pointer (some ⟨w.heap.size, 0, none⟩)], Value.func (.func 82) #[] #[.pointer (some ⟨w.heap.size, 0, none⟩)]] = w1 := ⟨_, rfl⟩
  have Hw := Lib.hid hw
  have H1 : Holds w1 (w.heap.size + 1) 66 [Value.func (.func 78) #[] #[.pointer (some ⟨w.heap.size, 0, none⟩)], Value.func (.func 80) #[] #[.pointer (some ⟨w.heap.size, 0, none⟩)], Value.func (.func 82) #[] #[.pointer (some ⟨w.heap.size, 0, none⟩)]] := by rw [← hw]; exact setRow_heap _ _ _ _ _ _ Hst.out
  have H0 := Lib.hid (show Holds w1 w.heap.size 106 [.func (.func kf) #[] #[]] by
    rw [← hw]
    unfold Holds
    rw [setRow_other _ _ _ _ (by omega)]
    exact Ho.behind _)
  have Hb := Lib.hid (show Below w.heap.size w w1 by
    rw [← hw]
    exact below_setRow (Ha.out.alloc (by omega) _) (by omega) _)
  have c0 : w1.cell? ⟨w.heap.size + 1, 0, none⟩ = some (Value.func (.func 78) #[] #[.pointer (some ⟨w.heap.size, 0, none⟩)]) := H1.cell (i := 0) (by simp)
  have c1 : w1.cell? ⟨w.heap.size + 1, 1, none⟩ = some (Value.func (.func 80) #[] #[.pointer (some ⟨w.heap.size, 0, none⟩)]) := H1.cell (i := 1) (by simp)
  have c2 : w1.cell? ⟨w.heap.size + 1, 2, none⟩ = some (Value.func (.func 82) #[] #[.pointer (some ⟨w.heap.size, 0, none⟩)]) := H1.cell (i := 2) (by simp)
  have Hs1 := Lib.hid (show (Tryz.prog.info? 66).map (·.size) = some 3 by kernel_rfl)
  clear H1 Ho hw
  go_enter Tryz.func46, Tryz.ntmps46
  go_wp2_with (first
    | (refine wpList_store_row (by rfl) 66 _ _ (by rfl) (w.heap.size + 1) #[Value.func (.func 78) #[] #[.pointer (some ⟨w.heap.size, 0, none⟩)], Value.func (.func 80) #[] #[.pointer (some ⟨w.heap.size, 0, none⟩)], Value.func (.func 82) #[] #[.pointer (some ⟨w.heap.size, 0, none⟩)]] (by rfl) (by rfl) 66 #[.nilFunc, .nilFunc, .nilFunc] Hst.out Hs1.out (by rfl) Hone.out ?_; rw [Hw.out])
    | fail)
  exact bodyPost_ret (v := numField w.heap.size) (by simp [results, Tryz.results46, go_sem, c0, c1, c2, numField]) rfl ⟨Hb.out, H0.out, rfl⟩
set_option maxRecDepth 100000 in
theorem textField_any (kf : Nat) (w : World) :
    Calls Tryz.prog 48 #[.func (.func kf) #[] #[]] w fun e w' => Below w.heap.size w w' ∧ Holds w' w.heap.size 108 [.func (.func kf) #[] #[]] ∧ e = .returned (texField w.heap.size) := by
  have Ho := Holds.new w 108 [.func (.func kf) #[] #[]]
  generalize hA : w.alloc (.cells #[.func (.func kf) #[] #[]] 108) = wa at *
  have hsz : wa.heap.size = w.heap.size + 1 := by rw [← hA]; simp
  have Ha := Lib.hid (show Below w.heap.size w wa by rw [← hA]; exact (Below.refl _ _).alloc (Nat.le_refl _) _)
  have HD := Lib.hid (show texField w.heap.size = .agg #[Value.func (.func 84) #[] #[.pointer (some ⟨w.heap.size, 0, none⟩)], Value.func (.func 86) #[] #[.pointer (some ⟨w.heap.size, 0, none⟩)], Value.func (.func 87) #[] #[.pointer (some ⟨w.heap.size, 0, none⟩)]] from rfl)
  have Hone := Lib.hid (show #[Value.func (.func 84) #[] #[.pointer (some ⟨w.heap.size, 0, none⟩)], Value.func (.func 86) #[] #[.pointer (some ⟨w.heap.size, 0, none⟩)], Value.func (.func 87) #[] #[.pointer (some ⟨w.heap.size, 0, none⟩)]].all (·.oneCell') = true by simp [Value.oneCell'])
  have Hst := Lib.hid (show (wa.alloc (.cells #[.nilFunc, .nilFunc, .nilFunc] 66)).heap[w.heap.size + 1]? = some (.cells #[.nilFunc, .nilFunc, .nilFunc] 66 (0, 0)) by rw [← hsz]; exact heap_alloc_new wa _)
  obtain ⟨w1, hw⟩ : ∃ w1, (wa.alloc (.cells #[.nilFunc, .nilFunc, .nilFunc] 66)).setRow (w.heap.size + 1) #[Value.func (.func 84) #[] #[.pointer (some ⟨w.heap.size, 0, none⟩)], Value.func (.func 86) #[] #[.pointer (some ⟨w.heap.size, 0, none⟩)], Value.func (.func 87) #[] #[.pointer (some ⟨w.heap.size, 0, none⟩)]] = w1 := ⟨_, rfl⟩
  have Hw := Lib.hid hw
  have H1 : Holds w1 (w.heap.size + 1) 66 [Value.func (.func 84) #[] #[.pointer (some ⟨w.heap.size, 0, none⟩)], Value.func (.func 86) #[] #[.pointer (some ⟨w.heap.size, 0, none⟩)], Value.func (.func 87) #[] #[.pointer (some ⟨w.heap.size, 0, none⟩)]] := by rw [← hw]; exact setRow_heap _ _ _ _ _ _ Hst.out
  have H0 := Lib.hid (show Holds w1 w.heap.size 108 [.func (.func kf) #[] #[]] by
    rw [← hw]
    unfold Holds
    rw [setRow_other _ _ _ _ (by omega)]
    exact Ho.behind _)
  have Hb := Lib.hid (show Below w.heap.size w w1 by
    rw [← hw]
    exact below_setRow (Ha.out.alloc (by omega) _) (by omega) _)
  have c0 : w1.cell? ⟨w.heap.size + 1, 0, none⟩ = some (Value.func (.func 84) #[] #[.pointer (some ⟨w.heap.size, 0, none⟩)]) := H1.cell (i := 0) (by simp)
  have c1 : w1.cell? ⟨w.heap.size + 1, 1, none⟩ = some (Value.func (.func 86) #[] #[.pointer (some ⟨w.heap.size, 0, none⟩)]) := H1.cell (i := 1) (by simp)
  have c2 : w1.cell? ⟨w.heap.size + 1, 2, none⟩ = some (Value.func (.func 87) #[] #[.pointer (some ⟨w.heap.size, 0, none⟩)]) := H1.cell (i := 2) (by simp)
  have Hs1 := Lib.hid (show (Tryz.prog.info? 66).map (·.size) = some 3 by kernel_rfl)
  clear H1 Ho hw
  go_enter Tryz.func48, Tryz.ntmps48
  go_wp2_with (first
    | (refine wpList_store_row (by rfl) 66 _ _ (by rfl) (w.heap.size + 1) #[Value.func (.func 84) #[] #[.pointer (some ⟨w.heap.size, 0, none⟩)], Value.func (.func 86) #[] #[.pointer (some ⟨w.heap.size, 0, none⟩)], Value.func (.func 87) #[] #[.pointer (some ⟨w.heap.size, 0, none⟩)]] (by rfl) (by rfl) 66 #[.nilFunc, .nilFunc, .nilFunc] Hst.out Hs1.out (by rfl) Hone.out ?_; rw [Hw.out])
    | fail)
  exact bodyPost_ret (v := texField w.heap.size) (by simp [results, Tryz.results48, go_sem, c0, c1, c2, texField]) rfl ⟨Hb.out, H0.out, rfl⟩
set_option maxRecDepth 100000 in
theorem timeField_any (w : World) :
    Calls Tryz.prog 51 #[] w fun e w' => Below w.heap.size w w' ∧ e = .returned timField := by
  unfold timField
  have Hst := Lib.hid (show (w.alloc (.cells #[.nilFunc, .nilFunc, .nilFunc] 66)).heap[w.heap.size]? = some (.cells #[.nilFunc, .nilFunc, .nilFunc] 66 (0, 0)) from heap_alloc_new w _)
  obtain ⟨w1, hw⟩ : ∃ w1, (w.alloc (.cells #[.nilFunc, .nilFunc, .nilFunc] 66)).setRow w.heap.size #[Value.func (.func 89) #[] #[], Value.func (.func 91) #[] #[], Value.func (.func 93) #[] #[]] = w1 := ⟨_, rfl⟩
  have Hw := Lib.hid hw
  have H1 : Holds w1 w.heap.size 66 [Value.func (.func 89) #[] #[], Value.func (.func 91) #[] #[], Value.func (.func 93) #[] #[]] := by rw [← hw]; exact setRow_heap _ _ _ _ _ _ Hst.out
  have Hb := Lib.hid (show Below w.heap.size w w1 by
    rw [← hw]
    exact below_setRow ((Below.refl _ _).alloc (Nat.le_refl _) _) (Nat.le_refl _) _)
  have Hone := Lib.hid (show #[Value.func (.func 89) #[] #[], Value.func (.func 91) #[] #[], Value.func (.func 93) #[] #[]].all (·.oneCell') = true by simp [Value.oneCell'])
  have c0 : w1.cell? ⟨w.heap.size, 0, none⟩ = some (Value.func (.func 89) #[] #[]) := H1.cell (i := 0) (by simp)
  have c1 : w1.cell? ⟨w.heap.size, 1, none⟩ = some (Value.func (.func 91) #[] #[]) := H1.cell (i := 1) (by simp)
  have c2 : w1.cell? ⟨w.heap.size, 2, none⟩ = some (Value.func (.func 93) #[] #[]) := H1.cell (i := 2) (by simp)
  have Hs1 := Lib.hid (show (Tryz.prog.info? 66).map (·.size) = some 3 by kernel_rfl)
  clear H1 hw
  go_enter Tryz.func51, Tryz.ntmps51
  go_wp2_with (first
    | (refine wpList_store_row (by rfl) 66 _ _ (by rfl) w.heap.size #[Value.func (.func 89) #[] #[], Value.func (.func 91) #[] #[], Value.func (.func 93) #[] #[]] (by rfl) (by rfl) 66 #[.nilFunc, .nilFunc, .nilFunc] Hst.out Hs1.out (by rfl) Hone.out ?_; rw [Hw.out])
    | fail)
  exact bodyPost_ret (v := .agg #[Value.func (.func 89) #[] #[], Value.func (.func 91) #[] #[], Value.func (.func 93) #[] #[]]) (by simp [results, Tryz.results51, go_sem, c0, c1, c2]) rfl ⟨Hb.out, rfl⟩

end Go.Proofs.YtamenhkbmbaopaaGreatDoor
