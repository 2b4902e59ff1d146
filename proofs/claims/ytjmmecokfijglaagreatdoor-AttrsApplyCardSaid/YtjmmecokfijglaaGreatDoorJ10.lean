/-
  Texts of this seat's proof, joined: their order is that of the build.
-/
import Derived.Test.YtjmmecokfijglaaGreatDoorJ09
import Derived.Maps.RangeWalk
import Derived.Maps.OwnSet
import Derived.Test.YtjmmecokfijglaaGreatDoorJ07
import Derived.Laws.Rows
import Derived.Deep.WholeRow
namespace Go.Proofs.YtjmmecokfijglaaGreatDoor
open Go.ChangeShapes Go.WideShapes Go.ChangeAt Go.RowKit

theorem KeepA.both {W : World} {b : Nat} {mc : List Value} {w : World} {a c : Nat} {v u : Value} (hv : mc[a]? = some v) (hu : mc[c]? = some u) (k : KeepA W b mc w) : KeepA W b mc w ∧ w.cell? ⟨b, a, none⟩ = some v ∧ w.cell? ⟨b, c, none⟩ = some u := ⟨k, k.cell hv, k.cell hu⟩

set_option maxRecDepth 100000 in
set_option maxHeartbeats 1000000 in
theorem fitTime_no (mc : List Value) (h : Hd) (n : Int) (hn : mc[11]? = some (.int .i64 n)) (h0 : n ≠ 0) (b : Nat) (w : World) (hh : Holds w b 78 (mc ++ h.cells)) :
    Calls Tryz.prog 143 #[.pointer (some ⟨b, 0, none⟩)] w fun e w' => (∃ m, w' = w.drewN m) ∧ e = .returned (.bool false) := by
  have K1 : KeepA w b mc w := ⟨⟨h, hh⟩, grown_below (Below.refl _ _) _⟩
  have k1 := K1.cell hn
  have hn0 : (n == 0) = false := by simpa using h0
  clear hn h0 hh K1
  go_enter Tryz.func143, Tryz.ntmps143
  go_wp2_with (fail)
  go_quiet (fail)
  go_wp2
  go_ret
  exact ⟨⟨nq, rfl⟩, rfl⟩
set_option maxRecDepth 100000 in
set_option maxHeartbeats 1000000 in
theorem fitTime_any (mc : List Value) (hm : mc.length = 15) (h h' : Hd) (x v : Int) (hn : mc[11]? = some (.int .i64 0)) (hv : mc[10]? = some (.int .i64 v)) (hx : h.cells[7]? = some (.int .i64 x)) (hs : h.cells.set 7 (.int .i64 v) = h'.cells) (hs' : h'.cells.set 7 (.int .i64 x) = h.cells)
    (hok : h'.okN) (hl : h'.name.length ≤ 9223372036854775807) (b : Nat) (w : World) (hh : Holds w b 78 (mc ++ h.cells)) :
    Calls Tryz.prog 143 #[.pointer (some ⟨b, 0, none⟩)] w fun e w' =>
      w.grownBy w' (some b) ∧ Holds w' b 78 (mc ++ (putEnd h h').cells) ∧ e = .returned (.bool (hdFits h' == 0)) := by
  have Hput := Lib.hid (show ∀ w1 : World, Holds w1 b 78 (mc ++ h.cells) → Calls Tryz.prog 133 #[.pointer (some ⟨b, 15, none⟩), .pointer (some ⟨b, 22, none⟩), .int .i64 v] w1 fun e w' =>
      w1.grownBy w' (some b) ∧ Holds w' b 78 (mc ++ (putEnd h h').cells) ∧ e = .returned (.bool (hdFits h' == 0)) from fun w1 hh1 => putInt_any mc hm h h' 7 x v hx hs hs' hok hl b w1 hh1)
  have Hv := Lib.hid hv
  have Hn := Lib.hid hn
  have K1 : KeepA w b mc w := ⟨⟨h, hh⟩, grown_below (Below.refl _ _) _⟩
  have k1 := K1.cell hv
  have k2 := K1.cell hn
  have Hh := Lib.hid hh
  clear hm hx hs hs' hok hl hv hn hh
  generalize (hdFits h' == 0) = R at *
  generalize putEnd h h' = E at *
  go_enter Tryz.func143, Tryz.ntmps143
  go_wp2_with (fail)
  go_region_held3 (fun w' => KeepA w b mc w' ∧ w'.cell? ⟨b, 10, none⟩ = some (.int .i64 v) ∧ w'.cell? ⟨b, 11, none⟩ = some (.int .i64 0))
    (first | assumption | exact KeepA.both Hv.out Hn.out (KeepA.drew K1) | exact KeepA.both Hv.out Hn.out ⟨⟨_, hA⟩, grown_trans (KeepA.drew K1).2 gA⟩ | exact KeepA.both Hv.out Hn.out ⟨⟨_, hA⟩, grown_trans K1.2 gA⟩)
    (first | (go_at_call 133; refine (Hput.out _ (Holds.drew Hh.out)).mono ?_; rintro e wA ⟨gA, hA, rfl⟩))
  have GA := (KeepA.drew K1).2
  go_wp2
  go_ret
  exact ⟨grown_trans GA gA, hA, rfl⟩
end Go.Proofs.YtjmmecokfijglaaGreatDoor
namespace Go.Proofs.YtjmmecokfijglaaGreatDoor
open Go.ChangeShapes Go.WideShapes Go.ChangeAt Go.RowKit Go.Maps

/-- Any element reads as itself. -/
def heldElem (v : Value) : Option (DataW Value × List MemPlace) := some (.held v, [])
theorem wpList_insert_own {H : Type} {P : Program} (w : World) {ops : Array Oper} {rest : List Oper} {o : Oper} {a : Act} {Q : Exit → Act → World → Prop}
    (hg : o.guard = none) (m x v : Operand) (t : TypeId) (hop : o.op = Op.insert t m x v)
    (k e : TypeId) (K : Keyed P k) (ht : P.underlying t = some (.map k e)) (R : Value → Option (DataW H × List MemPlace)) (b n : Nat) (D : DataW H)
    (hm : a.eval m = .map (some b)) (hown : w.ownsMap P k R b n D) (hn : n < maxLen) (key val : Value) (kl : Lit) (hx : a.eval x = key) (hv : a.eval v = val) (hkey : keyOf P k key = some kl)
    (d : DataW H) (ps : List MemPlace) (hval : R val = some (d, ps))
    (hK : ∀ w', w'.ownsMap P k R b (n + 1) (D.put kl d) → w.grownBy w' (some b) → wpList P ops Q rest (a.put o.dst undef) w') :
    wpList P ops Q (o :: rest) a w := by
  refine wpList_plain hg fun K' hK' => ?_
  obtain ⟨w', hrun, r1, r2⟩ := hown.update K ht hn hkey hval
  unfold Oper.wp
  simp [execOp, hop, hm, hx, hv, hrun, Result.andThen]
  exact hK' _ _ (hK w' r1 r2)

def numField (c : Nat) : Value := .agg #[.func (.func 128) #[] #[.pointer (some ⟨c, 0, none⟩)], .func (.func 130) #[] #[.pointer (some ⟨c, 0, none⟩)], .func (.func 132) #[] #[.pointer (some ⟨c, 0, none⟩)]]
def texField (c : Nat) : Value := .agg #[.func (.func 134) #[] #[.pointer (some ⟨c, 0, none⟩)], .func (.func 136) #[] #[.pointer (some ⟨c, 0, none⟩)], .func (.func 137) #[] #[.pointer (some ⟨c, 0, none⟩)]]
def timField : Value := .agg #[.func (.func 139) #[] #[], .func (.func 141) #[] #[], .func (.func 143) #[] #[]]

set_option maxRecDepth 100000 in
theorem numberField_any (kf : Nat) (w : World) :
    Calls Tryz.prog 72 #[.func (.func kf) #[] #[]] w fun e w' => Below w.heap.size w w' ∧ Holds w' w.heap.size 154 [.func (.func kf) #[] #[]] ∧ e = .returned (numField w.heap.size) := by
  have Ho := Holds.new w 154 [.func (.func kf) #[] #[]]
  generalize hA : w.alloc (.cells #[.func (.func kf) #[] #[]] 154) = wa at *
  have hsz : wa.heap.size = w.heap.size + 1 := by rw [← hA]; simp
  have Ha := Lib.hid (show Below w.heap.size w wa by rw [← hA]; exact (Below.refl _ _).alloc (Nat.le_refl _) _)
  have HD := Lib.hid (show numField w.heap.size = .agg #[Value.func (.func 128) #[] #[.pointer (some ⟨w.heap.size, 0, none⟩)], Value.func (.func 130) #[] #[.pointer (some ⟨w.heap.size, 0, none⟩)], Value.func (.func 132) #[] #[.pointer (some ⟨w.heap.size, 0, none⟩)]] from rfl)
  have Hone := Lib.hid (show #[Value.func (.func 128) #[] #[.pointer (some ⟨w.heap.size, 0, none⟩)], Value.func (.func 130) #[] #[.pointer (some ⟨w.heap.size, 0, none⟩)], Value.func (.func 132) #[] #[.pointer (some ⟨w.heap.size, 0, none⟩)]].all (·.oneCell') = true by simp [Value.oneCell'])
  have Hst := Lib.hid (show (wa.alloc (.cells #[.nilFunc, .nilFunc, .nilFunc] 85)).heap[w.heap.size + 1]? = some (.cells #[.nilFunc, .nilFunc, .nilFunc] 85 (0, 0)) by rw [← hsz]; exact heap_alloc_new wa _)
  obtain ⟨w1, hw⟩ : ∃ w1, (wa.alloc (.cells #[.nilFunc, .nilFunc, .nilFunc] 85)).setRow (w.heap.size + 1) #[Value.func (.func 128) #[] #[.pointer (some ⟨w.heap.size, 0, none⟩)], Value.func (.func 130) #[] #[.pointer (some ⟨w.heap.size, 0, none⟩)], Value.func (.func 132) #[] #[.pointer (some ⟨w.heap.size, 0, none⟩)]] = w1 := ⟨_, rfl⟩
  have Hw := Lib.hid hw
  have H1 : Holds w1 (w.heap.size + 1) 85 [Value.func (.func 128) #[] #[.pointer (some ⟨w.heap.size, 0, none⟩)], Value.func (.func 130) #[] #[.pointer (some ⟨w.heap.size, 0, none⟩)], Value.func (.func 132) #[] #[.pointer (some ⟨w.heap.size, 0, none⟩)]] := by rw [← hw]; exact setRow_heap _ _ _ _ _ _ Hst.out
  have H0 := Lib.hid (show Holds w1 w.heap.size 154 [.func (.func kf) #[] #[]] by
    rw [← hw]
    unfold Holds
    rw [setRow_other _ _ _ _ (by omega)]
    exact Ho.behind _)
  have Hb := Lib.hid (show Below w.heap.size w w1 by
    rw [← hw]
    exact below_setRow (Ha.out.alloc (by omega) _) (by omega) _)
  have c0 : w1.cell? ⟨w.heap.size + 1, 0, none⟩ = some (Value.func (.func 128) #[] #[.pointer (some ⟨w.heap.size, 0, none⟩)]) := H1.cell (i := 0) (by simp)
  have c1 : w1.cell? ⟨w.heap.size + 1, 1, none⟩ = some (Value.func (.func 130) #[] #[.pointer (some ⟨w.heap.size, 0, none⟩)]) := H1.cell (i := 1) (by simp)
  have c2 : w1.cell? ⟨w.heap.size + 1, 2, none⟩ = some (Value.func (.func 132) #[] #[.pointer (some ⟨w.heap.size, 0, none⟩)]) := H1.cell (i := 2) (by simp)
  have Hs1 := Lib.hid (show (Tryz.prog.info? 85).map (·.size) = some 3 by kernel_rfl)
  clear H1 Ho hw
  go_enter Tryz.func72, Tryz.ntmps72
  go_wp2_with (first
    | (refine wpList_store_row (by rfl) 85 _ _ (by rfl) (w.heap.size + 1) #[Value.func (.func 128) #[] #[.pointer (some ⟨w.heap.size, 0, none⟩)], Value.func (.func 130) #[] #[.pointer (some ⟨w.heap.size, 0, none⟩)], Value.func (.func 132) #[] #[.pointer (some ⟨w.heap.size, 0, none⟩)]] (by rfl) (by rfl) 85 #[.nilFunc, .nilFunc, .nilFunc] Hst.out Hs1.out (by rfl) Hone.out ?_; rw [Hw.out])
    | fail)
  exact bodyPost_ret (v := numField w.heap.size) (by simp [results, Tryz.results72, go_sem, c0, c1, c2, numField]) rfl ⟨Hb.out, H0.out, rfl⟩
set_option maxRecDepth 100000 in
theorem textField_any (kf : Nat) (w : World) :
    Calls Tryz.prog 74 #[.func (.func kf) #[] #[]] w fun e w' => Below w.heap.size w w' ∧ Holds w' w.heap.size 156 [.func (.func kf) #[] #[]] ∧ e = .returned (texField w.heap.size) := by
  have Ho := Holds.new w 156 [.func (.func kf) #[] #[]]
  generalize hA : w.alloc (.cells #[.func (.func kf) #[] #[]] 156) = wa at *
  have hsz : wa.heap.size = w.heap.size + 1 := by rw [← hA]; simp
  have Ha := Lib.hid (show Below w.heap.size w wa by rw [← hA]; exact (Below.refl _ _).alloc (Nat.le_refl _) _)
  have HD := Lib.hid (show texField w.heap.size = .agg #[Value.func (.func 134) #[] #[.pointer (some ⟨w.heap.size, 0, none⟩)], Value.func (.func 136) #[] #[.pointer (some ⟨w.heap.size, 0, none⟩)], Value.func (.func 137) #[] #[.pointer (some ⟨w.heap.size, 0, none⟩)]] from rfl)
  have Hone := Lib.hid (show #[Value.func (.func 134) #[] #[.pointer (some ⟨w.heap.size, 0, none⟩)], Value.func (.func 136) #[] #[.pointer (some ⟨w.heap.size, 0, none⟩)], Value.func (.func 137) #[] #[.pointer (some ⟨w.heap.size, 0, none⟩)]].all (·.oneCell') = true by simp [Value.oneCell'])
  have Hst := Lib.hid (show (wa.alloc (.cells #[.nilFunc, .nilFunc, .nilFunc] 85)).heap[w.heap.size + 1]? = some (.cells #[.nilFunc, .nilFunc, .nilFunc] 85 (0, 0)) by rw [← hsz]; exact heap_alloc_new wa _)
  obtain ⟨w1, hw⟩ : ∃ w1, (wa.alloc (.cells #[.nilFunc, .nilFunc, .nilFunc] 85)).setRow (w.heap.size + 1) #[Value.func (.func 134) #[] #[.pointer (some ⟨w.heap.size, 0, none⟩)], Value.func (.func 136) #[] #[.pointer (some ⟨w.heap.size, 0, none⟩)], Value.func (.func 137) #[] #[.pointer (some ⟨w.heap.size, 0, none⟩)]] = w1 := ⟨_, rfl⟩
  have Hw := Lib.hid hw
  have H1 : Holds w1 (w.heap.size + 1) 85 [Value.func (.func 134) #[] #[.pointer (some ⟨w.heap.size, 0, none⟩)], Value.func (.func 136) #[] #[.pointer (some ⟨w.heap.size, 0, none⟩)], Value.func (.func 137) #[] #[.pointer (some ⟨w.heap.size, 0, none⟩)]] := by rw [← hw]; exact setRow_heap _ _ _ _ _ _ Hst.out
  have H0 := Lib.hid (show Holds w1 w.heap.size 156 [.func (.func kf) #[] #[]] by
    rw [← hw]
    unfold Holds
    rw [setRow_other _ _ _ _ (by omega)]
    exact Ho.behind _)
  have Hb := Lib.hid (show Below w.heap.size w w1 by
    rw [← hw]
    exact below_setRow (Ha.out.alloc (by omega) _) (by omega) _)
  have c0 : w1.cell? ⟨w.heap.size + 1, 0, none⟩ = some (Value.func (.func 134) #[] #[.pointer (some ⟨w.heap.size, 0, none⟩)]) := H1.cell (i := 0) (by simp)
  have c1 : w1.cell? ⟨w.heap.size + 1, 1, none⟩ = some (Value.func (.func 136) #[] #[.pointer (some ⟨w.heap.size, 0, none⟩)]) := H1.cell (i := 1) (by simp)
  have c2 : w1.cell? ⟨w.heap.size + 1, 2, none⟩ = some (Value.func (.func 137) #[] #[.pointer (some ⟨w.heap.size, 0, none⟩)]) := H1.cell (i := 2) (by simp)
  have Hs1 := Lib.hid (show (Tryz.prog.info? 85).map (·.size) = some 3 by kernel_rfl)
  clear H1 Ho hw
  go_enter Tryz.func74, Tryz.ntmps74
  go_wp2_with (first
    | (refine wpList_store_row (by rfl) 85 _ _ (by rfl) (w.heap.size + 1) #[Value.func (.func 134) #[] #[.pointer (some ⟨w.heap.size, 0, none⟩)], Value.func (.func 136) #[] #[.pointer (some ⟨w.heap.size, 0, none⟩)], Value.func (.func 137) #[] #[.pointer (some ⟨w.heap.size, 0, none⟩)]] (by rfl) (by rfl) 85 #[.nilFunc, .nilFunc, .nilFunc] Hst.out Hs1.out (by rfl) Hone.out ?_; rw [Hw.out])
    | fail)
  exact bodyPost_ret (v := texField w.heap.size) (by simp [results, Tryz.results74, go_sem, c0, c1, c2, texField]) rfl ⟨Hb.out, H0.out, rfl⟩
set_option maxRecDepth 100000 in
theorem timeField_any (w : World) :
    Calls Tryz.prog 77 #[] w fun e w' => Below w.heap.size w w' ∧ e = .returned timField := by
  unfold timField
  have Hst := Lib.hid (show (w.alloc (.cells #[.nilFunc, .nilFunc, .nilFunc] 85)).heap[w.heap.size]? = some (.cells #[.nilFunc, .nilFunc, .nilFunc] 85 (0, 0)) from heap_alloc_new w _)
  obtain ⟨w1, hw⟩ : ∃ w1, (w.alloc (.cells #[.nilFunc, .nilFunc, .nilFunc] 85)).setRow w.heap.size #[Value.func (.func 139) #[] #[], Value.func (.func 141) #[] #[], Value.func (.func 143) #[] #[]] = w1 := ⟨_, rfl⟩
  have Hw := Lib.hid hw
  have H1 : Holds w1 w.heap.size 85 [Value.func (.func 139) #[] #[], Value.func (.func 141) #[] #[], Value.func (.func 143) #[] #[]] := by rw [← hw]; exact setRow_heap _ _ _ _ _ _ Hst.out
  have Hb := Lib.hid (show Below w.heap.size w w1 by
    rw [← hw]
    exact below_setRow ((Below.refl _ _).alloc (Nat.le_refl _) _) (Nat.le_refl _) _)
  have Hone := Lib.hid (show #[Value.func (.func 139) #[] #[], Value.func (.func 141) #[] #[], Value.func (.func 143) #[] #[]].all (·.oneCell') = true by simp [Value.oneCell'])
  have c0 : w1.cell? ⟨w.heap.size, 0, none⟩ = some (Value.func (.func 139) #[] #[]) := H1.cell (i := 0) (by simp)
  have c1 : w1.cell? ⟨w.heap.size, 1, none⟩ = some (Value.func (.func 141) #[] #[]) := H1.cell (i := 1) (by simp)
  have c2 : w1.cell? ⟨w.heap.size, 2, none⟩ = some (Value.func (.func 143) #[] #[]) := H1.cell (i := 2) (by simp)
  have Hs1 := Lib.hid (show (Tryz.prog.info? 85).map (·.size) = some 3 by kernel_rfl)
  clear H1 hw
  go_enter Tryz.func77, Tryz.ntmps77
  go_wp2_with (first
    | (refine wpList_store_row (by rfl) 85 _ _ (by rfl) w.heap.size #[Value.func (.func 139) #[] #[], Value.func (.func 141) #[] #[], Value.func (.func 143) #[] #[]] (by rfl) (by rfl) 85 #[.nilFunc, .nilFunc, .nilFunc] Hst.out Hs1.out (by rfl) Hone.out ?_; rw [Hw.out])
    | fail)
  exact bodyPost_ret (v := .agg #[Value.func (.func 139) #[] #[], Value.func (.func 141) #[] #[], Value.func (.func 143) #[] #[]]) (by simp [results, Tryz.results77, go_sem, c0, c1, c2]) rfl ⟨Hb.out, rfl⟩

end Go.Proofs.YtjmmecokfijglaaGreatDoor
namespace Go.Proofs.YtjmmecokfijglaaGreatDoor
open Go.ChangeShapes Go.WideShapes Go.ChangeAt Go.RowKit Go.Maps

/-- The blocks of the captured functions. -/
structure Tbl where
  g : Nat
  gn : Nat
  l : Nat
  p : Nat
  s : Nat
  u : Nat
  un : Nat
def knownD (t : Tbl) : DataW Value := (((((((((((((((((.map [] : DataW Value)).put (.string [103, 105, 100]) (.held (numField t.g)))).put (.string [103, 110, 97, 109, 101]) (.held (texField t.gn)))).put (.string [108, 105, 110, 107, 112, 97, 116, 104]) (.held (texField t.l)))).put (.string [109, 116, 105, 109, 101]) (.held timField))).put (.string [112, 97, 116, 104]) (.held (texField t.p)))).put (.string [115, 105, 122, 101]) (.held (numField t.s)))).put (.string [117, 105, 100]) (.held (numField t.u)))).put (.string [117, 110, 97, 109, 101]) (.held (texField t.un)))
def TblAt (t : Tbl) (w : World) : Prop := Holds w t.g 154 [.func (.func 73) #[] #[]] ∧ Holds w t.gn 156 [.func (.func 75) #[] #[]] ∧ Holds w t.l 156 [.func (.func 76) #[] #[]] ∧ Holds w t.p 156 [.func (.func 78) #[] #[]] ∧ Holds w t.s 154 [.func (.func 79) #[] #[]] ∧ Holds w t.u 154 [.func (.func 80) #[] #[]] ∧ Holds w t.un 156 [.func (.func 81) #[] #[]]
def TblIn (t : Tbl) (B : Nat) : Prop := B < t.g ∧ B < t.gn ∧ B < t.l ∧ B < t.p ∧ B < t.s ∧ B < t.u ∧ B < t.un
def KnInv (w W : World) (n : Nat) (D : DataW Value) (hs : List (Nat × TypeId × Value)) : Prop :=
  W.ownsMap Tryz.prog 9 heldElem w.heap.size n D ∧ Below w.heap.size w W ∧ ∀ x ∈ hs, w.heap.size < x.1 ∧ Holds W x.1 x.2.1 [x.2.2]
theorem KnInv.call {w W W' : World} {n : Nat} {D : DataW Value} {hs : List (Nat × TypeId × Value)} (h : KnInv w W n D hs) (hb : Below W.heap.size W W') : KnInv w W' n D hs :=
  ⟨h.1.kept (row := none) (grown_below hb none) (by simp), h.2.1.trans (hb.mono h.2.1.size), fun x hx => ⟨(h.2.2 x hx).1, (h.2.2 x hx).2.under hb (h.2.2 x hx).2.lt⟩⟩
theorem KnInv.add {w W W' : World} {n : Nat} {D : DataW Value} {hs : List (Nat × TypeId × Value)} (h : KnInv w W n D hs) (hb : Below W.heap.size W W') {t : TypeId} {v : Value} (hh : Holds W' W.heap.size t [v]) : KnInv w W' n D ((W.heap.size, t, v) :: hs) := by
  have h2 := h.call hb
  refine ⟨h2.1, h2.2.1, fun x hx => ?_⟩
  rcases List.mem_cons.1 hx with rfl | hx
  · exact ⟨h.1.lt, hh⟩
  · exact h2.2.2 x hx
theorem KnInv.ins {w W W' : World} {n m : Nat} {D D' : DataW Value} {hs : List (Nat × TypeId × Value)} (h : KnInv w W n D hs) (ho : W'.ownsMap Tryz.prog 9 heldElem w.heap.size m D') (hg : W.grownBy W' (some w.heap.size)) : KnInv w W' m D' hs :=
  ⟨ho, h.2.1.grown hg h.2.1.size (fun k hk => by cases hk; exact Nat.le_refl _), fun x hx => ⟨(h.2.2 x hx).1, (h.2.2 x hx).2.grown hg (fun e => by have := (h.2.2 x hx).1; injection e with e; omega)⟩⟩

set_option maxRecDepth 100000 in
set_option maxHeartbeats 1000000 in
theorem known_any (w : World) :
    Calls Tryz.prog 29 #[] w fun e w' => Below w.heap.size w w' ∧ ∃ t : Tbl, w'.ownsMap Tryz.prog 9 heldElem w.heap.size 8 (knownD t) ∧ TblAt t w' ∧ TblIn t w.heap.size ∧ e = .returned (.map (some w.heap.size)) := by
  have hmm := @run_makeMap Tryz.prog
  have I0 := Lib.hid (show KnInv w (w.alloc (.map #[] 0)) 0 (.map []) [] from ⟨World.ownsMap_made w _ _ _, (Below.refl _ _).alloc (Nat.le_refl _) _, fun x hx => by cases hx⟩)
  go_enter Tryz.func29, Tryz.ntmps29
  go_wp2_with (fail)
  refine (numberField_any 73 _).mono ?_
  rintro e w0 ⟨hb0, hh0, rfl⟩
  have J0 := Lib.hid (I0.out.add hb0 hh0)
  clear hb0 hh0
  go_wp2_with (first
    | (refine wpList_insert_own _ (by rfl) _ _ _ 79 (by rfl) 9 85 (string_keyed Tryz.underlying9) Tryz.underlying79 heldElem w.heap.size 0 _ (by rfl) J0.out.1 (by unfold maxLen; omega) _ _ (.string [103, 105, 100]) (by rfl) (by rfl) (WideMaps.keyOf_string_mk Tryz.underlying9 (s := ⟨#[103, 105, 100]⟩) (by decide)) _ [] rfl ?_; intro v0 hown0 hgrow0; have I1 := Lib.hid (J0.out.ins hown0 hgrow0); clear hown0 hgrow0)
    | fail)
  refine (textField_any 75 _).mono ?_
  rintro e w1 ⟨hb1, hh1, rfl⟩
  have J1 := Lib.hid (I1.out.add hb1 hh1)
  clear hb1 hh1
  go_wp2_with (first
    | (refine wpList_insert_own _ (by rfl) _ _ _ 79 (by rfl) 9 85 (string_keyed Tryz.underlying9) Tryz.underlying79 heldElem w.heap.size 1 _ (by rfl) J1.out.1 (by unfold maxLen; omega) _ _ (.string [103, 110, 97, 109, 101]) (by rfl) (by rfl) (WideMaps.keyOf_string_mk Tryz.underlying9 (s := ⟨#[103, 110, 97, 109, 101]⟩) (by decide)) _ [] rfl ?_; intro v1 hown1 hgrow1; have I2 := Lib.hid (J1.out.ins hown1 hgrow1); clear hown1 hgrow1)
    | fail)
  refine (textField_any 76 _).mono ?_
  rintro e w2 ⟨hb2, hh2, rfl⟩
  have J2 := Lib.hid (I2.out.add hb2 hh2)
  clear hb2 hh2
  go_wp2_with (first
    | (refine wpList_insert_own _ (by rfl) _ _ _ 79 (by rfl) 9 85 (string_keyed Tryz.underlying9) Tryz.underlying79 heldElem w.heap.size 2 _ (by rfl) J2.out.1 (by unfold maxLen; omega) _ _ (.string [108, 105, 110, 107, 112, 97, 116, 104]) (by rfl) (by rfl) (WideMaps.keyOf_string_mk Tryz.underlying9 (s := ⟨#[108, 105, 110, 107, 112, 97, 116, 104]⟩) (by decide)) _ [] rfl ?_; intro v2 hown2 hgrow2; have I3 := Lib.hid (J2.out.ins hown2 hgrow2); clear hown2 hgrow2)
    | fail)
  refine (timeField_any _).mono ?_
  rintro e w3 ⟨hb3, rfl⟩
  have J3 := Lib.hid (I3.out.call hb3)
  clear hb3
  go_wp2_with (first
    | (refine wpList_insert_own _ (by rfl) _ _ _ 79 (by rfl) 9 85 (string_keyed Tryz.underlying9) Tryz.underlying79 heldElem w.heap.size 3 _ (by rfl) J3.out.1 (by unfold maxLen; omega) _ _ (.string [109, 116, 105, 109, 101]) (by rfl) (by rfl) (WideMaps.keyOf_string_mk Tryz.underlying9 (s := ⟨#[109, 116, 105, 109, 101]⟩) (by decide)) _ [] rfl ?_; intro v3 hown3 hgrow3; have I4 := Lib.hid (J3.out.ins hown3 hgrow3); clear hown3 hgrow3)
    | fail)
  refine (textField_any 78 _).mono ?_
  rintro e w4 ⟨hb4, hh4, rfl⟩
  have J4 := Lib.hid (I4.out.add hb4 hh4)
  clear hb4 hh4
  go_wp2_with (first
    | (refine wpList_insert_own _ (by rfl) _ _ _ 79 (by rfl) 9 85 (string_keyed Tryz.underlying9) Tryz.underlying79 heldElem w.heap.size 4 _ (by rfl) J4.out.1 (by unfold maxLen; omega) _ _ (.string [112, 97, 116, 104]) (by rfl) (by rfl) (WideMaps.keyOf_string_mk Tryz.underlying9 (s := ⟨#[112, 97, 116, 104]⟩) (by decide)) _ [] rfl ?_; intro v4 hown4 hgrow4; have I5 := Lib.hid (J4.out.ins hown4 hgrow4); clear hown4 hgrow4)
    | fail)
  refine (numberField_any 79 _).mono ?_
  rintro e w5 ⟨hb5, hh5, rfl⟩
  have J5 := Lib.hid (I5.out.add hb5 hh5)
  clear hb5 hh5
  go_wp2_with (first
    | (refine wpList_insert_own _ (by rfl) _ _ _ 79 (by rfl) 9 85 (string_keyed Tryz.underlying9) Tryz.underlying79 heldElem w.heap.size 5 _ (by rfl) J5.out.1 (by unfold maxLen; omega) _ _ (.string [115, 105, 122, 101]) (by rfl) (by rfl) (WideMaps.keyOf_string_mk Tryz.underlying9 (s := ⟨#[115, 105, 122, 101]⟩) (by decide)) _ [] rfl ?_; intro v5 hown5 hgrow5; have I6 := Lib.hid (J5.out.ins hown5 hgrow5); clear hown5 hgrow5)
    | fail)
  refine (numberField_any 80 _).mono ?_
  rintro e w6 ⟨hb6, hh6, rfl⟩
  have J6 := Lib.hid (I6.out.add hb6 hh6)
  clear hb6 hh6
  go_wp2_with (first
    | (refine wpList_insert_own _ (by rfl) _ _ _ 79 (by rfl) 9 85 (string_keyed Tryz.underlying9) Tryz.underlying79 heldElem w.heap.size 6 _ (by rfl) J6.out.1 (by unfold maxLen; omega) _ _ (.string [117, 105, 100]) (by rfl) (by rfl) (WideMaps.keyOf_string_mk Tryz.underlying9 (s := ⟨#[117, 105, 100]⟩) (by decide)) _ [] rfl ?_; intro v6 hown6 hgrow6; have I7 := Lib.hid (J6.out.ins hown6 hgrow6); clear hown6 hgrow6)
    | fail)
  refine (textField_any 81 _).mono ?_
  rintro e w7 ⟨hb7, hh7, rfl⟩
  have J7 := Lib.hid (I7.out.add hb7 hh7)
  clear hb7 hh7
  go_wp2_with (first
    | (refine wpList_insert_own _ (by rfl) _ _ _ 79 (by rfl) 9 85 (string_keyed Tryz.underlying9) Tryz.underlying79 heldElem w.heap.size 7 _ (by rfl) J7.out.1 (by unfold maxLen; omega) _ _ (.string [117, 110, 97, 109, 101]) (by rfl) (by rfl) (WideMaps.keyOf_string_mk Tryz.underlying9 (s := ⟨#[117, 110, 97, 109, 101]⟩) (by decide)) _ [] rfl ?_; intro v7 hown7 hgrow7; have I8 := Lib.hid (J7.out.ins hown7 hgrow7); clear hown7 hgrow7)
    | fail)
  have hsz : (w.alloc (.map #[] 0)).heap.size = w.heap.size + 1 := by simp
  obtain ⟨h1, h2, h3⟩ := I8.out
  have k0 := h3 _ (List.mem_cons_self)
  have k1 := h3 _ (List.mem_cons_of_mem _ List.mem_cons_self)
  have k2 := h3 _ (List.mem_cons_of_mem _ (List.mem_cons_of_mem _ List.mem_cons_self))
  have k3 := h3 _ (List.mem_cons_of_mem _ (List.mem_cons_of_mem _ (List.mem_cons_of_mem _ List.mem_cons_self)))
  have k4 := h3 _ (List.mem_cons_of_mem _ (List.mem_cons_of_mem _ (List.mem_cons_of_mem _ (List.mem_cons_of_mem _ List.mem_cons_self))))
  have k5 := h3 _ (List.mem_cons_of_mem _ (List.mem_cons_of_mem _ (List.mem_cons_of_mem _ (List.mem_cons_of_mem _ (List.mem_cons_of_mem _ List.mem_cons_self)))))
  have k6 := h3 _ (List.mem_cons_of_mem _ (List.mem_cons_of_mem _ (List.mem_cons_of_mem _ (List.mem_cons_of_mem _ (List.mem_cons_of_mem _ (List.mem_cons_of_mem _ List.mem_cons_self))))))
  simp only at k0 k1 k2 k3 k4 k5 k6
  rw [hsz] at k6
  have Hr := Lib.hid (show TblAt ⟨w.heap.size + 1, v0.heap.size, v1.heap.size, v3.heap.size, v4.heap.size, v5.heap.size, v6.heap.size⟩ v7 from ⟨k6.2, k5.2, k4.2, k3.2, k2.2, k1.2, k0.2⟩)
  have Hi := Lib.hid (show TblIn ⟨w.heap.size + 1, v0.heap.size, v1.heap.size, v3.heap.size, v4.heap.size, v5.heap.size, v6.heap.size⟩ w.heap.size from ⟨k6.1, k5.1, k4.1, k3.1, k2.1, k1.1, k0.1⟩)
  have Hb := Lib.hid h2
  have Ho := Lib.hid (show v7.ownsMap Tryz.prog 9 heldElem w.heap.size 8 (knownD ⟨w.heap.size + 1, v0.heap.size, v1.heap.size, v3.heap.size, v4.heap.size, v5.heap.size, v6.heap.size⟩) from h1)
  clear h1 h2 h3 k0 k1 k2 k3 k4 k5 k6 I0 I1 I2 I3 I4 I5 I6 I7 I8 J0 J1 J2 J3 J4 J5 J6 J7
  go_ret
  exact ⟨Hb.out, _, Ho.out, Hr.out, Hi.out, rfl⟩
end Go.Proofs.YtjmmecokfijglaaGreatDoor
