/-
  The contract of attrs.known: the table as the map reads. (Printed by gen/atknown.py.)
-/
import Derived.Test.YtamenhkbmbaopaaGreatDoorAtM
namespace Go.Proofs.YtamenhkbmbaopaaGreatDoor
open Go.ChangeShapes Go.WideShapes Go.ChangeAt Go.RowKit Go.Maps

/-- The blocks of the captured functions. -/
structure Tbl where
  g : Nat
  gn : Nat
  l : Nat
  p : Nat
  s : Nat
  u : Nat
  un : Nat
def knownD (t : Tbl) : DataW Value := (((((((((((((((((.map [] : DataW Value)).put (.string [103, 105, 100]) (.held (numField t.g)))).put (.string [103, 110, 97, 109, 101]) (.held (texField t.gn)))).put (.string [108, 105, 110, 107, 112, 97, 116, 104]) (.held (texField t.l)))).put (.string [109, 116, 105, 109, 101]) (.held timField))).put (.string [112, 97, 116, 104]) (.held (texField t.p)))).put (.string [115, 105, 122, 101]) (.held (numField t.s)))).put (.string [117, 105, 100]) (.held (numField t.u)))).put (.string [117, 110, 97, 109, 101]) (.held (texField t.un)))
def TblAt (t : Tbl) (w : World) : Prop := Holds w t.g 106 [.func (.func 47) #[] #[]] ∧ Holds w t.gn 108 [.func (.func 49) #[] #[]] ∧ Holds w t.l 108 [.func (.func 50) #[] #[]] ∧ Holds w t.p 108 [.func (.func 52) #[] #[]] ∧ Holds w t.s 106 [.func (.func 53) #[] #[]] ∧ Holds w t.u 106 [.func (.func 54) #[] #[]] ∧ Holds w t.un 108 [.func (.func 55) #[] #[]]
def TblIn (t : Tbl) (B : Nat) : Prop := B < t.g ∧ B < t.gn ∧ B < t.l ∧ B < t.p ∧ B < t.s ∧ B < t.u ∧ B < t.un
def KnInv (w W : World) (n : Nat) (D : DataW Value) (hs : List (Nat × TypeId × Value)) : Prop :=
  W.ownsMap Tryz.prog 9 heldElem w.heap.size n D ∧ Below w.heap.size w W ∧ ∀ x ∈ hs, w.heap.size < x.1 ∧ Holds W x.1 x.2.1 [x.2.2]
theorem KnInv.call {w W W' : World} {n : Nat} {D : DataW Value} {hs : List (Nat × TypeId × Value)} (h : KnInv w W n D hs) (hb : Below W.heap.size W W') : KnInv w W' n D hs :=
  ⟨h.1.kept (row := none) (grown_below hb none) (by simp), h.2.1.trans (hb.mono h.2.1.size), fun x hx => ⟨(h.2.2 x hx).1, (h.2.2 x hx).2.under hb (h.2.2 x hx).2.lt⟩⟩
theorem KnInv.add {w W W' : World} {n : Nat} {D : DataW Value} {hs : List (Nat × TypeId × Value)} (h : KnInv w W n D hs) (hb : Below W.heap.size W W') {t : TypeId} {v : Value} (hh : Holds W' W.heap.size t [v]) : KnInv w W' n D ((W.heap.size, t, v) :: hs) := by
  have h2 := h.call hb
  refine ⟨h2.1, h2.2.1, fun x hx => ?_⟩
  rcases List.mem_cons.1 hx with rfl | hx
  · exact ⟨h.1.lt, hh⟩
  · exact h2.2.2 x hx
theorem KnInv.ins {w W W' : World} {n m : Nat} {D D' : DataW Value} {hs : List (Nat × TypeId × Value)} (h : KnInv w W n D hs) (ho : W'.ownsMap Tryz.prog 9 heldElem w.heap.size m D') (hg : W.grownBy W' (some w.heap.size)) : KnInv w W' m D' hs :=
  ⟨ho, h.2.1.grown hg h.2.1.size (fun k hk => by cases hk; exact Nat.le_refl _), fun x hx => ⟨(h.2.2 x hx).1, (h.2.2 x hx).2.grown hg (fun e => by have := (h.2.2 x hx).1; injection e with e; omega)⟩⟩

set_option maxRecDepth 100000 in
set_option maxHeartbeats 1000000 in
theorem known_any (w : World) :
    Calls Tryz.prog 22 #[] w fun e w' => Below w.heap.size w w' ∧ ∃ t : Tbl, w'.ownsMap Tryz.prog 9 heldElem w.heap.size 8 (knownD t) ∧ TblAt t w' ∧ TblIn t w.heap.size ∧ e = .returned (.map (some w.heap.size)) := by
  have hmm := @run_makeMap Tryz.prog
  have I0 := Lib.hid (show KnInv w (w.alloc (.map #[] 0)) 0 (.map []) [] from ⟨World.ownsMap_made w _ _ _, (Below.refl _ _).alloc (Nat.le_refl _) _, fun x hx => by cases hx⟩)
  go_enter Tryz.func22, Tryz.ntmps22
  go_wp2_with (fail)
  refine (numberField_any 47 _).mono ?_
  rintro e w0 ⟨hb0, hh0, rfl⟩
  have J0 := Lib.hid (I0.out.add hb0 hh0)
  clear hb0 hh0
  go_wp2_with (first
    | (refine wpList_insert_own _ (by rfl) _ _ _ 60 (by rfl) 9 66 (string_keyed Tryz.underlying9) Tryz.underlying60 heldElem w.heap.size 0 _ (by rfl) J0.out.1 (by unfold maxLen; omega) _ _ (.string [103, 105, 100]) (by rfl) (by rfl) (WideMaps.keyOf_string_mk Tryz.underlying9 (s := ⟨#[103, 105, 100]⟩) (by decide)) _ [] rfl ?_; intro v0 hown0 hgrow0; have I1 := Lib.hid (J0.out.ins hown0 hgrow0); clear hown0 hgrow0)
    | fail)
  refine (textField_any 49 _).mono ?_
  rintro e w1 ⟨hb1, hh1, rfl⟩
  have J1 := Lib.hid (I1.out.add hb1 hh1)
  clear hb1 hh1
  go_wp2_with (first
    | (refine wpList_insert_own _ (by rfl) _ _ _ 60 (by rfl) 9 66 (string_keyed Tryz.underlying9) Tryz.underlying60 heldElem w.heap.size 1 _ (by rfl) J1.out.1 (by unfold maxLen; omega) _ _ (.string [103, 110, 97, 109, 101]) (by rfl) (by rfl) (WideMaps.keyOf_string_mk Tryz.underlying9 (s := ⟨#[103, 110, 97, 109, 101]⟩) (by decide)) _ [] rfl ?_; intro v1 hown1 hgrow1; have I2 := Lib.hid (J1.out.ins hown1 hgrow1); clear hown1 hgrow1)
    | fail)
  refine (textField_any 50 _).mono ?_
  rintro e w2 ⟨hb2, hh2, rfl⟩
  have J2 := Lib.hid (I2.out.add hb2 hh2)
  clear hb2 hh2
  go_wp2_with (first
    | (refine wpList_insert_own _ (by rfl) _ _ _ 60 (by rfl) 9 66 (string_keyed Tryz.underlying9) Tryz.underlying60 heldElem w.heap.size 2 _ (by rfl) J2.out.1 (by unfold maxLen; omega) _ _ (.string [108, 105, 110, 107, 112, 97, 116, 104]) (by rfl) (by rfl) (WideMaps.keyOf_string_mk Tryz.underlying9 (s := ⟨#[108, 105, 110, 107, 112, 97, 116, 104]⟩) (by decide)) _ [] rfl ?_; intro v2 hown2 hgrow2; have I3 := Lib.hid (J2.out.ins hown2 hgrow2); clear hown2 hgrow2)
    | fail)
  refine (timeField_any _).mono ?_
  rintro e w3 ⟨hb3, rfl⟩
  have J3 := Lib.hid (I3.out.call hb3)
  clear hb3
  go_wp2_with (first
    | (refine wpList_insert_own _ (by rfl) _ _ _ 60 (by rfl) 9 66 (string_keyed Tryz.underlying9) Tryz.underlying60 heldElem w.heap.size 3 _ (by rfl) J3.out.1 (by unfold maxLen; omega) _ _ (.string [109, 116, 105, 109, 101]) (by rfl) (by rfl) (WideMaps.keyOf_string_mk Tryz.underlying9 (s := ⟨#[109, 116, 105, 109, 101]⟩) (by decide)) _ [] rfl ?_; intro v3 hown3 hgrow3; have I4 := Lib.hid (J3.out.ins hown3 hgrow3); clear hown3 hgrow3)
    | fail)
  refine (textField_any 52 _).mono ?_
  rintro e w4 ⟨hb4, hh4, rfl⟩
  have J4 := Lib.hid (I4.out.add hb4 hh4)
  clear hb4 hh4
  go_wp2_with (first
    | (refine wpList_insert_own _ (by rfl) _ _ _ 60 (by rfl) 9 66 (string_keyed Tryz.underlying9) Tryz.underlying60 heldElem w.heap.size 4 _ (by rfl) J4.out.1 (by unfold maxLen; omega) _ _ (.string [112, 97, 116, 104]) (by rfl) (by rfl) (WideMaps.keyOf_string_mk Tryz.underlying9 (s := ⟨#[112, 97, 116, 104]⟩) (by decide)) _ [] rfl ?_; intro v4 hown4 hgrow4; have I5 := Lib.hid (J4.out.ins hown4 hgrow4); clear hown4 hgrow4)
    | fail)
  refine (numberField_any 53 _).mono ?_
  rintro e w5 ⟨hb5, hh5, rfl⟩
  have J5 := Lib.hid (I5.out.add hb5 hh5)
  clear hb5 hh5
  go_wp2_with (first
    | (refine wpList_insert_own _ (by rfl) _ _ _ 60 (by rfl) 9 66 (string_keyed Tryz.underlying9) Tryz.underlying60 heldElem w.heap.size 5 _ (by rfl) J5.out.1 (by unfold maxLen; omega) _ _ (.string [115, 105, 122, 101]) (by rfl) (by rfl) (WideMaps.keyOf_string_mk Tryz.underlying9 (s := ⟨#[115, 105, 122, 101]⟩) (by decide)) _ [] rfl ?_; intro v5 hown5 hgrow5; have I6 := Lib.hid (J5.out.ins hown5 hgrow5); clear hown5 hgrow5)
    | fail)
  refine (numberField_any 54 _).mono ?_
  rintro e w6 ⟨hb6, hh6, rfl⟩
  have J6 := Lib.hid (I6.out.add hb6 hh6)
  clear hb6 hh6
  go_wp2_with (first
    | (refine wpList_insert_own _ (by rfl) _ _ _ 60 (by rfl) 9 66 (string_keyed Tryz.underlying9) Tryz.underlying60 heldElem w.heap.size 6 _ (by rfl) J6.out.1 (by unfold maxLen; omega) _ _ (.string [117, 105, 100]) (by rfl) (by rfl) (WideMaps.keyOf_string_mk Tryz.underlying9 (s := ⟨#[117, 105, 100]⟩) (by decide)) _ [] rfl ?_; intro v6 hown6 hgrow6; have I7 := Lib.hid (J6.out.ins hown6 hgrow6); clear hown6 hgrow6)
    | fail)
  refine (textField_any 55 _).mono ?_
  rintro e w7 ⟨hb7, hh7, rfl⟩
  have J7 := Lib.hid (I7.out.add hb7 hh7)
  clear hb7 hh7
  go_wp2_with (first
    | (refine wpList_insert_own _ (by rfl) _ _ _ 60 (by rfl) 9 66 (string_keyed Tryz.underlying9) Tryz.underlying60 heldElem w.heap.size 7 _ (by rfl) J7.out.1 (by unfold maxLen; omega) _ _ (.string [117, 110, 97, 109, 101]) (by rfl) (by rfl) (WideMaps.keyOf_string_mk Tryz.underlying9 (s := ⟨#[117, 110, 97, 109, 101]⟩) (by decide)) _ [] rfl ?_; intro v7 hown7 hgrow7; have I8 := Lib.hid (J7.out.ins hown7 hgrow7); clear hown7 hgrow7)
    | fail)
  have hsz : (w.alloc (.map #[] 0)).heap.size = w.heap.size + 1 := by simp
  obtain ⟨h1, h2, h3⟩ := I8.out
  have k0 := h3 _ (List.mem_cons_self)
  have k1 := h3 _ (List.mem_cons_of_mem _ List.mem_cons_self)
  have k2 := h3 _ (List.mem_cons_of_mem _ (List.mem_cons_of_mem _ List.mem_cons_self))
  have k3 := h3 _ (List.mem_cons_of_mem _ (List.mem_cons_of_mem _ (List.mem_cons_of_mem _ List.mem_cons_self)))
  have k4 := h3 _ (List.mem_cons_of_mem _ (List.mem_cons_of_mem _ (List.mem_cons_of_mem _ (List.mem_cons_of_mem _ List.mem_cons_self))))
  have k5 := h3 _ (List.mem_cons_of_mem _ (List.mem_cons_of_mem _ (List.mem_cons_of_mem _ (List.mem_cons_of_mem _ (List.mem_cons_of_mem _ List.mem_cons_self)))))
  have k6 := h3 _ (List.mem_cons_of_mem _ (List.mem_cons_of_mem _ (List.mem_cons_of_mem _ (List.mem_cons_of_mem _ (List.mem_cons_of_mem _ (List.mem_cons_of_mem _ List.mem_cons_self))))))
  simp only at k0 k1 k2 k3 k4 k5 k6
  rw [hsz] at k6
  have Hr := Lib.hid (show TblAt ⟨w.heap.size + 1, v0.heap.size, v1.heap.size, v3.heap.size, v4.heap.size, v5.heap.size, v6.heap.size⟩ v7 from ⟨k6.2, k5.2, k4.2, k3.2, k2.2, k1.2, k0.2⟩)
  have Hi := Lib.hid (show TblIn ⟨w.heap.size + 1, v0.heap.size, v1.heap.size, v3.heap.size, v4.heap.size, v5.heap.size, v6.heap.size⟩ w.heap.size from ⟨k6.1, k5.1, k4.1, k3.1, k2.1, k1.1, k0.1⟩)
  have Hb := Lib.hid h2
  have Ho := Lib.hid (show v7.ownsMap Tryz.prog 9 heldElem w.heap.size 8 (knownD ⟨w.heap.size + 1, v0.heap.size, v1.heap.size, v3.heap.size, v4.heap.size, v5.heap.size, v6.heap.size⟩) from h1)
  clear h1 h2 h3 k0 k1 k2 k3 k4 k5 k6 I0 I1 I2 I3 I4 I5 I6 I7 I8 J0 J1 J2 J3 J4 J5 J6 J7
  go_ret
  exact ⟨Hb.out, _, Ho.out, Hr.out, Hi.out, rfl⟩
end Go.Proofs.YtamenhkbmbaopaaGreatDoor
