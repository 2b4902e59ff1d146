/-
  What the table of the known fields says of a key; the text of a member's time.
-/
import Derived.Test.YtamenhkbmbaopaaGreatDoorAtN
import Derived.Test.YtamenhkbmbaopaaGreatDoorStT
namespace Go.Proofs.YtamenhkbmbaopaaGreatDoor
open Go.ChangeShapes Go.WideShapes Go.ChangeAt Go.RowKit Go.Maps

theorem knownD_eq (t : Tbl) : knownD t = .map [(.string [103, 105, 100], .held (numField t.g)), (.string [103, 110, 97, 109, 101], .held (texField t.gn)), (.string [108, 105, 110, 107, 112, 97, 116, 104], .held (texField t.l)), (.string [109, 116, 105, 109, 101], .held timField), (.string [112, 97, 116, 104], .held (texField t.p)), (.string [115, 105, 122, 101], .held (numField t.s)), (.string [117, 105, 100], .held (numField t.u)), (.string [117, 110, 97, 109, 101], .held (texField t.un))] := by
  rfl
theorem known_cases (t : Tbl) (x : List UInt8) (c : Value) (h : ∀ zd, (knownD t).atKey (.string x) zd = .held c) :
    (x = [103, 105, 100] ∧ c = numField t.g) ∨ (x = [103, 110, 97, 109, 101] ∧ c = texField t.gn) ∨ (x = [108, 105, 110, 107, 112, 97, 116, 104] ∧ c = texField t.l) ∨ (x = [109, 116, 105, 109, 101] ∧ c = timField) ∨ (x = [112, 97, 116, 104] ∧ c = texField t.p) ∨ (x = [115, 105, 122, 101] ∧ c = numField t.s) ∨ (x = [117, 105, 100] ∧ c = numField t.u) ∨ (x = [117, 110, 97, 109, 101] ∧ c = texField t.un) := by
  have h0 := h .nil
  rw [knownD_eq] at h0
  have hk : ∀ a : List UInt8, (Lit.string a).sameKey (.string x) = (a == x) := fun a => rfl
  unfold DataW.atKey at h0
  simp only [List.find?_cons, hk] at h0
  by_cases e0 : x = [103, 105, 100]
  · subst e0
    have h1 := (DataW.held.inj h0).symm
    simp [h1]
  rw [show ([103, 105, 100] == x) = false from beq_eq_false_iff_ne.2 (fun e => e0 e.symm)] at h0
  simp only at h0
  by_cases e1 : x = [103, 110, 97, 109, 101]
  · subst e1
    have h1 := (DataW.held.inj h0).symm
    simp [h1]
  rw [show ([103, 110, 97, 109, 101] == x) = false from beq_eq_false_iff_ne.2 (fun e => e1 e.symm)] at h0
  simp only at h0
  by_cases e2 : x = [108, 105, 110, 107, 112, 97, 116, 104]
  · subst e2
    have h1 := (DataW.held.inj h0).symm
    simp [h1]
  rw [show ([108, 105, 110, 107, 112, 97, 116, 104] == x) = false from beq_eq_false_iff_ne.2 (fun e => e2 e.symm)] at h0
  simp only at h0
  by_cases e3 : x = [109, 116, 105, 109, 101]
  · subst e3
    have h1 := (DataW.held.inj h0).symm
    simp [h1]
  rw [show ([109, 116, 105, 109, 101] == x) = false from beq_eq_false_iff_ne.2 (fun e => e3 e.symm)] at h0
  simp only at h0
  by_cases e4 : x = [112, 97, 116, 104]
  · subst e4
    have h1 := (DataW.held.inj h0).symm
    simp [h1]
  rw [show ([112, 97, 116, 104] == x) = false from beq_eq_false_iff_ne.2 (fun e => e4 e.symm)] at h0
  simp only at h0
  by_cases e5 : x = [115, 105, 122, 101]
  · subst e5
    have h1 := (DataW.held.inj h0).symm
    simp [h1]
  rw [show ([115, 105, 122, 101] == x) = false from beq_eq_false_iff_ne.2 (fun e => e5 e.symm)] at h0
  simp only at h0
  by_cases e6 : x = [117, 105, 100]
  · subst e6
    have h1 := (DataW.held.inj h0).symm
    simp [h1]
  rw [show ([117, 105, 100] == x) = false from beq_eq_false_iff_ne.2 (fun e => e6 e.symm)] at h0
  simp only at h0
  by_cases e7 : x = [117, 110, 97, 109, 101]
  · subst e7
    have h1 := (DataW.held.inj h0).symm
    simp [h1]
  rw [show ([117, 110, 97, 109, 101] == x) = false from beq_eq_false_iff_ne.2 (fun e => e7 e.symm)] at h0
  simp only at h0
  simp at h0

theorem timeText_any (mc : List Value) (h : Hd) (s n : Int) (hs : mc[10]? = some (.int .i64 s)) (hn : mc[11]? = some (.int .i64 n)) (hr : stRight s n = true) (b : Nat) (w : World) (hh : Holds w b 59 (mc ++ h.cells)) (ht : TabOk w) :
    Calls Tryz.prog 91 #[.pointer (some ⟨b, 0, none⟩)] w fun e w' => Below w.heap.size w w' ∧ e = .returned (.string ⟨(stText s n).toArray⟩) := by
  have K1 : KeepA w b mc w := ⟨⟨h, hh⟩, grown_below (Below.refl _ _) _⟩
  have k1 := K1.cell hs
  have k2 := K1.cell hn
  have Ht := Lib.hid (stText_ok s n w hr ht)
  clear hs hn hr hh K1 ht
  generalize stText s n = r at *
  go_enter Tryz.func91, Tryz.ntmps91
  go_wp2_with (fail)
  refine Ht.out.mono ?_
  rintro e w1 ⟨hb, rfl⟩
  have Hb := Lib.hid hb
  clear hb
  go_wp2
  go_ret
  exact ⟨Hb.out, rfl⟩
end Go.Proofs.YtamenhkbmbaopaaGreatDoor
