/-
  Contracts of package header: the rows of a head's numbers and words, kinds and forms.
-/
import Derived.Test.YtlloaalaldomkaaDoorHd
import Derived.Test.YtlloaalaldomkaaDoorOctRefW
import Derived.BigRegion
namespace Go.Proofs.YtlloaalaldomkaaDoor
open Go.ChangeShapes Go.WideShapes Go.ChangeAt Go.RowKit

theorem words_any (hb : Nat) (w : World) :
    Calls Tryd.prog 31 #[.pointer (some ⟨hb, 0, none⟩)] w fun e w' => Below w.heap.size w w' ∧ (Holds w' w.heap.size 63 (wordCells hb) ∧ e = .returned (.slice (some ⟨w.heap.size, 0, none⟩) 3 3)) := by
  go_enter Tryd.func31, Tryd.ntmps31
  go_wp2_with fail
  go_region
  all_goals
    go_wp2
    go_ret
    exact ⟨below_drewN ((Below.refl _ _).alloc (Nat.le_refl _) _) _, Holds.new w _ _, rfl⟩

theorem kindOf_any (k : Int) (w : World) :
    Calls Tryd.prog 20 #[.int .u8 k] w fun e w' => w = w' ∧ e = .returned (.int .u8 (if k = 0 then 48 else k)) := by
  by_cases h : k = 0
  · subst h
    go_enter Tryd.func20, Tryd.ntmps20
    go_wp2
    go_ret
    exact ⟨rfl, rfl⟩
  · rw [if_neg h]
    have e1 : (k == 0) = false := by simpa using h
    clear h
    go_enter Tryd.func20, Tryd.ntmps20
    go_wp2
    go_ret
    exact ⟨rfl, rfl⟩

theorem numbers_any (hb : Nat) (w : World) :
    Calls Tryd.prog 32 #[.pointer (some ⟨hb, 0, none⟩)] w fun e w' => Below w.heap.size w w' ∧ (Holds w' w.heap.size 68 (numCells hb) ∧ e = .returned (.slice (some ⟨w.heap.size, 0, none⟩) 7 7)) := by
  go_enter Tryd.func32, Tryd.ntmps32
  go_wp2_with fail
  go_region
  all_goals
    go_wp2
    go_ret
    exact ⟨below_drewN ((Below.refl _ _).alloc (Nat.le_refl _) _) _, Holds.new w _ _, rfl⟩

/-- Do blocks of that form have the field? -/
def hdIn (form f : Int) : Bool := if f = 10 ∨ f = 11 ∨ f = 12 ∨ f = 13 then decide (form ≠ 1) else if f = 14 then decide (form = 2) else true
theorem isIn_any (form f : Int) (w : World) :
    Calls Tryd.prog 45 #[.int .i64 form, .int .i64 f] w fun e w' => w = w' ∧ e = .returned (.bool (hdIn form f)) := by
  unfold hdIn
  go_enter Tryd.func45, Tryd.ntmps45
  go_wp2
  all_goals go_ret
  all_goals refine ⟨rfl, ?_⟩
  all_goals (repeat (first | rw [if_pos (by omega)] | rw [if_neg (by omega)]))
  all_goals first | rfl | simp_all
  all_goals rfl

/-- A mark's form. -/
def hdForm (m : List UInt8) : Int := if m = [117, 115, 116, 97, 114, 0, 48, 48] then 2 else if m = [117, 115, 116, 97, 114, 32, 32, 0] then 3 else if txtBlank m then 1 else 0
theorem formOf_any (m : List UInt8) (w : World) :
    Calls Tryd.prog 16 #[.string ⟨m.toArray⟩] w fun e w' => w = w' ∧ e = .returned (.int .i64 (hdForm m)) := by
  have Hb := Lib.hid (tBlank_any m w)
  by_cases h1 : m = [117, 115, 116, 97, 114, 0, 48, 48]
  · have Hq := Lib.hid (show hdForm m = 2 by unfold hdForm; rw [if_pos h1])
    have e1 : (m == [117, 115, 116, 97, 114, 0, 48, 48]) = true := by rw [h1]; rfl
    clear h1
    go_enter Tryd.func16, Tryd.ntmps16
    go_wp2
    go_ret
    rw [Hq.out]
    exact ⟨rfl, rfl⟩
  · have e1 : (m == [117, 115, 116, 97, 114, 0, 48, 48]) = false := by simpa using h1
    by_cases h2 : m = [117, 115, 116, 97, 114, 32, 32, 0]
    · have Hq := Lib.hid (show hdForm m = 3 by unfold hdForm; rw [if_neg h1, if_pos h2])
      have e2 : (m == [117, 115, 116, 97, 114, 32, 32, 0]) = true := by rw [h2]; rfl
      clear h1 h2
      go_enter Tryd.func16, Tryd.ntmps16
      go_wp2
      go_ret
      rw [Hq.out]
      exact ⟨rfl, rfl⟩
    · have e2 : (m == [117, 115, 116, 97, 114, 32, 32, 0]) = false := by simpa using h2
      have Hq := Lib.hid (show hdForm m = if txtBlank m then 1 else 0 by unfold hdForm; rw [if_neg h1, if_neg h2])
      clear h1 h2
      cases hb : txtBlank m
      all_goals
        rw [hb] at Hb Hq
        clear hb
        go_enter Tryd.func16, Tryd.ntmps16
        go_wp2_with fail
        refine Hb.out.mono ?_
        rintro e w' ⟨rfl, rfl⟩
        go_wp2
        go_ret
        rw [Hq.out]
        exact ⟨rfl, rfl⟩

/-- What the document's number says of a field's bytes. -/
def hdNum (below : Bool) (s : List UInt8) : Int × Int := if (octRead s).2 = 0 ∧ (octRead s).1 < 0 ∧ below = false then (0, 6) else octRead s
theorem refNumber_any (l : List UInt8) (s n : Nat) (below : Bool) (w : World) (hl : l.length = 512) (hs : s + n ≤ 512) :
    Calls Tryd.prog 23 #[.string ⟨l.toArray⟩, .int .i64 s, .int .i64 n, .bool below] w fun e w' => w = w' ∧ e = .returned (.tuple #[.int .i64 (hdNum below (fldAt l s n)).1, .int .i64 (hdNum below (fldAt l s n)).2]) := by
  have Hr := Lib.hid (refRead_any (fldAt l s n) w (by rw [fldAt_length l s n (by omega)]; unfold maxLen; omega))
  have hsl : ∀ W : World, (Instr.slice 9 (.string ⟨l.toArray⟩) (some (.int .i64 s)) (some (.int .i64 ((s : Int) + n))) none).run Tryd.prog W = .ok (.string ⟨(fldAt l s n).toArray⟩) W := by
    intro W
    rw [run_slice_string W _ _ _ _ _ _ Tryd.underlying9 (by omega) (by omega) (by simp [ByteArray.size]; omega)]
    have he := str_extract l s (s + n)
    rw [Nat.add_sub_cancel_left] at he
    rw [show ((s : Int)).toNat = s by omega, show ((s : Int) + n).toNat = s + n by omega]
    exact congrArg (fun s => Result.ok (Value.string s) W) he
  have Hq := Lib.hid (show hdNum below (fldAt l s n) = if (octRead (fldAt l s n)).2 = 0 ∧ (octRead (fldAt l s n)).1 < 0 ∧ below = false then (0, 6) else octRead (fldAt l s n) from rfl)
  generalize hdNum below (fldAt l s n) = R at *
  generalize octRead (fldAt l s n) = v at *
  generalize fldAt l s n = x at *
  obtain ⟨v, e0⟩ := v
  simp only at Hr Hq
  by_cases h1 : e0 = 0
  · subst h1
    by_cases h2 : v < 0
    · cases below
      all_goals
        go_enter Tryd.func23, Tryd.ntmps23
        go_wp2_with fail
        refine Hr.out.mono ?_
        rintro e w' ⟨rfl, rfl⟩
        go_wp2
        go_ret2
        rw [Hq.out]
        refine ⟨rfl, ?_⟩
        simp [show v < 0 by omega]
    · go_enter Tryd.func23, Tryd.ntmps23
      go_wp2_with fail
      refine Hr.out.mono ?_
      rintro e w' ⟨rfl, rfl⟩
      go_wp2
      go_ret2
      rw [Hq.out]
      refine ⟨rfl, ?_⟩
      simp [show ¬ v < 0 by omega]
  · have e1 : (e0 == 0) = false := by simpa using h1
    go_enter Tryd.func23, Tryd.ntmps23
    go_wp2_with fail
    refine Hr.out.mono ?_
    rintro e w' ⟨rfl, rfl⟩
    go_wp2
    go_ret2
    rw [Hq.out]
    refine ⟨rfl, ?_⟩
    simp [h1]

theorem refWithin_any (v m : Int) (w : World) :
    Calls Tryd.prog 26 #[.int .i64 v, .int .i64 m] w fun e w' => w = w' ∧ e = .returned (.bool (decide (0 ≤ v ∧ v < m))) := by
  by_cases h1 : 0 ≤ v
  · go_enter Tryd.func26, Tryd.ntmps26
    go_wp2
    go_ret
    exact ⟨rfl, by simp [h1]⟩
  · go_enter Tryd.func26, Tryd.ntmps26
    go_wp2
    go_ret
    exact ⟨rfl, by simp; omega⟩

theorem refField_any (s : List UInt8) (n : Nat) (w : World) (hn : n ≤ 512) (hs : s.length ≤ n) (h0 : 0 ∉ s) :
    Calls Tryd.prog 27 #[.string ⟨s.toArray⟩, .int .i64 n] w fun e w' => w = w' ∧ e = .returned (.string ⟨(s ++ List.replicate (n - s.length) 0).toArray⟩) := by
  have Hw := Lib.hid (refTWrite_ok s n w hn hs h0)
  clear h0
  generalize s ++ List.replicate (n - s.length) 0 = r at *
  go_enter Tryd.func27, Tryd.ntmps27
  go_wp2_with fail
  refine Hw.out.mono ?_
  rintro e w' ⟨rfl, rfl⟩
  go_wp2
  go_ret
  exact ⟨rfl, rfl⟩

theorem refOctF_any (v : Int) (n : Nat) (w : World) (hn : n = 8 ∨ n = 12) (h : octalOf v n = some (octStr v n)) :
    Calls Tryd.prog 28 #[.int .i64 v, .int .i64 n] w fun e w' => w = w' ∧ e = .returned (.string ⟨(octStr v n).toArray⟩) := by
  have Hw := Lib.hid (refOctal_all v n w (by omega))
  rw [h] at Hw
  change Hid (Calls Tryd.prog 51 #[.int .i64 v, .int .i64 n] w fun e w' => w = w' ∧ e = .returned (.tuple #[.string ⟨(octStr v n).toArray⟩, .bool true])) at Hw
  generalize octStr v n = r at *
  clear h
  go_enter Tryd.func28, Tryd.ntmps28
  go_wp2_with fail
  refine Hw.out.mono ?_
  rintro e w' ⟨rfl, rfl⟩
  go_wp2
  go_ret
  exact ⟨rfl, rfl⟩
end Go.Proofs.YtlloaalaldomkaaDoor
