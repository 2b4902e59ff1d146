/-
  Contracts of package text and of the document's own answer for it, but for Blank.
-/
import Derived.Test.YtoicdanepdjmdaaDoorRows
import Derived.Test.YtoicdanepdjmdaaDoorShelfP
import Derived.Test.YtoicdanepdjmdaaDoorTxtP
import Derived.Deep.QuietTactic
import Derived.BigQuiet
import Derived.Deep.CutBlock
import Derived.Deep.DeepCutAuto
namespace Go.Proofs.YtoicdanepdjmdaaDoor
open Go.ChangeShapes Go.WideShapes Go.ChangeAt Go.RowKit

theorem below_drewN {B : Nat} {a w : World} (h : Below B a w) (n : Nat) : Below B a (w.drewN n) := h.trans ⟨rfl, rfl, rfl, Nat.le_refl _, fun _ _ => rfl⟩

/-- The library's variable holds some number. -/
def MaxSet (w : World) : Prop := ∃ m : Int, w.cell? ⟨0, 0, none⟩ = some (.int .i64 m)
theorem MaxSet.lt {w : World} (h : MaxSet w) : 0 < w.heap.size := by
  obtain ⟨m, hm⟩ := h
  rcases Nat.lt_or_ge 0 w.heap.size with hl | hl
  · exact hl
  · exfalso
    unfold World.cell? at hm
    rw [Array.getElem?_eq_none hl] at hm
    cases hm
theorem MaxSet.below {w w' : World} (h : MaxSet w) (hb : Below w.heap.size w w') : MaxSet w' := by
  obtain ⟨m, hm⟩ := h
  exact ⟨m, by rw [hb.cell (p := ⟨0, 0, none⟩) (MaxSet.lt ⟨m, hm⟩)]; exact hm⟩

theorem MaxSet.of_shaped {w : World} (h : w.ShapedOpen Tryd.prog) : MaxSet w := Tryd.laysM144.s1_3 w h

theorem tRead_any (l : List UInt8) (w : World) (hl : l.length < 4294967281) (hm : MaxSet w) :
    Calls Tryd.prog 7 #[.string ⟨l.toArray⟩] w fun e w' => Below w.heap.size w w' ∧ e = .returned (.string ⟨(txtRead l).toArray⟩) := by
  obtain ⟨m, hm⟩ := hm
  have Hc := Lib.hid (Tryd.strings_Cut ⟨l.toArray⟩ ⟨[0].toArray⟩ m w hl hm)
  have Hq := Lib.hid (cut_nul l)
  clear hm
  go_enter Tryd.func7, Tryd.ntmps7
  go_wp2_with fail
  refine Hc.out.mono ?_
  rintro e w1 ⟨rfl, n, rfl⟩
  go_wp2
  go_ret
  rw [← Hq.out]
  exact ⟨⟨rfl, rfl, rfl, Nat.le_refl _, fun _ _ => rfl⟩, rfl⟩

theorem tJoin_any (p b : List UInt8) (w : World) (hl : p.length + b.length ≤ 4294967281) :
    Calls Tryd.prog 11 #[.string ⟨p.toArray⟩, .string ⟨b.toArray⟩] w fun e w' => w = w' ∧ e = .returned (.string ⟨(if p = [] then b else p ++ 47 :: b).toArray⟩) := by
  rcases p with _ | ⟨c, p⟩
  · go_enter Tryd.func11, Tryd.ntmps11
    go_wp2
    go_ret
    exact ⟨rfl, rfl⟩
  · have hl2 : p.length + b.length ≤ 4294967280 := by simp at hl; omega
    clear hl
    rw [if_neg (by simp)]
    go_enter Tryd.func11, Tryd.ntmps11
    go_wp2
    go_ret
    exact ⟨rfl, by simp⟩

theorem tWrite_ok (l : List UInt8) (n : Nat) (w : World) (hn : n ≤ 512) (hl : l.length ≤ n) (h0 : 0 ∉ l) :
    Calls Tryd.prog 5 #[.string ⟨l.toArray⟩, .int .i64 n] w fun e w' => Below w.heap.size w w' ∧ e = .returned (.tuple #[.string ⟨(l ++ List.replicate (n - l.length) 0).toArray⟩, .bool true]) := by
  have Hc := Lib.hid (Tryd.strings_Contains_one ⟨l.toArray⟩ 0 w)
  have hi : decide (0 ≤ Lib.indexByte (⟨l.toArray⟩ : ByteArray).data.toList 0) = false := by
    have := (index_nul l).2 h0
    rw [Lib.index_one] at this
    exact decide_eq_false (by rw [this]; decide)
  rw [hi] at Hc
  have Hr := Lib.hid (Tryd.strings_Repeat ⟨[0].toArray⟩ (n - l.length) w (by omega) (by simp [ByteArray.size]; omega))
  have hrep : Lib.repeatL (⟨[0].toArray⟩ : ByteArray).data.toList (n - l.length) = List.replicate (n - l.length) 0 := repeat_nul _
  rw [hrep] at Hr
  have hrl : (List.replicate (n - l.length) (0 : UInt8)).length ≤ 512 := by rw [List.length_replicate]; omega
  generalize List.replicate (n - l.length) (0 : UInt8) = z at *
  clear hi hrep
  go_enter Tryd.func5, Tryd.ntmps5
  go_wp2_with fail
  refine Hc.out.mono ?_
  rintro e w' ⟨rfl, rfl⟩
  go_wp2_with fail
  rw [show ((n : Int) - l.length) = ((n - l.length : Nat) : Int) by omega]
  refine Hr.out.mono ?_
  rintro e w1 ⟨rfl, hb⟩
  have Hb := Lib.hid hb
  clear hb
  go_wp2
  go_ret2
  exact ⟨Hb.out, rfl⟩

theorem tWrite_no (l : List UInt8) (n : Int) (w : World) (h : ¬ (0 ≤ n ∧ n ≤ 512 ∧ (l.length : Int) ≤ n ∧ 0 ∉ l)) :
    Calls Tryd.prog 5 #[.string ⟨l.toArray⟩, .int .i64 n] w fun e w' => w = w' ∧ e = .returned (.tuple #[.string ⟨([] : List UInt8).toArray⟩, .bool false]) := by
  by_cases h1 : n < 0
  · clear h
    go_enter Tryd.func5, Tryd.ntmps5
    go_wp2
    go_ret2
    exact ⟨rfl, rfl⟩
  · by_cases h2 : 512 < n
    · clear h
      go_enter Tryd.func5, Tryd.ntmps5
      go_wp2
      go_ret2
      exact ⟨rfl, rfl⟩
    · by_cases h3 : n < (l.length : Int)
      · clear h
        go_enter Tryd.func5, Tryd.ntmps5
        go_wp2
        go_ret2
        exact ⟨rfl, rfl⟩
      · have h0 : 0 ∈ l := by
          by_cases hm : 0 ∈ l
          · exact hm
          · exact absurd ⟨by omega, by omega, by omega, hm⟩ h
        have Hc := Lib.hid (Tryd.strings_Contains_one ⟨l.toArray⟩ 0 w)
        have hi : decide (0 ≤ Lib.indexByte (⟨l.toArray⟩ : ByteArray).data.toList 0) = true := by
          have := (index_nul l).1 h0
          rw [Lib.index_one] at this
          exact decide_eq_true (by rw [this]; omega)
        rw [hi] at Hc
        clear hi h h0
        go_enter Tryd.func5, Tryd.ntmps5
        go_wp2_with fail
        refine Hc.out.mono ?_
        rintro e w' ⟨rfl, rfl⟩
        go_wp2
        go_ret2
        exact ⟨rfl, rfl⟩

theorem tWrite_any (l : List UInt8) (n : Int) (w : World) :
    Calls Tryd.prog 5 #[.string ⟨l.toArray⟩, .int .i64 n] w fun e w' => Below w.heap.size w w' ∧ e = .returned (.tuple #[.string ⟨((txtWrite l n).getD []).toArray⟩, .bool (txtWrite l n).isSome]) := by
  by_cases h : 0 ≤ n ∧ n ≤ 512 ∧ (l.length : Int) ≤ n ∧ 0 ∉ l
  · obtain ⟨m, rfl⟩ : ∃ m : Nat, n = m := ⟨n.toNat, by omega⟩
    have hq : txtWrite l m = some (l ++ List.replicate (m - l.length) 0) := by unfold txtWrite; rw [if_pos h]; rfl
    rw [hq]
    exact tWrite_ok l m w (by omega) (by omega) h.2.2.2
  · have hq : txtWrite l n = none := by unfold txtWrite; rw [if_neg h]
    rw [hq]
    exact (tWrite_no l n w h).mono fun e w' ⟨h1, h2⟩ => ⟨h1 ▸ Below.refl _ _, h2⟩

/-- The examples that each statement of layer 2 asks besides. -/
theorem awake2_any (w : World) (hm : MaxSet w) :
    Calls Tryd.prog 4 #[] w fun e w' => Below w.heap.size w w' ∧ e = .returned (.bool true) := by
  have Hw := Lib.hid (show txtWrite [97, 98] 4 = some [97, 98, 0, 0] by decide)
  have Hr := Lib.hid (show txtRead [97, 98, 0, 0] = [97, 98] by decide)
  have Hm := Lib.hid hm
  clear hm
  go_enter Tryd.func4, Tryd.ntmps4
  go_wp2_with fail
  refine (tWrite_any [97, 98] 4 w).mono ?_
  rw [Hw.out]
  rintro e w1 ⟨hb, rfl⟩
  have Hb := Lib.hid hb
  clear hb
  go_wp2_with fail
  refine (tRead_any [97, 98, 0, 0] w1 (by decide) (Hm.out.below Hb.out)).mono ?_
  rw [Hr.out]
  rintro e w2 ⟨hb, rfl⟩
  have Hb2 := Lib.hid (Hb.out.trans (hb.mono Hb.out.size))
  clear hb
  go_wp2_with fail
  refine (tJoin_any [97] [98] w2 (by decide)).mono ?_
  rintro e w' ⟨rfl, rfl⟩
  go_wp2
  go_ret
  exact ⟨Hb2.out, rfl⟩
end Go.Proofs.YtoicdanepdjmdaaDoor
