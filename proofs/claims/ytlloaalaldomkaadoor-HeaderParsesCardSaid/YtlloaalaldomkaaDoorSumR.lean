/-
  Contracts of Right, Seal, Blank of package sums, and of the document's own.
-/
import Derived.Test.YtlloaalaldomkaaDoorSum
import Derived.Test.YtlloaalaldomkaaDoorShelfP
import Derived.Test.YtlloaalaldomkaaDoorOctRef
import Derived.Test.YtlloaalaldomkaaDoorOctR
import Derived.Test.YtlloaalaldomkaaDoorOctO
import Derived.Test.YtlloaalaldomkaaDoorSumQ
import Derived.Deep.QuietTactic
import Derived.BigQuiet
namespace Go.Proofs.YtlloaalaldomkaaDoor
open Go.ChangeShapes Go.WideShapes Go.ChangeAt Go.RowKit

theorem sRead_any (b : UInt8) (t : List UInt8) (w : World) (hl : t.length ≤ 1000) :
    Calls Tryd.prog 40 #[.string ⟨(b :: t).toArray⟩] w fun e w' => w = w' ∧ e = .returned (.tuple #[.int .i64 (sRead b t).1, .bool (sRead b t).2]) := by
  have Hr := Lib.hid (read_any (b :: t) w (by unfold maxLen; simp; omega))
  by_cases h : (octRead (b :: t)).2 = 0
  · have e1 : ((octRead (b :: t)).2 != 0) = false := by simp [h]
    by_cases h2 : (b.toNat : Int) ≤ 127
    · have Hq := Lib.hid (show sRead b t = ((octRead (b :: t)).1, true) from if_pos ⟨h, h2⟩)
      have e2 : decide (127 < (b.toNat : Int)) = false := by simp; omega
      clear h
      generalize octRead (b :: t) = R at *
      go_enter Tryd.func40, Tryd.ntmps40
      go_wp2_with fail
      refine Hr.out.mono ?_
      rintro e w' ⟨rfl, rfl⟩
      go_wp2
      go_ret2
      rw [Hq.out]
      exact ⟨rfl, rfl⟩
    · have Hq := Lib.hid (show sRead b t = (0, false) from if_neg (fun e => h2 e.2))
      have e2 : decide (127 < (b.toNat : Int)) = true := by simp; omega
      clear h h2
      generalize octRead (b :: t) = R at *
      go_enter Tryd.func40, Tryd.ntmps40
      go_wp2_with fail
      refine Hr.out.mono ?_
      rintro e w' ⟨rfl, rfl⟩
      go_wp2
      go_ret2
      rw [Hq.out]
      exact ⟨rfl, rfl⟩
  · have e1 : ((octRead (b :: t)).2 != 0) = true := by rw [bne_iff_ne]; exact h
    have Hq := Lib.hid (show sRead b t = (0, false) from if_neg (fun e => h e.1))
    clear h
    generalize octRead (b :: t) = R at *
    go_enter Tryd.func40, Tryd.ntmps40
    go_wp2_with fail
    refine Hr.out.mono ?_
    rintro e w' ⟨rfl, rfl⟩
    go_wp2
    go_ret2
    rw [Hq.out]
    exact ⟨rfl, rfl⟩

set_option maxRecDepth 100000 in
theorem sRight_any (l : List UInt8) (w : World) :
    Calls Tryd.prog 15 #[.string ⟨l.toArray⟩] w fun e w' => Below w.heap.size w w' ∧ e = .returned (.bool (sRight l)) := by
  by_cases h : l.length = 512
  · obtain ⟨b, t, hf, htl, -⟩ := fieldOf_parts l h
    have Hbl := Lib.hid (blanked_cells l h)
    have Hq := Lib.hid (show sRight l = ((sRead b t).2 && (((sRead b t).1 == bSum false l) || ((sRead b t).1 == bSum true l))) by unfold sRight; rw [hf, decide_eq_true h]; rfl)
    have Hr := Lib.hid (sRead_any b t w (by omega))
    have Hn := Lib.hid (numbersOf_any l w h)
    have Hs := Lib.hid (fun w1 => sum_any (blanked l) w1 (blanked_length l h))
    have Hg := Lib.hid (fun w1 => signed_any (blanked l) w1 (blanked_length l h))
    have hsl : ∀ W : World, (Instr.slice 9 (.string ⟨l.toArray⟩) (some (.int .i64 148)) (some (.int .i64 156)) none).run Tryd.prog W = .ok (.string ⟨(b :: t).toArray⟩) W := by
      intro W
      rw [run_slice_string W _ _ _ _ _ _ Tryd.underlying9 (by omega) (by omega) (by simp [ByteArray.size]; omega)]
      have he := str_extract l 148 156
      change _ = (⟨(fieldOf l).toArray⟩ : ByteArray) at he
      rw [hf] at he
      exact congrArg (fun s => Result.ok (Value.string s) W) he
    have e1 : ((l.length : Int) != 512) = false := by simp [h]
    clear h hf
    change Hid (sRight l = ((sRead b t).2 && (((sRead b t).1 == sumL uns (blanked l)) || ((sRead b t).1 == sumL sgn (blanked l))))) at Hq
    generalize sumL uns (blanked l) = U at *
    generalize sumL sgn (blanked l) = G at *
    generalize sRight l = R at *
    rcases hsr : sRead b t with ⟨v, ok⟩
    rw [hsr] at Hq Hr
    clear hsr
    have hz := (zero_of_info info_numbers).1
    obtain ⟨Z, hZ⟩ : ∃ Z, Z = byteCells (List.replicate 512 0) := ⟨_, rfl⟩
    have HZ := Lib.hid hZ
    rw [← hZ] at hz
    clear hZ
    have hs1 := Lib.hid (show (Tryd.prog.info? 79).map (·.size) = some (byteCells (blanked l)).toArray.size by rw [numbers_size, Hbl.out])
    have hs2 := Lib.hid (show Z.toArray.size = (byteCells (blanked l)).toArray.size by rw [HZ.out, nought_cells, Hbl.out])
    have hone := Lib.hid (byteCells_oneCell (blanked l))
    generalize byteCells (blanked l) = B at *
    cases ok
    · go_enter Tryd.func15, Tryd.ntmps15
      go_wp2_with fail
      refine Hr.out.mono ?_
      rintro e w' ⟨rfl, rfl⟩
      go_wp2
      go_ret
      rw [Hq.out]
      exact ⟨Below.refl _ _, rfl⟩
    · go_enter Tryd.func15, Tryd.ntmps15
      go_wp2_with fail
      refine Hr.out.mono ?_
      rintro e w' ⟨rfl, rfl⟩
      go_wp2_with fail
      refine Hn.out.mono ?_
      rintro e w1 ⟨hb1, rfl⟩
      have Hb1 := Lib.hid hb1
      clear hb1
      have Hst := Lib.hid (heap_alloc_last w1 (.cells Z.toArray 79))
      have Hld := Lib.hid (heap_alloc_last w1 (.cells B.toArray 79))
      go_wp2_with (first
        | (refine wpList_load_row rfl 79 _ rfl w1.heap.size rfl _ _ _ _ Hld.out Tryd.underlying79 rfl hs1.out ?_)
        | (refine wpList_store_row rfl 79 _ _ rfl w1.heap.size B.toArray rfl rfl _ _ Hst.out hs1.out hs2.out hone.out ?_; rw [World.setRow_alloc_new])
        | fail)
      refine (Hs.out _).mono ?_
      rintro e w2 ⟨hb2, rfl⟩
      have Hb2 := Lib.hid hb2
      have Hb12 := Lib.hid ((Hb1.out.alloc Hb1.out.size _).trans (hb2.mono (by rw [World.size_alloc]; have := Hb1.out.size; omega)))
      have Hld2 := Lib.hid ((hb2.block w1.heap.size (by rw [World.size_alloc]; omega)).trans Hld.out)
      clear hb2
      by_cases hv : (v == U) = true
      · obtain rfl : v = U := by simpa using hv
        clear hv
        go_wp2_with fail
        go_ret
        rw [Hq.out]
        exact ⟨Hb12.out, by simp⟩
      · have hv' : (v == U) = false := by simpa using hv
        clear hv
        have Hq2 := Lib.hid (show R = (v == G) by rw [Hq.out, hv']; rfl)
        go_wp2_with (first
          | (refine BigFrame.wpList_want rfl (fun K hK => wp_load_row 79 _ rfl w1.heap.size rfl _ _ _ _ Hld2.out Tryd.underlying79 rfl hs1.out (hK _ _ ?_)))
          | fail)
        refine (Hg.out _).mono ?_
        rintro e w3 ⟨hb3, rfl⟩
        have Hb3 := Lib.hid (Hb12.out.trans (hb3.mono Hb12.out.size))
        clear hb3
        go_wp2
        go_ret
        rw [Hq2.out]
        exact ⟨Hb3.out, rfl⟩
  · have Hq := Lib.hid (show sRight l = false by unfold sRight; rw [decide_eq_false h]; rfl)
    have e1 : ((l.length : Int) != 512) = true := by rw [bne_iff_ne]; omega
    clear h
    go_enter Tryd.func15, Tryd.ntmps15
    go_wp2
    go_ret
    rw [Hq.out]
    exact ⟨Below.refl _ _, rfl⟩
end Go.Proofs.YtlloaalaldomkaaDoor
