/-
  The contract of octal.Read.
-/
import Derived.Test.YtlloaalaldomkaaDoorOct
namespace Go.Proofs.YtlloaalaldomkaaDoor
open Go.ChangeShapes Go.WideShapes Go.ChangeAt Go.RowKit

theorem read_any (l : List UInt8) (w : World) (hl : l.length ≤ maxLen) :
    Calls Tryd.prog 46 #[.string ⟨l.toArray⟩] w fun e w' => e = .returned (.tuple #[.int .i64 (octRead l).1, .int .i64 (octRead l).2]) ∧ w = w' := by
  unfold maxLen at hl
  by_cases hz : isSize (l.length : Int) = true
  · have h2 : 2 ≤ l.length ∧ l.length ≤ 12 := by simp [isSize] at hz; omega
    obtain ⟨b, t, rfl⟩ : ∃ b t, l = b :: t := by cases l with | nil => simp at h2 | cons b t => exact ⟨b, t, rfl⟩
    have Hz := Lib.hid hz
    clear hz
    have h3 : 1 ≤ t.length ∧ t.length ≤ 11 := by simpa using h2
    have Hb := Lib.hid (readBinary_any 0 t w (by decide) (by omega))
    have Hc := Lib.hid (readBinary_any (-1) t w (by decide) (by omega))
    have Ho := Lib.hid (readOctal_any (b :: t) w h2.2)
    have Hz1 := Lib.hid (show isSize ((t.length : Int) + 1) = true by have := Hz.out; simpa using this)
    have Hu := Lib.hid (show octRead (b :: t) = if (b.toNat : Int) = 128 then readBinary 0 t else if (b.toNat : Int) = 255 then readBinary (-1) t else readOctal 0 0 (b :: t) by unfold octRead; rw [if_pos Hz.out])
    by_cases h80 : (b.toNat : Int) = 128
    · have Hq := Lib.hid (show octRead (b :: t) = readBinary 0 t by rw [Hu.out, if_pos h80])
      have e1 : ((b.toNat : Int) == 128) = true := by simpa using h80
      clear h80
      go_enter Tryd.func46, Tryd.ntmps46
      go_wp2_with fail
      refine (isSize_any _ w).mono ?_
      rw [Hz1.out]
      rintro e w' ⟨rfl, rfl⟩
      go_wp2_with fail
      refine Hb.out.mono ?_
      rintro e w' ⟨rfl, rfl⟩
      go_wp2
      go_ret2
      rw [Hq.out]
      exact ⟨rfl, rfl⟩
    · have e1 : ((b.toNat : Int) == 128) = false := by simpa using h80
      by_cases hff : (b.toNat : Int) = 255
      · have Hq := Lib.hid (show octRead (b :: t) = readBinary (-1) t by rw [Hu.out, if_neg h80, if_pos hff])
        have e2 : ((b.toNat : Int) == 255) = true := by simpa using hff
        clear h80 hff
        go_enter Tryd.func46, Tryd.ntmps46
        go_wp2_with fail
        refine (isSize_any _ w).mono ?_
        rw [Hz1.out]
        rintro e w' ⟨rfl, rfl⟩
        go_wp2_with fail
        refine Hc.out.mono ?_
        rintro e w' ⟨rfl, rfl⟩
        go_wp2
        go_ret2
        rw [Hq.out]
        exact ⟨rfl, rfl⟩
      · have Hq := Lib.hid (show octRead (b :: t) = readOctal 0 0 (b :: t) by rw [Hu.out, if_neg h80, if_neg hff])
        have e2 : ((b.toNat : Int) == 255) = false := by simpa using hff
        clear h80 hff
        go_enter Tryd.func46, Tryd.ntmps46
        go_wp2_with fail
        refine (isSize_any _ w).mono ?_
        rw [Hz1.out]
        rintro e w' ⟨rfl, rfl⟩
        go_wp2_with fail
        refine Ho.out.mono ?_
        rintro e w' ⟨rfl, rfl⟩
        go_wp2
        go_ret2
        rw [Hq.out]
        exact ⟨rfl, rfl⟩
  · have Hq := Lib.hid (show octRead l = (0, 1) by unfold octRead; rw [if_neg hz])
    have Hz := Lib.hid (show isSize (l.length : Int) = false by simpa using hz)
    clear hz
    go_enter Tryd.func46, Tryd.ntmps46
    go_wp2_with fail
    refine (isSize_any _ w).mono ?_
    rw [Hz.out]
    rintro e w' ⟨rfl, rfl⟩
    go_wp2
    go_ret2
    rw [Hq.out]
    exact ⟨rfl, rfl⟩
end Go.Proofs.YtlloaalaldomkaaDoor
