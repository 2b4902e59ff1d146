/- The walk of the law OctalWrites. -/
import Derived.Test.YteiogkcdjipjhaaOctA
import Derived.Test.YteiogkcdjipjhaaOctRefB
namespace Go.Proofs.Yteiogkcdjipjhaa.octalWrites
open Go.ChangeShapes Go.WideShapes Go.ChangeAt Go.RowKit

theorem length_octWrite (v n : Int) : (octWrite v n).1.length ≤ 12 := by
  by_cases h : (octWrite v n).2 = 0
  · have := (octRead_octWrite v n h).2
    by_cases hz : isSize n = true
    · simp [isSize] at hz; omega
    · have hw : octWrite v n = ([], 1) := by simp [octWrite, hz]
      rw [hw]; simp
  · have : (octWrite v n).1 = [] := by
      by_cases hz : isSize n = true
      · by_cases hr : inRange v = true
        · rcases ho : octalOf v n with _ | s
          · rcases hb : binaryOf v n with _ | s
            · simp [octWrite, hz, hr, ho, hb]
            · simp [octWrite, hz, hr, ho, hb] at h
          · simp [octWrite, hz, hr, ho] at h
        · simp [octWrite, hz, hr]
      · simp [octWrite, hz]
    rw [this]; simp

theorem walk (v n : Int) (hv : -9223372036854775808 ≤ v ∧ v ≤ 9223372036854775807) (hn : -9223372036854775808 ≤ n ∧ n ≤ 9223372036854775807) (w : World) :
    Calls Try.prog 4 #[.int .i64 v, .int .i64 n] w fun e w' => Below w.heap.size w w' ∧ e = .returned (.bool true) := by
  have Hw := Lib.hid (write_any v n w hv hn)
  have Hf := Lib.hid (fun w => refWrite_any v n w hv hn)
  have Hr := Lib.hid (fun w => read_any (octWrite v n).1 w (by have := length_octWrite v n; unfold maxLen; omega))
  have Ha := Lib.hid awake_any
  have Hb := Lib.hid (octRead_octWrite v n)
  generalize octWrite v n = r at *
  obtain ⟨s, f⟩ := r
  simp only at Hr Hb
  by_cases h0 : f = 0
  · subst h0
    obtain ⟨hb1, hb2⟩ := Hb.out rfl
    have H1 := Lib.hid hb1
    have hl : ((s.length : Int) == n) = true := by simpa using hb2
    clear hb1 hb2 Hb
    rw [H1.out] at Hr
    go_enter Try.func4, Try.ntmps4
    go_wp2_with fail
    refine Hw.out.mono ?_
    rintro e w1 ⟨hb1, rfl⟩
    go_wp2_with fail
    refine (Hf.out w1).mono ?_
    rintro e w2 ⟨hb2, rfl⟩
    go_wp2_with fail
    refine (Hr.out w2).mono ?_
    rintro e w' ⟨rfl, rfl⟩
    go_wp2_with fail
    refine (Ha.out w2).mono ?_
    rintro e w3 ⟨hb3, rfl⟩
    have Hall := Lib.hid ((hb1.trans (hb2.mono hb1.size)).trans (hb3.mono (Nat.le_trans hb1.size hb2.size)))
    go_wp2
    go_ret
    exact ⟨Hall.out, rfl⟩
  · have e1 : (f == 0) = false := by simpa using h0
    have e2 : (f != 0) = true := by simpa using h0
    clear h0 Hb
    go_enter Try.func4, Try.ntmps4
    go_wp2_with fail
    refine Hw.out.mono ?_
    rintro e w1 ⟨hb1, rfl⟩
    go_wp2_with fail
    refine (Hf.out w1).mono ?_
    rintro e w2 ⟨hb2, rfl⟩
    go_wp2_with fail
    refine (Ha.out w2).mono ?_
    rintro e w3 ⟨hb3, rfl⟩
    have Hall := Lib.hid ((hb1.trans (hb2.mono hb1.size)).trans (hb3.mono (Nat.le_trans hb1.size hb2.size)))
    go_wp2
    go_ret
    exact ⟨Hall.out, rfl⟩
end Go.Proofs.Yteiogkcdjipjhaa.octalWrites
