/- The walk of the law OctalForms. -/
import Derived.Test.YteiogkcdjipjhaaOctA
import Derived.Test.YteiogkcdjipjhaaOctRefB
namespace Go.Proofs.Yteiogkcdjipjhaa.octalForms
open Go.ChangeShapes Go.WideShapes Go.ChangeAt Go.RowKit

theorem octal_back (v n : Int) (s : List UInt8) (h : octalOf v n = some s) : octRead s = (v, 0) ∧ s.length ≤ 12 := by
  unfold octalOf at h
  by_cases hc : isSize n = true ∧ 0 ≤ v ∧ v / 2 ^ (3 * (n.toNat - 1)) = 0
  · rw [if_pos hc] at h
    cases h
    have h2 : 2 ≤ n.toNat ∧ n.toNat ≤ 12 := by have := hc.1; simp [isSize] at this; omega
    exact ⟨octRead_octStr v n.toNat h2.1 h2.2 hc.2.1 hc.2.2, by simp [octStr]; omega⟩
  · rw [if_neg hc] at h; cases h
theorem binary_back (v n : Int) (s : List UInt8) (hr : inRange v = true) (h : binaryOf v n = some s) : octRead s = (v, 0) ∧ s.length ≤ 12 := by
  unfold binaryOf at h
  by_cases hc : isSize n = true ∧ (above v n.toNat = 0 ∨ above v n.toNat = -1)
  · rw [if_pos hc] at h
    cases h
    have h2 : 2 ≤ n.toNat ∧ n.toNat ≤ 12 := by have := hc.1; simp [isSize] at this; omega
    exact ⟨octRead_binStr v n.toNat h2.1 h2.2 hr hc.2, by simp [binStr]; omega⟩
  · rw [if_neg hc] at h; cases h

theorem walk (v n : Int) (hv : -9223372036854775808 ≤ v ∧ v ≤ 9223372036854775807) (hn : -9223372036854775808 ≤ n ∧ n ≤ 9223372036854775807) (w : World) :
    Calls Try.prog 5 #[.int .i64 v, .int .i64 n] w fun e w' => Below w.heap.size w w' ∧ e = .returned (.bool true) := by
  have Ho := Lib.hid (octal_all v n w hv hn)
  have Hp := Lib.hid (fun w => refOctal_all v n w hn)
  have Ha := Lib.hid awake_any
  by_cases hr : -9007199254740991 ≤ v ∧ v ≤ 9007199254740991
  · have hir : inRange v = true := by simp [inRange]; omega
    have Hb := Lib.hid (fun w => binary_all v n w hn)
    have Hq := Lib.hid (fun w => refBinary_all v n w hn hir)
    obtain ⟨r1, r2⟩ := hr
    rcases ho : octalOf v n with _ | s
    · rw [ho] at Ho Hp
      clear ho hir
      generalize binaryOf v n = ob at *
      go_enter Try.func5, Try.ntmps5
      go_wp2_with fail
      refine Ho.out.mono ?_
      rintro e w1 ⟨hb1, rfl⟩
      go_wp2_with fail
      refine (Hp.out w1).mono ?_
      rintro e w' ⟨rfl, rfl⟩
      go_wp2_with fail
      refine (Hb.out w1).mono ?_
      rintro e w2 ⟨hb2, rfl⟩
      go_wp2_with fail
      refine (Hq.out w2).mono ?_
      rintro e w3 ⟨hb3, rfl⟩
      have Hall := Lib.hid ((hb1.trans (hb2.mono hb1.size)).trans (hb3.mono (Nat.le_trans hb1.size hb2.size)))
      clear hb1 hb2 hb3
      go_wp2_with fail
      refine (Ha.out w3).mono ?_
      rintro e w4 ⟨hb4, rfl⟩
      have Hend := Lib.hid (Hall.out.trans (hb4.mono Hall.out.size))
      go_wp2
      go_ret
      exact ⟨Hend.out, rfl⟩
    · obtain ⟨hs1, hs2⟩ := octal_back v n s ho
      have H1 := Lib.hid (fun w => read_any s w (by unfold maxLen; omega))
      rw [hs1] at H1
      rw [ho] at Ho Hp
      clear ho hs1 hs2
      rcases hb : binaryOf v n with _ | t
      · rw [hb] at Hb Hq
        clear hb hir
        go_enter Try.func5, Try.ntmps5
        go_wp2_with fail
        refine Ho.out.mono ?_
        rintro e w1 ⟨hb1, rfl⟩
        go_wp2_with fail
        refine (Hp.out w1).mono ?_
        rintro e w' ⟨rfl, rfl⟩
        go_wp2_with fail
        refine (Hb.out w1).mono ?_
        rintro e w2 ⟨hb2, rfl⟩
        go_wp2_with fail
        refine (Hq.out w2).mono ?_
        rintro e w3 ⟨hb3, rfl⟩
        have Hall := Lib.hid ((hb1.trans (hb2.mono hb1.size)).trans (hb3.mono (Nat.le_trans hb1.size hb2.size)))
        clear hb1 hb2 hb3
        go_wp2_with fail
        refine (Ha.out w3).mono ?_
        rintro e w4 ⟨hb4, rfl⟩
        have Hend := Lib.hid (Hall.out.trans (hb4.mono Hall.out.size))
        go_wp2
        go_ret
        exact ⟨Hend.out, rfl⟩
      · obtain ⟨hs1, hs2⟩ := binary_back v n t hir hb
        have H2 := Lib.hid (fun w => read_any t w (by unfold maxLen; omega))
        rw [hs1] at H2
        rw [hb] at Hb Hq
        clear hb hir hs1 hs2
        go_enter Try.func5, Try.ntmps5
        go_wp2_with fail
        refine Ho.out.mono ?_
        rintro e w1 ⟨hb1, rfl⟩
        go_wp2_with fail
        refine (Hp.out w1).mono ?_
        rintro e w' ⟨rfl, rfl⟩
        go_wp2_with fail
        refine (Hb.out w1).mono ?_
        rintro e w2 ⟨hb2, rfl⟩
        go_wp2_with fail
        refine (Hq.out w2).mono ?_
        rintro e w3 ⟨hb3, rfl⟩
        have Hall := Lib.hid ((hb1.trans (hb2.mono hb1.size)).trans (hb3.mono (Nat.le_trans hb1.size hb2.size)))
        clear hb1 hb2 hb3
        go_wp2_with fail
        refine (H1.out w3).mono ?_
        rintro e w' ⟨rfl, rfl⟩
        go_wp2_with fail
        refine (H2.out w3).mono ?_
        rintro e w' ⟨rfl, rfl⟩
        go_wp2_with fail
        refine (Ha.out w3).mono ?_
        rintro e w4 ⟨hb4, rfl⟩
        have Hend := Lib.hid (Hall.out.trans (hb4.mono Hall.out.size))
        go_wp2
        go_ret
        exact ⟨Hend.out, rfl⟩
  · generalize octalOf v n = oo at *
    by_cases hbig : 9007199254740991 < v
    · clear hr
      go_enter Try.func5, Try.ntmps5
      go_wp2_with fail
      refine Ho.out.mono ?_
      rintro e w1 ⟨hb1, rfl⟩
      go_wp2_with fail
      refine (Hp.out w1).mono ?_
      rintro e w' ⟨rfl, rfl⟩
      go_wp2_with fail
      refine (Ha.out w1).mono ?_
      rintro e w4 ⟨hb4, rfl⟩
      have Hend := Lib.hid (hb1.trans (hb4.mono hb1.size))
      go_wp2
      go_ret
      exact ⟨Hend.out, rfl⟩
    · have hsm : v < -9007199254740991 := by omega
      clear hr
      go_enter Try.func5, Try.ntmps5
      go_wp2_with fail
      refine Ho.out.mono ?_
      rintro e w1 ⟨hb1, rfl⟩
      go_wp2_with fail
      refine (Hp.out w1).mono ?_
      rintro e w' ⟨rfl, rfl⟩
      go_wp2_with fail
      refine (Ha.out w1).mono ?_
      rintro e w4 ⟨hb4, rfl⟩
      have Hend := Lib.hid (hb1.trans (hb4.mono hb1.size))
      go_wp2
      go_ret
      exact ⟨Hend.out, rfl⟩
end Go.Proofs.Yteiogkcdjipjhaa.octalForms
