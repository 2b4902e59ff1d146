/- The walk of the law SpanUnpads. -/
import Derived.Test.YtoigmmmpplghjaaSpnW
namespace Go.Proofs.Ytoigmmmpplghjaa.spanUnpads
open Go.ChangeShapes Go.WideShapes Go.ChangeAt Go.RowKit

theorem walk (l : List UInt8) (n : Int) (hl : l.length ≤ maxLen) (_hn : -9223372036854775808 ≤ n ∧ n ≤ 9223372036854775807) (w : World) :
    Calls Try.prog 5 #[.string ⟨l.toArray⟩, .int .i64 n] w fun e w' => Below w.heap.size w w' ∧ e = .returned (.bool true) := by
  unfold maxLen at hl
  by_cases h : l.length ≤ 3000
  · have H1 := Lib.hid (fun w => unpad_any l n w (by omega))
    have H2 := Lib.hid (fun w => refUnpad_any l n w (by omega))
    have H3 := Lib.hid (fun w => end_any w)
    have hzl : (List.replicate 1024 (0 : UInt8)).length ≤ 9223372036854775807 := by rw [List.length_replicate]; decide
    have H4 := Lib.hid (fun w => refTBlank_any (List.replicate 1024 (0 : UInt8)) w hzl)
    rw [show txtBlank (List.replicate 1024 (0 : UInt8)) = true by unfold txtBlank; rw [blank_rep, List.length_replicate]] at H4
    clear hzl
    generalize List.replicate 1024 (0 : UInt8) = z at *
    generalize unpadOf l n = R at *
    obtain ⟨r, c⟩ := R
    go_enter Try.func5, Try.ntmps5
    go_wp2_with fail
    refine (H1.out w).mono ?_
    rintro e w1 ⟨hb1, rfl⟩
    go_wp2_with fail
    refine (H2.out w1).mono ?_
    rintro e w2 ⟨hb2, rfl⟩
    have Hall := Lib.hid (hb1.trans (hb2.mono hb1.size))
    clear hb1 hb2
    go_wp2_with fail
    refine (H3.out w2).mono ?_
    rintro e w3 ⟨hb3, rfl⟩
    have Hall := Lib.hid (Hall.out.trans (hb3.mono Hall.out.size))
    clear hb3
    go_wp2_with fail
    refine (H4.out w3).mono ?_
    rintro e w' ⟨rfl, rfl⟩
    go_wp2_with fail
    refine (awake9_any w3).mono ?_
    rintro e w4 ⟨hb4, rfl⟩
    have Hend := Lib.hid (Hall.out.trans (hb4.mono Hall.out.size))
    clear hb4
    go_wp2
    go_ret
    exact ⟨Hend.out, rfl⟩
  · have h1 : 3000 < l.length := by omega
    have HA := Lib.hid (awake9_any w)
    clear h
    go_enter Try.func5, Try.ntmps5
    go_wp2_with fail
    refine HA.out.mono ?_
    rintro e w1 ⟨hb, rfl⟩
    have Hb := Lib.hid hb
    clear hb
    go_wp2
    go_ret
    exact ⟨Hb.out, rfl⟩
end Go.Proofs.Ytoigmmmpplghjaa.spanUnpads
