/- The walk of the law SpanPads. -/
import Derived.Test.YtoigmmmpplghjaaSpnW
namespace Go.Proofs.Ytoigmmmpplghjaa.spanPads
open Go.ChangeShapes Go.WideShapes Go.ChangeAt Go.RowKit

theorem walk (l : List UInt8) (hl : l.length ≤ maxLen) (w : World) :
    Calls Try.prog 4 #[.string ⟨l.toArray⟩] w fun e w' => Below w.heap.size w w' ∧ e = .returned (.bool true) := by
  unfold maxLen at hl
  by_cases h : l.length ≤ 3000
  · have H1 := Lib.hid (pad_any l w h)
    have hlen := padOf_length l
    have hb6 : blkN l.length ≤ 6 := by unfold blkN padN; omega
    have H2 := Lib.hid (fun w => unpad_any (padOf l) l.length w (by omega))
    rw [unpad_pad l h] at H2
    have H3 := Lib.hid (fun w => blocks_ok l.length w (by unfold payMax; omega))
    have H4 := Lib.hid (fun w => refPad_any l w h)
    generalize padOf l = z at *
    generalize blkN l.length = b at *
    have e1 : ((z.length : Int) == 512 * (b : Int)) = true := by rw [beq_iff_eq]; omega
    go_enter Try.func4, Try.ntmps4
    go_wp2_with fail
    refine H1.out.mono ?_
    rintro e w1 ⟨hb1, rfl⟩
    go_wp2_with fail
    refine (H2.out w1).mono ?_
    rintro e w2 ⟨hb2, rfl⟩
    go_wp2_with fail
    refine (H3.out w2).mono ?_
    rintro e w' ⟨rfl, rfl⟩
    go_wp2_with fail
    refine (H4.out w2).mono ?_
    rintro e w' ⟨rfl, rfl⟩
    have Hall := Lib.hid (hb1.trans (hb2.mono hb1.size))
    clear hb1 hb2
    go_wp2_with fail
    refine (awake9_any w2).mono ?_
    rintro e w3 ⟨hb3, rfl⟩
    have Hend := Lib.hid (Hall.out.trans (hb3.mono Hall.out.size))
    clear hb3
    go_wp2
    go_ret
    exact ⟨Hend.out, rfl⟩
  · have h1 : 3000 < l.length := by omega
    have HA := Lib.hid (awake9_any w)
    clear h
    go_enter Try.func4, Try.ntmps4
    go_wp2_with fail
    refine HA.out.mono ?_
    rintro e w1 ⟨hb, rfl⟩
    have Hb := Lib.hid hb
    clear hb
    go_wp2
    go_ret
    exact ⟨Hb.out, rfl⟩
end Go.Proofs.Ytoigmmmpplghjaa.spanPads
