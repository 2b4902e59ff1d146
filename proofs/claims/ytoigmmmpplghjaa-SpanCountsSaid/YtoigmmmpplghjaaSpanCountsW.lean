/- The walk of the law SpanCounts. -/
import Derived.Test.YtoigmmmpplghjaaSpnW
namespace Go.Proofs.Ytoigmmmpplghjaa.spanCounts
open Go.ChangeShapes Go.WideShapes Go.ChangeAt Go.RowKit

/-- What Index answers, by the three cases of a place. -/
theorem index_neg (k : Int) (w : World) (hk : -9223372036854775808 ≤ k ∧ k ≤ 9223372036854775807) (h : k < 0) :
    Calls Try.prog 8 #[.int .i64 k] w fun e w' => w = w' ∧ e = .returned (.int .i64 0) := by
  have := index_any k w hk
  rwa [show max k 0 = 0 by omega] at this
theorem index_pos (k : Int) (w : World) (hk : -9223372036854775808 ≤ k ∧ k ≤ 9223372036854775807) (h : 0 < k) :
    Calls Try.prog 8 #[.int .i64 k] w fun e w' => w = w' ∧ e = .returned (.int .i64 (k / 512)) := by
  have := index_any k w hk
  rwa [show max k 0 = k by omega] at this

theorem walk_neg (n k : Int) (hn : -9223372036854775808 ≤ n ∧ n ≤ 9223372036854775807) (hk : -9223372036854775808 ≤ k ∧ k ≤ 9223372036854775807) (hk0 : k < 0) (w : World) :
    Calls Try.prog 3 #[.int .i64 n, .int .i64 k] w fun e w' => Below w.heap.size w w' ∧ e = .returned (.bool true) := by
  have HI := Lib.hid (index_neg k w hk hk0)
  have HA := Lib.hid (awake9_any w)
  cases h : payOk n
  · have HB := Lib.hid (blocks_no n w h)
    have HP := Lib.hid (padding_no n w h)
    by_cases h0 : n < 0
    · clear h
      go_enter Try.func3, Try.ntmps3
      go_wp2_with fail
      refine HB.out.mono ?_
      rintro e w' ⟨rfl, rfl⟩
      go_wp2_with fail
      refine HP.out.mono ?_
      rintro e w' ⟨rfl, rfl⟩
      go_wp2_with fail
      refine HI.out.mono ?_
      rintro e w' ⟨rfl, rfl⟩
      go_wp2_with fail
      refine HA.out.mono ?_
      rintro e w1 ⟨hb, rfl⟩
      have Hb := Lib.hid hb
      clear hb
      go_wp2
      go_ret
      exact ⟨Hb.out, rfl⟩
    · have h1 : 1099511627776 < n := by unfold payOk payMax at h; simp at h; omega
      clear h
      go_enter Try.func3, Try.ntmps3
      go_wp2_with fail
      refine HB.out.mono ?_
      rintro e w' ⟨rfl, rfl⟩
      go_wp2_with fail
      refine HP.out.mono ?_
      rintro e w' ⟨rfl, rfl⟩
      go_wp2_with fail
      refine HI.out.mono ?_
      rintro e w' ⟨rfl, rfl⟩
      go_wp2_with fail
      refine HA.out.mono ?_
      rintro e w1 ⟨hb, rfl⟩
      have Hb := Lib.hid hb
      clear hb
      go_wp2
      go_ret
      exact ⟨Hb.out, rfl⟩
  · unfold payOk at h
    have h := of_decide_eq_true h
    obtain ⟨m, rfl⟩ : ∃ m : Nat, n = m := ⟨n.toNat, by omega⟩
    have hm : (m : Int) ≤ 1099511627776 := h.2
    have HB := Lib.hid (blocks_ok m w h.2)
    have HP := Lib.hid (padding_ok m w h.2)
    have HR := Lib.hid (refBlocks_ok m w h.2)
    have hb := blkN_eq m
    have hp := padN_lt m
    have hb2 : (blkN m : Int) ≤ 2147483650 := by omega
    clear h hn
    generalize blkN m = b at *
    generalize padN m = p at *
    have e1 : (512 * (b : Int) - p == m) = true := by rw [beq_iff_eq]; omega
    go_enter Try.func3, Try.ntmps3
    go_wp2_with fail
    refine HB.out.mono ?_
    rintro e w' ⟨rfl, rfl⟩
    go_wp2_with fail
    refine HP.out.mono ?_
    rintro e w' ⟨rfl, rfl⟩
    go_wp2_with fail
    refine HI.out.mono ?_
    rintro e w' ⟨rfl, rfl⟩
    go_wp2_with fail
    refine HR.out.mono ?_
    rintro e w' ⟨rfl, rfl⟩
    go_wp2_with fail
    refine HA.out.mono ?_
    rintro e w1 ⟨hb, rfl⟩
    have Hb := Lib.hid hb
    clear hb
    go_wp2
    go_ret
    exact ⟨Hb.out, rfl⟩

theorem walk_zero (n k : Int) (hn : -9223372036854775808 ≤ n ∧ n ≤ 9223372036854775807) (hk : -9223372036854775808 ≤ k ∧ k ≤ 9223372036854775807) (hk0 : k = 0) (w : World) :
    Calls Try.prog 3 #[.int .i64 n, .int .i64 k] w fun e w' => Below w.heap.size w w' ∧ e = .returned (.bool true) := by
  have HI := Lib.hid (index_any k w hk)
  subst hk0
  have HA := Lib.hid (awake9_any w)
  cases h : payOk n
  · have HB := Lib.hid (blocks_no n w h)
    have HP := Lib.hid (padding_no n w h)
    by_cases h0 : n < 0
    · clear h
      go_enter Try.func3, Try.ntmps3
      go_wp2_with fail
      refine HB.out.mono ?_
      rintro e w' ⟨rfl, rfl⟩
      go_wp2_with fail
      refine HP.out.mono ?_
      rintro e w' ⟨rfl, rfl⟩
      go_wp2_with fail
      refine HI.out.mono ?_
      rintro e w' ⟨rfl, rfl⟩
      go_wp2_with fail
      refine HA.out.mono ?_
      rintro e w1 ⟨hb, rfl⟩
      have Hb := Lib.hid hb
      clear hb
      go_wp2
      go_ret
      exact ⟨Hb.out, rfl⟩
    · have h1 : 1099511627776 < n := by unfold payOk payMax at h; simp at h; omega
      clear h
      go_enter Try.func3, Try.ntmps3
      go_wp2_with fail
      refine HB.out.mono ?_
      rintro e w' ⟨rfl, rfl⟩
      go_wp2_with fail
      refine HP.out.mono ?_
      rintro e w' ⟨rfl, rfl⟩
      go_wp2_with fail
      refine HI.out.mono ?_
      rintro e w' ⟨rfl, rfl⟩
      go_wp2_with fail
      refine HA.out.mono ?_
      rintro e w1 ⟨hb, rfl⟩
      have Hb := Lib.hid hb
      clear hb
      go_wp2
      go_ret
      exact ⟨Hb.out, rfl⟩
  · unfold payOk at h
    have h := of_decide_eq_true h
    obtain ⟨m, rfl⟩ : ∃ m : Nat, n = m := ⟨n.toNat, by omega⟩
    have hm : (m : Int) ≤ 1099511627776 := h.2
    have HB := Lib.hid (blocks_ok m w h.2)
    have HP := Lib.hid (padding_ok m w h.2)
    have HR := Lib.hid (refBlocks_ok m w h.2)
    have hb := blkN_eq m
    have hp := padN_lt m
    have hb2 : (blkN m : Int) ≤ 2147483650 := by omega
    clear h hn
    generalize blkN m = b at *
    generalize padN m = p at *
    have e1 : (512 * (b : Int) - p == m) = true := by rw [beq_iff_eq]; omega
    go_enter Try.func3, Try.ntmps3
    go_wp2_with fail
    refine HB.out.mono ?_
    rintro e w' ⟨rfl, rfl⟩
    go_wp2_with fail
    refine HP.out.mono ?_
    rintro e w' ⟨rfl, rfl⟩
    go_wp2_with fail
    refine HI.out.mono ?_
    rintro e w' ⟨rfl, rfl⟩
    go_wp2_with fail
    refine HR.out.mono ?_
    rintro e w' ⟨rfl, rfl⟩
    go_wp2_with fail
    refine HA.out.mono ?_
    rintro e w1 ⟨hb, rfl⟩
    have Hb := Lib.hid hb
    clear hb
    go_wp2
    go_ret
    exact ⟨Hb.out, rfl⟩

theorem walk_pos (n k : Int) (hn : -9223372036854775808 ≤ n ∧ n ≤ 9223372036854775807) (hk : -9223372036854775808 ≤ k ∧ k ≤ 9223372036854775807) (hk0 : 0 < k) (w : World) :
    Calls Try.prog 3 #[.int .i64 n, .int .i64 k] w fun e w' => Below w.heap.size w w' ∧ e = .returned (.bool true) := by
  have HI := Lib.hid (index_pos k w hk hk0)
  have HA := Lib.hid (awake9_any w)
  cases h : payOk n
  · have HB := Lib.hid (blocks_no n w h)
    have HP := Lib.hid (padding_no n w h)
    by_cases h0 : n < 0
    · clear h
      go_enter Try.func3, Try.ntmps3
      go_wp2_with fail
      refine HB.out.mono ?_
      rintro e w' ⟨rfl, rfl⟩
      go_wp2_with fail
      refine HP.out.mono ?_
      rintro e w' ⟨rfl, rfl⟩
      go_wp2_with fail
      refine HI.out.mono ?_
      rintro e w' ⟨rfl, rfl⟩
      go_wp2_with fail
      refine HA.out.mono ?_
      rintro e w1 ⟨hb, rfl⟩
      have Hb := Lib.hid hb
      clear hb
      go_wp2
      go_ret
      exact ⟨Hb.out, rfl⟩
    · have h1 : 1099511627776 < n := by unfold payOk payMax at h; simp at h; omega
      clear h
      go_enter Try.func3, Try.ntmps3
      go_wp2_with fail
      refine HB.out.mono ?_
      rintro e w' ⟨rfl, rfl⟩
      go_wp2_with fail
      refine HP.out.mono ?_
      rintro e w' ⟨rfl, rfl⟩
      go_wp2_with fail
      refine HI.out.mono ?_
      rintro e w' ⟨rfl, rfl⟩
      go_wp2_with fail
      refine HA.out.mono ?_
      rintro e w1 ⟨hb, rfl⟩
      have Hb := Lib.hid hb
      clear hb
      go_wp2
      go_ret
      exact ⟨Hb.out, rfl⟩
  · unfold payOk at h
    have h := of_decide_eq_true h
    obtain ⟨m, rfl⟩ : ∃ m : Nat, n = m := ⟨n.toNat, by omega⟩
    have hm : (m : Int) ≤ 1099511627776 := h.2
    have HB := Lib.hid (blocks_ok m w h.2)
    have HP := Lib.hid (padding_ok m w h.2)
    have HR := Lib.hid (refBlocks_ok m w h.2)
    have hb := blkN_eq m
    have hp := padN_lt m
    have hb2 : (blkN m : Int) ≤ 2147483650 := by omega
    clear h hn
    generalize blkN m = b at *
    generalize padN m = p at *
    have e1 : (512 * (b : Int) - p == m) = true := by rw [beq_iff_eq]; omega
    go_enter Try.func3, Try.ntmps3
    go_wp2_with fail
    refine HB.out.mono ?_
    rintro e w' ⟨rfl, rfl⟩
    go_wp2_with fail
    refine HP.out.mono ?_
    rintro e w' ⟨rfl, rfl⟩
    go_wp2_with fail
    refine HI.out.mono ?_
    rintro e w' ⟨rfl, rfl⟩
    go_wp2_with fail
    refine HR.out.mono ?_
    rintro e w' ⟨rfl, rfl⟩
    go_wp2_with fail
    refine HA.out.mono ?_
    rintro e w1 ⟨hb, rfl⟩
    have Hb := Lib.hid hb
    clear hb
    go_wp2
    go_ret
    exact ⟨Hb.out, rfl⟩

theorem walk (n k : Int) (hn : -9223372036854775808 ≤ n ∧ n ≤ 9223372036854775807) (hk : -9223372036854775808 ≤ k ∧ k ≤ 9223372036854775807) (w : World) :
    Calls Try.prog 3 #[.int .i64 n, .int .i64 k] w fun e w' => Below w.heap.size w w' ∧ e = .returned (.bool true) := by
  rcases Int.lt_trichotomy k 0 with h | h | h
  · exact walk_neg n k hn hk h w
  · exact walk_zero n k hn hk h w
  · exact walk_pos n k hn hk h w
end Go.Proofs.Ytoigmmmpplghjaa.spanCounts
