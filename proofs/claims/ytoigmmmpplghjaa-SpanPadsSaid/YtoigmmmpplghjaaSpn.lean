/-
  Contracts of package span, and of the document's answers for layer 9.
-/
import Derived.Test.YtoigmmmpplghjaaSpnP
import Derived.Test.YtoigmmmpplghjaaTxtB
import Derived.Test.YtoigmmmpplghjaaDrew

namespace Go.Proofs.Ytoigmmmpplghjaa
open Go.ChangeShapes Go.WideShapes Go.ChangeAt Go.RowKit

theorem padding_ok (n : Nat) (w : World) (h : (n : Int) ≤ payMax) :
    Calls Try.prog 7 #[.int .i64 n] w fun e w' => w = w' ∧ e = .returned (.tuple #[.int .i64 (padN n : Nat), .int .i64 0]) := by
  have h2 : (n : Int) ≤ 1099511627776 := h
  have Hp := Lib.hid (show ((512 - (n : Int) % 512) % 512) = (padN n : Nat) by unfold padN; omega)
  clear h
  go_enter Try.func7, Try.ntmps7
  go_wp2
  go_ret2
  refine ⟨rfl, ret_int_int ?_⟩
  rw [← Hp.out]

theorem padding_no (n : Int) (w : World) (h : payOk n = false) :
    Calls Try.prog 7 #[.int .i64 n] w fun e w' => w = w' ∧ e = .returned (.tuple #[.int .i64 0, .int .i64 6]) := by
  by_cases h0 : n < 0
  · clear h
    go_enter Try.func7, Try.ntmps7
    go_wp2
    go_ret2
    exact ⟨rfl, rfl⟩
  · have h1 : 1099511627776 < n := by unfold payOk payMax at h; simp at h; omega
    clear h
    go_enter Try.func7, Try.ntmps7
    go_wp2
    go_ret2
    exact ⟨rfl, rfl⟩

theorem blocks_ok (n : Nat) (w : World) (h : (n : Int) ≤ payMax) :
    Calls Try.prog 6 #[.int .i64 n] w fun e w' => w = w' ∧ e = .returned (.tuple #[.int .i64 (blkN n : Nat), .int .i64 0]) := by
  have h2 : (n : Int) ≤ 1099511627776 := h
  have Hp := Lib.hid (padding_ok n w h)
  have hl := padN_lt n
  have Hb := Lib.hid (show (((n : Int) + (padN n : Nat)) / 512) = (blkN n : Nat) by unfold blkN; omega)
  clear h
  generalize padN n = p at *
  go_enter Try.func6, Try.ntmps6
  go_wp2_with fail
  refine Hp.out.mono ?_
  rintro e w' ⟨rfl, rfl⟩
  go_wp2
  go_ret2
  refine ⟨rfl, ret_int_int ?_⟩
  rw [← Hb.out]

theorem blocks_no (n : Int) (w : World) (h : payOk n = false) :
    Calls Try.prog 6 #[.int .i64 n] w fun e w' => w = w' ∧ e = .returned (.tuple #[.int .i64 0, .int .i64 6]) := by
  have Hp := Lib.hid (padding_no n w h)
  clear h
  go_enter Try.func6, Try.ntmps6
  go_wp2_with fail
  refine Hp.out.mono ?_
  rintro e w' ⟨rfl, rfl⟩
  go_wp2
  go_ret2
  exact ⟨rfl, rfl⟩

theorem index_any (n : Int) (w : World) (h : -9223372036854775808 ≤ n ∧ n ≤ 9223372036854775807) :
    Calls Try.prog 8 #[.int .i64 n] w fun e w' => w = w' ∧ e = .returned (.int .i64 (max n 0 / 512)) := by
  by_cases h0 : n < 0
  · go_enter Try.func8, Try.ntmps8
    go_wp2
    go_ret
    exact ⟨rfl, ret_int (by omega)⟩
  · have h1 : 0 ≤ n := by omega
    have e1 : max n 0 = n := by omega
    have e2 : max 0 n = n := by omega
    rw [e1]
    go_enter Try.func8, Try.ntmps8
    go_wp2
    all_goals
      go_ret
      exact ⟨rfl, ret_int (by first | rfl | omega)⟩

theorem refBlocks_ok (n : Nat) (w : World) (h : (n : Int) ≤ payMax) :
    Calls Try.prog 10 #[.int .i64 n] w fun e w' => w = w' ∧ e = .returned (.int .i64 (blkN n : Nat)) := by
  have h2 : (n : Int) ≤ 1099511627776 := h
  have Hu := Lib.hid (blkN_up n)
  clear h
  by_cases hp : 0 < n % 512
  · have hp' : (0 : Int) < (n : Int) % 512 := by omega
    rw [if_pos hp] at Hu
    go_enter Try.func10, Try.ntmps10
    go_wp2
    go_ret
    exact ⟨rfl, ret_int (by rw [Hu.out]; omega)⟩
  · have hp' : (n : Int) % 512 ≤ 0 := by omega
    rw [if_neg hp] at Hu
    go_enter Try.func10, Try.ntmps10
    go_wp2
    go_ret
    exact ⟨rfl, ret_int (by rw [Hu.out]; omega)⟩
end Go.Proofs.Ytoigmmmpplghjaa
