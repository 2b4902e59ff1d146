/-
  Contracts of span.Pad, span.Unpad and span.End, of the document's answers for them, and of the law's examples.
-/
import Derived.Test.YtoigmmmpplghjaaSpn
import Derived.Test.YtoigmmmpplghjaaShelfP
import Derived.Deep.RegionHeld3
import Derived.Deep.CutBlock
import Derived.Deep.DeepCutAuto
namespace Go.Proofs.Ytoigmmmpplghjaa
open Go.ChangeShapes Go.WideShapes Go.ChangeAt Go.RowKit

theorem repNul_any (n : Nat) (hn : n ≤ 1024) (w : World) :
    Calls Try.prog 17 #[.string ⟨[0].toArray⟩, .int .i64 n] w fun e w' => Below w.heap.size w w' ∧ e = .returned (.string ⟨(List.replicate n (0 : UInt8)).toArray⟩) := by
  have h := Try.strings_Repeat ⟨[0].toArray⟩ n w (by omega) (by simp [ByteArray.size]; omega)
  rw [show Lib.repeatL (⟨[0].toArray⟩ : ByteArray).data.toList n = List.replicate n 0 from repeat_nul1 n] at h
  exact h.mono fun _ _ ⟨he, hw⟩ => ⟨hw, he⟩

theorem end_any (w : World) :
    Calls Try.prog 16 #[] w fun e w' => Below w.heap.size w w' ∧ e = .returned (.string ⟨(List.replicate 1024 (0 : UInt8)).toArray⟩) := by
  have Hr := Lib.hid (repNul_any 1024 (by decide) w)
  generalize List.replicate 1024 (0 : UInt8) = z at *
  go_enter Try.func16, Try.ntmps16
  go_wp2_with fail
  refine Hr.out.mono ?_
  rintro e w1 ⟨hb, rfl⟩
  have Hb := Lib.hid hb
  clear hb
  go_wp2
  go_ret
  exact ⟨Hb.out, rfl⟩

theorem pad_any (l : List UInt8) (w : World) (hl : l.length ≤ 3000) :
    Calls Try.prog 11 #[.string ⟨l.toArray⟩] w fun e w' => Below w.heap.size w w' ∧ e = .returned (.string ⟨(padOf l).toArray⟩) := by
  have Hp := Lib.hid (padding_ok l.length w (by unfold payMax; omega))
  have hlt := padN_lt l.length
  have Hr := Lib.hid (repNul_any (padN l.length) (by omega) w)
  have Hq := Lib.hid (show l ++ List.replicate (padN l.length) 0 = padOf l from rfl)
  have hz : (List.replicate (padN l.length) (0 : UInt8)).length ≤ 512 := by rw [List.length_replicate]; omega
  generalize padOf l = R at *
  generalize List.replicate (padN l.length) (0 : UInt8) = z at *
  generalize padN l.length = p at *
  go_enter Try.func11, Try.ntmps11
  go_wp2_with fail
  refine Hp.out.mono ?_
  rintro e w' ⟨rfl, rfl⟩
  go_wp2_with fail
  refine Hr.out.mono ?_
  rintro e w1 ⟨hb, rfl⟩
  have Hb := Lib.hid hb
  clear hb
  go_wp2
  go_ret
  exact ⟨Hb.out, by rw [← Hq.out]; rfl⟩

theorem refPad_any (l : List UInt8) (w : World) (hl : l.length ≤ 3000) :
    Calls Try.prog 13 #[.string ⟨l.toArray⟩] w fun e w' => w = w' ∧ e = .returned (.string ⟨(padOf l).toArray⟩) := by
  go_enter Try.func13, Try.ntmps13
  go_wp2
  go_loop [0] (fun s => ∃ t : List UInt8, s = .string ⟨t.toArray⟩ ∧ t.length ≤ 3512 ∧ padOf t = padOf l) (fun s => padN (match s with | .string b => b.size | _ => 0))
  case atStart => exact ⟨l, rfl, by omega, rfl⟩
  case round =>
    obtain ⟨t, rfl, ht, hs⟩ := hrel
    have Hs := Lib.hid hs
    clear hs
    by_cases h0 : t.length % 512 = 0
    · have Hz := Lib.hid (show padOf l = t by rw [← Hs.out]; unfold padOf padN; rw [h0]; simp)
      have e1 : (((t.length : Int) % 512) != 0) = false := by simp; omega
      clear h0
      go_wp2
      go_ret
      rw [Hz.out]
      exact ⟨rfl, rfl⟩
    · have hp : padN (t.length + 1) + 1 = padN t.length := by unfold padN; omega
      have Hn := Lib.hid (show padOf (t ++ [0]) = padOf l by
        rw [← Hs.out]
        unfold padOf
        rw [List.length_append, List.length_singleton, ← hp, List.replicate_succ, List.append_assoc]
        rfl)
      have ht2 : t.length + 1 ≤ 3512 := by
        have : t.length ≠ 3512 := by
          intro h
          have h1 : (padOf l).length = (padOf t).length := by rw [Hs.out]
          rw [padOf_length, padOf_length, h] at h1
          have : blkN l.length ≤ 6 := by unfold blkN padN; omega
          have : blkN 3512 = 7 := by decide
          omega
        omega
      have e1 : (((t.length : Int) % 512) != 0) = true := by simp; omega
      clear h0
      go_wp2
      go_round
      case rel => exact ⟨t ++ [0], rfl, by simp; omega, Hn.out⟩
      case measure => show padN (t ++ [0]).length < padN t.length; rw [List.length_append, List.length_singleton]; omega

theorem unpad_no (l : List UInt8) (n : Int) (w : World) (h : payOk n = false) :
    Calls Try.prog 12 #[.string ⟨l.toArray⟩, .int .i64 n] w fun e w' => w = w' ∧ e = .returned (.tuple #[.string ⟨([] : List UInt8).toArray⟩, .int .i64 6]) := by
  have Hp := Lib.hid (padding_no n w h)
  clear h
  go_enter Try.func12, Try.ntmps12
  go_wp2_with fail
  refine Hp.out.mono ?_
  rintro e w' ⟨rfl, rfl⟩
  go_wp2
  go_ret2
  exact ⟨rfl, rfl⟩

theorem unpad_short (l : List UInt8) (n : Nat) (w : World) (h : (n : Int) ≤ payMax) (hl : l.length < n + padN n) (hl2 : l.length ≤ 9223372036854775807) :
    Calls Try.prog 12 #[.string ⟨l.toArray⟩, .int .i64 n] w fun e w' => w = w' ∧ e = .returned (.tuple #[.string ⟨([] : List UInt8).toArray⟩, .int .i64 3]) := by
  have h2 : (n : Int) ≤ 1099511627776 := h
  have Hp := Lib.hid (padding_ok n w h)
  have hlt := padN_lt n
  clear h
  generalize padN n = p at *
  have hl3 : (l.length : Int) < (n : Int) + p := by omega
  go_enter Try.func12, Try.ntmps12
  go_wp2_with fail
  refine Hp.out.mono ?_
  rintro e w' ⟨rfl, rfl⟩
  go_wp2
  go_ret2
  exact ⟨rfl, rfl⟩

theorem unpad_long (l : List UInt8) (n : Nat) (w : World) (h : (n : Int) ≤ payMax) (hl : n + padN n ≤ l.length) (hl2 : l.length ≤ 3512) :
    Calls Try.prog 12 #[.string ⟨l.toArray⟩, .int .i64 n] w fun e w' => Below w.heap.size w w' ∧
      e = .returned (if l.drop n = List.replicate (padN n) 0 then .tuple #[.string ⟨(l.take n).toArray⟩, .int .i64 0] else .tuple #[.string ⟨([] : List UInt8).toArray⟩, .int .i64 2]) := by
  have Hp := Lib.hid (padding_ok n w h)
  have hlt := padN_lt n
  have Hr := Lib.hid (fun w => repNul_any (padN n) (by omega) w)
  clear h
  generalize List.replicate (padN n) (0 : UInt8) = z at *
  generalize padN n = p at *
  have hl3 : (n : Int) + p ≤ l.length := by omega
  have hl4 : (n : Int) ≤ l.length := by omega
  have Ht := Lib.hid (show l.take (n - 0) = l.take n by rfl)
  generalize hd : l.drop n = d at *
  have Hd := Lib.hid hd
  clear hd
  by_cases hc : d = z
  · rw [if_pos hc]
    have e1 : (d == z) = true := by simp [hc]
    clear hc
    have hk := Below.refl w.heap.size w
    have Hcut := Lib.hid (show l.drop n = d from Hd.out)
    have hcut : (l.drop n).take (l.length - n) = d := by rw [take_drop_len]; exact Hd.out
    go_enter Try.func12, Try.ntmps12
    go_wp2_with fail
    refine Hp.out.mono ?_
    rintro e w' ⟨rfl, rfl⟩
    go_wp2
    go_region_held3 (fun w' => Below w.heap.size w w')
      (first | assumption | exact below_drewN hk 1 | exact (below_drewN hk 1).trans (hbA.mono hk.size))
      ((go_at_call 17; refine (Hr.out _).mono ?_; rintro e wA ⟨hbA, rfl⟩))
    go_wp2
    go_ret2
    exact ⟨by assumption, rfl⟩
  · rw [if_neg hc]
    have e1 : (d == z) = false := by simp [hc]
    clear hc
    have hk := Below.refl w.heap.size w
    have Hcut := Lib.hid (show l.drop n = d from Hd.out)
    have hcut : (l.drop n).take (l.length - n) = d := by rw [take_drop_len]; exact Hd.out
    go_enter Try.func12, Try.ntmps12
    go_wp2_with fail
    refine Hp.out.mono ?_
    rintro e w' ⟨rfl, rfl⟩
    go_wp2
    go_region_held3 (fun w' => Below w.heap.size w w')
      (first | assumption | exact below_drewN hk 1 | exact (below_drewN hk 1).trans (hbA.mono hk.size))
      ((go_at_call 17; refine (Hr.out _).mono ?_; rintro e wA ⟨hbA, rfl⟩))
    go_wp2
    go_ret2
    exact ⟨by assumption, rfl⟩

theorem unpad_any (l : List UInt8) (n : Int) (w : World) (hl : l.length ≤ 3512) :
    Calls Try.prog 12 #[.string ⟨l.toArray⟩, .int .i64 n] w fun e w' => Below w.heap.size w w' ∧
      e = .returned (.tuple #[.string ⟨(unpadOf l n).1.toArray⟩, .int .i64 (unpadOf l n).2]) := by
  unfold unpadOf
  cases h : payOk n
  · rw [if_neg (by decide)]
    exact (unpad_no l n w h).mono fun _ _ ⟨h1, h2⟩ => ⟨h1 ▸ Below.refl _ _, h2⟩
  · rw [if_pos rfl]
    unfold payOk at h
    have h := of_decide_eq_true h
    obtain ⟨m, rfl⟩ : ∃ m : Nat, n = m := ⟨n.toNat, by omega⟩
    rw [Int.toNat_natCast]
    by_cases h1 : l.length < m + padN m
    · rw [if_pos h1]
      exact (unpad_short l m w h.2 h1 (by omega)).mono fun _ _ ⟨h1, h2⟩ => ⟨h1 ▸ Below.refl _ _, h2⟩
    · rw [if_neg h1]
      refine (unpad_long l m w h.2 (by omega) hl).mono fun _ _ ⟨h1, h2⟩ => ⟨h1, ?_⟩
      rw [h2]
      split <;> rfl

theorem refUnpad_no (l : List UInt8) (n : Int) (w : World) (h : payOk n = false) :
    Calls Try.prog 14 #[.string ⟨l.toArray⟩, .int .i64 n] w fun e w' => Below w.heap.size w w' ∧ e = .returned (.tuple #[.string ⟨([] : List UInt8).toArray⟩, .int .i64 6]) := by
  by_cases h0 : n < 0
  · clear h
    go_enter Try.func14, Try.ntmps14
    go_wp2
    go_ret2
    exact ⟨Below.refl _ _, rfl⟩
  · have h1 : 1099511627776 < n := by unfold payOk payMax at h; simp at h; omega
    clear h
    go_enter Try.func14, Try.ntmps14
    go_wp2
    go_ret2
    exact ⟨Below.refl _ _, rfl⟩

set_option maxHeartbeats 1000000 in
theorem refUnpad_any (l : List UInt8) (n : Int) (w : World) (hl : l.length ≤ 3512) :
    Calls Try.prog 14 #[.string ⟨l.toArray⟩, .int .i64 n] w fun e w' => Below w.heap.size w w' ∧
      e = .returned (.tuple #[.string ⟨(unpadOf l n).1.toArray⟩, .int .i64 (unpadOf l n).2]) := by
  have hR : ∃ R, unpadOf l n = R := ⟨_, rfl⟩
  obtain ⟨R, hR⟩ := hR
  rw [hR]
  unfold unpadOf at hR
  cases h : payOk n
  · rw [h, if_neg (by decide)] at hR
    subst hR
    exact refUnpad_no l n w h
  · rw [h, if_pos rfl] at hR
    unfold payOk at h
    have h := of_decide_eq_true h
    obtain ⟨m, rfl⟩ : ∃ m : Nat, n = m := ⟨n.toNat, by omega⟩
    rw [Int.toNat_natCast] at hR
    have hm : (m : Int) ≤ 1099511627776 := h.2
    have HB := Lib.hid (fun w => refBlocks_ok m w h.2)
    clear h
    have hb := blkN_eq m
    have hp := padN_lt m
    have hb2 : (blkN m : Int) ≤ 2147483650 := by omega
    by_cases h1 : l.length < m + padN m
    · rw [if_pos h1] at hR
      subst hR
      rw [← hb] at h1
      clear hb hp
      generalize blkN m = b at *
      have h1' : (l.length : Int) < 512 * (b : Int) := by omega
      go_enter Try.func14, Try.ntmps14
      go_wp2_with fail
      refine (HB.out w).mono ?_
      rintro e w' ⟨rfl, rfl⟩
      go_wp2
      go_ret2
      exact ⟨Below.refl _ _, rfl⟩
    · rw [if_neg h1] at hR
      have hge : 512 * (blkN m : Int) ≤ l.length := by omega
      by_cases h2 : 512 * blkN m < l.length
      · have hne : l.drop m ≠ List.replicate (padN m) 0 := by
          intro he
          have := congrArg List.length he
          rw [List.length_drop, List.length_replicate] at this
          omega
        rw [if_neg hne] at hR
        subst hR
        clear hb hp hne h1
        generalize blkN m = b at *
        have h2' : 512 * (b : Int) < l.length := by omega
        go_enter Try.func14, Try.ntmps14
        go_wp2_with fail
        refine (HB.out w).mono ?_
        rintro e w' ⟨rfl, rfl⟩
        go_wp2_with fail
        refine (HB.out w).mono ?_
        rintro e w' ⟨rfl, rfl⟩
        go_wp2
        go_ret2
        exact ⟨Below.refl _ _, rfl⟩
      · have hml : (m : Int) ≤ l.length := by omega
        have hdl : (l.drop m).length = padN m := by rw [List.length_drop]; omega
        have hcond : (l.drop m = List.replicate (padN m) 0) ↔ txtBlank (l.drop m) = true := by
          unfold txtBlank
          rw [blank_rep, hdl]
        have HC := Lib.hid (fun w => refTBlank_any (l.drop m) w (by omega))
        have HR := Lib.hid (show (if txtBlank (l.drop m) = true then (l.take m, 0) else ([], 2)) = R by rw [← hR]; split <;> split <;> simp_all)
        clear hcond hR hdl hb hp
        generalize hd : l.drop m = d at *
        have hcut : (l.drop m).take (l.length - m) = d := by rw [take_drop_len]; exact hd
        have Hd := Lib.hid hd
        clear hd
        generalize txtBlank d = bl at *
        have h2' : (l.length : Int) ≤ 512 * (blkN m : Int) := by omega
        clear h1 h2
        generalize blkN m = b at *
        cases bl
        · have HR := Lib.hid (show ([], 2) = R from HR.out)
          go_enter Try.func14, Try.ntmps14
          go_wp2_with fail
          refine (HB.out w).mono ?_
          rintro e w' ⟨rfl, rfl⟩
          go_wp2_with fail
          refine (HB.out w).mono ?_
          rintro e w' ⟨rfl, rfl⟩
          go_wp2_with fail
          refine (HC.out w).mono ?_
          rintro e w' ⟨rfl, rfl⟩
          go_wp2
          go_ret2
          rw [← HR.out]
          exact ⟨Below.refl _ _, rfl⟩
        · have HR := Lib.hid (show (l.take m, 0) = R from HR.out)
          go_enter Try.func14, Try.ntmps14
          go_wp2_with fail
          refine (HB.out w).mono ?_
          rintro e w' ⟨rfl, rfl⟩
          go_wp2_with fail
          refine (HB.out w).mono ?_
          rintro e w' ⟨rfl, rfl⟩
          go_wp2_with fail
          refine (HC.out w).mono ?_
          rintro e w' ⟨rfl, rfl⟩
          go_wp2
          go_ret2
          rw [← HR.out]
          exact ⟨Below.refl _ _, rfl⟩

/-- The chapter's examples. -/
theorem awake9_any (w : World) :
    Calls Try.prog 9 #[] w fun e w' => Below w.heap.size w w' ∧ e = .returned (.bool true) := by
  have H1 := Lib.hid (fun w => blocks_ok 513 w (by decide))
  have H2 := Lib.hid (fun w => padding_ok 513 w (by decide))
  rw [show blkN 513 = 2 from by decide] at H1
  rw [show padN 513 = 511 from by decide] at H2
  have H3 := Lib.hid (end_any w)
  have hz : (List.replicate 1024 (0 : UInt8)).length = 1024 := by rw [List.length_replicate]
  generalize List.replicate 1024 (0 : UInt8) = z at *
  have e1 : ((z.length : Int) == 1024) = true := by rw [hz]; rfl
  clear hz
  go_enter Try.func9, Try.ntmps9
  go_wp2_with fail
  refine (H1.out w).mono ?_
  rintro e w' ⟨rfl, rfl⟩
  go_wp2_with fail
  refine (H2.out w).mono ?_
  rintro e w' ⟨rfl, rfl⟩
  go_wp2_with fail
  refine H3.out.mono ?_
  rintro e w1 ⟨hb, rfl⟩
  have Hb := Lib.hid hb
  clear hb
  go_wp2
  go_ret
  exact ⟨Hb.out, rfl⟩
end Go.Proofs.Ytoigmmmpplghjaa
