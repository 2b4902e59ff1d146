/-
  Contracts of Seal and Blank of package sums, of the document's Right and Seal, of the block that the statements make.
-/
import Derived.Test.YtlloaalaldomkaaDoorSumR
import Derived.Test.YtlloaalaldomkaaDoorDrew
import Derived.Laws.CopyRow
namespace Go.Proofs.YtlloaalaldomkaaDoor
open Go.ChangeShapes Go.WideShapes Go.ChangeAt Go.RowKit

theorem below_setRow {B g : Nat} {w0 w : World} (hb : Below B w0 w) (hBg : B ≤ g) (cs : Array Value) : Below B w0 (w.setRow g cs) :=
  hb.trans ⟨rfl, rfl, rfl, by simp, fun i hi => setRow_other w g i cs (by omega)⟩

/-- The ends of a text. -/
theorem slice_to (l : List UInt8) (n : Nat) (h : n ≤ l.length) (W : World) : (Instr.slice 9 (.string ⟨l.toArray⟩) none (some (.int .i64 n)) none).run Tryd.prog W = .ok (.string ⟨(l.take n).toArray⟩) W := by
  have hr := run_slice_string_to_if (P := Tryd.prog) (w := W) 9 ⟨l.toArray⟩ .i64 n Tryd.underlying9
  rw [if_pos ⟨by omega, by simp [ByteArray.size]; omega⟩, str_extract, List.drop_zero, Nat.sub_zero, Int.toNat_natCast] at hr
  exact hr
theorem slice_from (l : List UInt8) (n : Nat) (h : n ≤ l.length) (W : World) : (Instr.slice 9 (.string ⟨l.toArray⟩) (some (.int .i64 n)) none none).run Tryd.prog W = .ok (.string ⟨(l.drop n).toArray⟩) W := by
  have hr := run_slice_string_from_if (P := Tryd.prog) (w := W) 9 ⟨l.toArray⟩ .i64 n Tryd.underlying9
  rw [if_pos ⟨by omega, by simp [ByteArray.size]; omega⟩, str_extract, Int.toNat_natCast, List.take_of_length_le (by rw [List.length_drop]; simp [ByteArray.size])] at hr
  exact hr

theorem oct7 (v : Int) (h : 0 ≤ v) (h2 : v ≤ 130560) : v / 2 ^ (3 * (7 - 1)) = 0 := by
  have : (2 : Int) ^ (3 * (7 - 1)) = 262144 := by decide
  rw [this]; omega

theorem sSeal_any (l : List UInt8) (w : World) (h : l.length = 512) :
    Calls Tryd.prog 35 #[.string ⟨l.toArray⟩] w fun e w' => Below w.heap.size w w' ∧ e = .returned (.tuple #[.string ⟨(sealOf l).toArray⟩, .int .i64 0]) := by
  have hb := bSum_pos l h
  have Hs := Lib.hid (sSum_any l w)
  have Ho := Lib.hid (fun w1 => octal_any (bSum false l) 7 w1 (by omega) (by omega) hb.1 (oct7 _ hb.1 hb.2) (by omega))
  have hq : sSum false l = (bSum false l, 0) := if_pos h
  rw [hq] at Hs
  have Hq := Lib.hid (show sealOf l = l.take 148 ++ (octStr (bSum false l) 7 ++ 32 :: l.drop 156) by unfold sealOf sealField; rw [List.append_assoc]; rfl)
  have h1 : ∀ W : World, (Instr.slice 9 (.string ⟨l.toArray⟩) none (some (.int .i64 148)) none).run Tryd.prog W = .ok (.string ⟨(l.take 148).toArray⟩) W := slice_to l 148 (by omega)
  have h2 : ∀ W : World, (Instr.slice 9 (.string ⟨l.toArray⟩) (some (.int .i64 156)) none none).run Tryd.prog W = .ok (.string ⟨(l.drop 156).toArray⟩) W := slice_from l 156 (by omega)
  have hx : (l.take 148).length ≤ 512 := by rw [List.length_take]; omega
  have hy : (l.drop 156).length ≤ 512 := by rw [List.length_drop]; omega
  have hz : (octStr (bSum false l) 7).length ≤ 512 := by simp [octStr]
  generalize l.take 148 = x at *
  generalize l.drop 156 = y at *
  generalize octStr (bSum false l) 7 = z at *
  generalize sealOf l = R at *
  generalize bSum false l = v at *
  clear h hq hb
  go_enter Tryd.func35, Tryd.ntmps35
  go_wp2_with fail
  refine Hs.out.mono ?_
  rintro e w1 ⟨hb1, rfl⟩
  have Hb1 := Lib.hid hb1
  clear hb1
  go_wp2_with fail
  refine (Ho.out w1).mono ?_
  rintro e w2 ⟨hb2, rfl⟩
  have Hb2 := Lib.hid (Hb1.out.trans (hb2.mono Hb1.out.size))
  clear hb2
  go_wp2_with fail
  go_quiet (fail)
  go_wp2
  go_ret2
  refine ⟨below_drewN Hb2.out _, ?_⟩
  rw [Hq.out]
  simp

theorem sSeal_no (l : List UInt8) (w : World) (h : l.length ≠ 512) :
    Calls Tryd.prog 35 #[.string ⟨l.toArray⟩] w fun e w' => Below w.heap.size w w' ∧ e = .returned (.tuple #[.string ⟨([] : List UInt8).toArray⟩, .int .i64 1]) := by
  have Hs := Lib.hid (sSum_any l w)
  have hq : sSum false l = (0, 1) := if_neg h
  rw [hq] at Hs
  clear h hq
  go_enter Tryd.func35, Tryd.ntmps35
  go_wp2_with fail
  refine Hs.out.mono ?_
  rintro e w1 ⟨hb1, rfl⟩
  have Hb1 := Lib.hid hb1
  clear hb1
  go_wp2
  go_ret2
  exact ⟨Hb1.out, rfl⟩

set_option maxRecDepth 100000 in
theorem refRight_any (l : List UInt8) (w : World) (h : l.length = 512) :
    Calls Tryd.prog 21 #[.string ⟨l.toArray⟩] w fun e w' => w = w' ∧ e = .returned (.bool (sRight l)) := by
  obtain ⟨b, t, hf, htl, hb⟩ := fieldOf_parts l h
  have hq : sRight l = ((sRead b t).2 && (((sRead b t).1 == bSum false l) || ((sRead b t).1 == bSum true l))) := by unfold sRight; rw [hf, decide_eq_true h]; rfl
  have Hr := Lib.hid (refRead_any (b :: t) w (by unfold maxLen; simp; omega))
  have Hu := Lib.hid (refSum_any l false w h)
  have Hg := Lib.hid (refSum_any l true w h)
  have hsl : ∀ W : World, (Instr.slice 9 (.string ⟨l.toArray⟩) (some (.int .i64 148)) (some (.int .i64 156)) none).run Tryd.prog W = .ok (.string ⟨(b :: t).toArray⟩) W := by
    intro W
    rw [run_slice_string W _ _ _ _ _ _ Tryd.underlying9 (by omega) (by omega) (by simp [ByteArray.size]; omega)]
    have he := str_extract l 148 156
    change _ = (⟨(fieldOf l).toArray⟩ : ByteArray) at he
    rw [hf] at he
    exact congrArg (fun s => Result.ok (Value.string s) W) he
  have e1 : ((l.length : Int) != 512) = false := by simp [h]
  have hl1 : 148 < l.length := by omega
  by_cases h2 : (b.toNat : Int) ≤ 127
  · have e2 : (l[148].toNat : Int) < (128 : Int) := by rw [hb]; omega
    by_cases h3 : (octRead (b :: t)).2 = 0
    · have Hq := Lib.hid (show sRight l = (((octRead (b :: t)).1 == bSum false l) || ((octRead (b :: t)).1 == bSum true l)) by rw [hq, show sRead b t = ((octRead (b :: t)).1, true) from if_pos ⟨h3, h2⟩]; rfl)
      have e3 : ((octRead (b :: t)).2 == 0) = true := by simp [h3]
      clear h3 hq h hf hb htl h2
      generalize bSum false l = U at *
      generalize bSum true l = G at *
      generalize sRight l = R at *
      generalize octRead (b :: t) = v at *
      obtain ⟨v, ve⟩ := v
      by_cases h4 : (v == U) = true
      · obtain rfl : v = U := by simpa using h4
        clear h4
        go_enter Tryd.func21, Tryd.ntmps21
        go_wp2_with fail
        refine Hr.out.mono ?_
        rintro e w' ⟨rfl, rfl⟩
        go_wp2_with fail
        refine Hu.out.mono ?_
        rintro e w' ⟨rfl, rfl⟩
        go_wp2
        go_ret
        rw [Hq.out]
        simp
      · have e4 : (v == U) = false := by simpa using h4
        clear h4
        have Hq2 := Lib.hid (show R = (v == G) by rw [Hq.out, e4]; rfl)
        go_enter Tryd.func21, Tryd.ntmps21
        go_wp2_with fail
        refine Hr.out.mono ?_
        rintro e w' ⟨rfl, rfl⟩
        go_wp2_with fail
        refine Hu.out.mono ?_
        rintro e w' ⟨rfl, rfl⟩
        go_wp2_with fail
        refine Hg.out.mono ?_
        rintro e w' ⟨rfl, rfl⟩
        go_wp2
        go_ret
        rw [Hq2.out]
        exact ⟨rfl, rfl⟩
    · have Hq := Lib.hid (show sRight l = false by rw [hq, show sRead b t = (0, false) from if_neg (fun e => h3 e.1)]; rfl)
      have e3 : ((octRead (b :: t)).2 == 0) = false := by rw [beq_eq_false_iff_ne]; exact h3
      clear h3 hq h hf hb htl h2
      generalize octRead (b :: t) = v at *
      go_enter Tryd.func21, Tryd.ntmps21
      go_wp2_with fail
      refine Hr.out.mono ?_
      rintro e w' ⟨rfl, rfl⟩
      go_wp2
      go_ret
      rw [Hq.out]
      exact ⟨rfl, rfl⟩
  · have e2 : (128 : Int) ≤ (l[148].toNat : Int) := by rw [hb]; omega
    have Hq := Lib.hid (show sRight l = false by rw [hq, show sRead b t = (0, false) from if_neg (fun e => h2 e.2)]; rfl)
    clear hq h hf hb htl h2
    go_enter Tryd.func21, Tryd.ntmps21
    go_wp2
    go_ret
    rw [Hq.out]
    exact ⟨rfl, rfl⟩

theorem digit_of' (k : Nat) (h : k < 8) : (List.drop k [48, 49, 50, 51, 52, 53, 54, 55]).take 1 = [(UInt8.ofNat (48 + k))] := by
  have : k = 0 ∨ k = 1 ∨ k = 2 ∨ k = 3 ∨ k = 4 ∨ k = 5 ∨ k = 6 ∨ k = 7 := by omega
  rcases this with h | h | h | h | h | h | h | h <;> subst h <;> rfl

theorem refSeal_any (l : List UInt8) (w : World) (h : l.length = 512) :
    Calls Tryd.prog 14 #[.string ⟨l.toArray⟩] w fun e w' => Below w.heap.size w w' ∧ e = .returned (.string ⟨(sealOf l).toArray⟩) := by
  have hb := bSum_pos l h
  have Hs := Lib.hid (refSum_any l false w h)
  have Hq := Lib.hid (show sealOf l = l.take 148 ++ (refOct 6 (bSum false l) [] ++ 0 :: 32 :: l.drop 156) by unfold sealOf; rw [sealField_eq, refOct_digs]; simp)
  have h1 : ∀ W : World, (Instr.slice 9 (.string ⟨l.toArray⟩) none (some (.int .i64 148)) none).run Tryd.prog W = .ok (.string ⟨(l.take 148).toArray⟩) W := slice_to l 148 (by omega)
  have h2 : ∀ W : World, (Instr.slice 9 (.string ⟨l.toArray⟩) (some (.int .i64 156)) none none).run Tryd.prog W = .ok (.string ⟨(l.drop 156).toArray⟩) W := slice_from l 156 (by omega)
  have hx : (l.take 148).length ≤ 512 := by rw [List.length_take]; omega
  have hy : (l.drop 156).length ≤ 512 := by rw [List.length_drop]; omega
  generalize l.take 148 = x at *
  generalize l.drop 156 = y at *
  generalize sealOf l = R at *
  generalize bSum false l = v at *
  clear h
  go_enter Tryd.func14, Tryd.ntmps14
  go_wp2_with fail
  refine Hs.out.mono ?_
  rintro e w' ⟨rfl, rfl⟩
  go_wp2
  go_loop [3, 4, 5] (fun n d i => ∃ k : Nat, k ≤ 6 ∧ i = .int .i64 k ∧ ∃ (z : Int) (t : List UInt8), 0 ≤ z ∧ z ≤ 130560 ∧ n = .int .i64 z ∧ d = .string ⟨t.toArray⟩ ∧ t.length = k ∧ refOct (6 - k) z t = refOct 6 v []) (fun _ _ i => 6 - (intOf i).toNat)
  case atStart => exact ⟨0, Nat.zero_le _, rfl, v, [], hb.1, hb.2, rfl, rfl, rfl, rfl⟩
  case round =>
    obtain ⟨k, hk, rfl, z, t, hz0, hz1, rfl, rfl, htl, hs2⟩ := hrel
    have Hs2 := Lib.hid hs2
    have Htl := Lib.hid htl
    have hlen : t.length ≤ 512 := by omega
    clear hs2 htl
    by_cases hlt : k < 6
    · have Hn := Lib.hid (show refOct (6 - (k + 1)) (z / 8) (UInt8.ofNat (48 + z % 8).toNat :: t) = refOct 6 v [] by
        rw [← Hs2.out, show 6 - k = (6 - (k + 1)) + 1 by omega, refOct_succ])
      have hm0 : 0 ≤ z % 8 := by omega
      have hm1 : z % 8 < 8 := by omega
      have hsl : ∀ W : World, (Instr.slice 9 (.string ⟨#[48, 49, 50, 51, 52, 53, 54, 55]⟩) (some (.int .i64 (z % 8))) (some (.int .i64 (z % 8 + 1))) none).run Tryd.prog W = .ok (.string ⟨[UInt8.ofNat (48 + z % 8).toNat].toArray⟩) W := by
        intro W
        rw [run_slice_string W _ _ _ _ _ _ Tryd.underlying9 hm0 (by omega) (by simp [ByteArray.size]; omega)]
        have he := str_extract [48, 49, 50, 51, 52, 53, 54, 55] (z % 8).toNat (z % 8 + 1).toNat
        rw [show (z % 8 + 1).toNat - (z % 8).toNat = 1 by omega, digit_of' _ (by omega), show 48 + (z % 8).toNat = (48 + z % 8).toNat by omega] at he
        exact congrArg (fun s => Result.ok (Value.string s) W) he
      clear h1 h2
      go_wp2
      go_round
      case rel => exact ⟨k + 1, by omega, by go_num, z / 8, _, by omega, by omega, rfl, rfl, by simp [Htl.out], Hn.out⟩
      case measure => simp [intOf]; omega
    · have Hn := Lib.hid (show refOct 6 v [] = t by rw [← Hs2.out, show 6 - k = 0 by omega]; rfl)
      go_wp2
      go_quiet (fail)
      go_wp2
      go_ret
      refine ⟨below_drewN (Below.refl _ _) _, ?_⟩
      rw [Hq.out, Hn.out]
      simp
end Go.Proofs.YtlloaalaldomkaaDoor
