/-
  Texts of this seat's proof, joined: their order is that of the build.
-/
import Derived.Test.YtjmmecokfijglaaGreatDoorJB01
import Derived.Test.YtjmmecokfijglaaGreatDoorRows
import Derived.Test.YtjmmecokfijglaaGreatDoorJB09
import Derived.Test.YtjmmecokfijglaaGreatDoorJB04
import Derived.WalkSmall
import Derived.Laws.Rows
import Derived.Test.YtjmmecokfijglaaGreatDoorJB08
namespace Go.Proofs.YtjmmecokfijglaaGreatDoor
open Go.ChangeShapes Go.WideShapes Go.ChangeAt Go.RowKit

/-- The library's table of powers of ten is as its text lays it. -/
def TabOk (w : World) : Prop := Lib.TabIs Tryz.prog w "internal/strconv.uint64pow10" .u64 Lib.pow10Tab
theorem tab_named : Tryz.prog.globalNamed "internal/strconv.uint64pow10" = some 1 := by kernel_rfl
theorem TabOk.lt {w : World} (h : TabOk w) : 1 < w.heap.size := by
  rcases Nat.lt_or_ge 1 w.heap.size with hl | hl
  · exact hl
  · exfalso
    unfold TabOk Lib.TabIs World.var? at h
    rw [tab_named] at h
    simp only [Option.bind_some] at h
    rw [Array.getElem?_eq_none hl] at h
    cases h
theorem TabOk.below {B : Nat} {w w' : World} (h : TabOk w) (hb : Below B w w') (hB : w.heap.size ≤ B) : TabOk w' :=
  var?_below hb tab_named (Nat.lt_of_lt_of_le h.lt hB) h

theorem below_grow (w : World) (k : Nat) (os : Array Obj) : Below w.heap.size w (Go.Sort.grow (w.drewN k) os) :=
  ⟨rfl, rfl, rfl, by show _ ≤ (w.heap ++ os).size; simp, fun i hi => by show (w.heap ++ os)[i]? = w.heap[i]?; rw [Array.getElem?_append_left hi]⟩

theorem itoa_any (n : Int) (w : World) (h0 : 0 ≤ n) (h1 : n ≤ 9223372036854775807) (ht : TabOk w) :
    Calls Tryz.prog 131 #[.int .i64 n] w fun e w' => Below w.heap.size w w' ∧ e = .returned (.string ⟨(Lib.decDigits n.toNat).toArray⟩) :=
  (Tryz.strconv_Itoa n (by omega) h1 w ht).mono fun e w' ⟨he, k, os, hw⟩ => ⟨by rw [hw]; exact below_grow w k os, by rw [he]; unfold Lib.itoa; rw [if_neg (by omega)]⟩
end Go.Proofs.YtjmmecokfijglaaGreatDoor
namespace Go.Proofs.YtjmmecokfijglaaGreatDoor
open Go.ChangeShapes Go.WideShapes Go.ChangeAt Go.RowKit

theorem areDig_any (l : List UInt8) (m : Int) (w : World) (hl : l.length ≤ maxLen) :
    Calls Tryz.prog 180 #[.string ⟨l.toArray⟩, .int .i64 m] w fun e w' => w = w' ∧ e = .returned (.bool (areDig l m)) := by
  unfold maxLen at hl
  by_cases hnil : l = []
  · subst hnil
    have Hq := Lib.hid (show areDig [] m = false from rfl)
    go_enter Tryz.func180, Tryz.ntmps180
    go_wp2
    go_ret
    rw [Hq.out]
    exact ⟨rfl, rfl⟩
  · have hne : l.isEmpty = false := by simpa using hnil
    by_cases hm : (l.length : Int) ≤ m
    · have Hq := Lib.hid (show areDig l m = allDig l by unfold areDig; rw [decide_eq_true ⟨hnil, hm⟩]; rfl)
      go_enter Tryz.func180, Tryz.ntmps180
      go_wp2
      go_loop [16] (fun i => ∃ k : Nat, k ≤ l.length ∧ i = .int .i64 k ∧ allDig (l.drop k) = allDig l) (fun i => l.length - (intOf i).toNat)
      case atStart => exact ⟨0, Nat.zero_le _, rfl, rfl⟩
      case round =>
        obtain ⟨k, hk, rfl, hs⟩ := hrel
        have Hs := Lib.hid hs
        clear hs
        by_cases hlt : k < l.length
        · have Hd := Lib.hid (show allDig l = (isDig l[k] && allDig (l.drop (k + 1))) by rw [← Hs.out, drop_at hlt]; rfl)
          have hb := byte_lt l[k]
          by_cases h1 : (l[k].toNat : Int) < 48
          · have Hz := Lib.hid (show allDig l = false by rw [Hd.out, show isDig l[k] = false by simp [isDig]; omega, Bool.false_and])
            go_wp2
            go_ret
            rw [Hq.out, Hz.out]
            exact ⟨rfl, rfl⟩
          · by_cases h2 : 57 < (l[k].toNat : Int)
            · have Hz := Lib.hid (show allDig l = false by rw [Hd.out, show isDig l[k] = false by simp [isDig]; omega, Bool.false_and])
              go_wp2
              go_ret
              rw [Hq.out, Hz.out]
              exact ⟨rfl, rfl⟩
            · have Hz := Lib.hid (show allDig (l.drop (k + 1)) = allDig l by rw [Hd.out, isDig_mk (by omega) (by omega), Bool.true_and])
              go_wp2
              go_round
              case rel => exact ⟨k + 1, by omega, by go_num, Hz.out⟩
              case measure => simp [intOf]; omega
        · have Hz := Lib.hid (show allDig l = true by rw [← Hs.out, List.drop_of_length_le (by omega)]; rfl)
          go_wp2
          go_ret
          rw [Hq.out, Hz.out]
          exact ⟨rfl, rfl⟩
    · have Hq := Lib.hid (show areDig l m = false by unfold areDig; rw [decide_eq_false (fun e => hm e.2)]; rfl)
      have hm2 : m < (l.length : Int) := by omega
      clear hm
      go_enter Tryz.func180, Tryz.ntmps180
      go_wp2
      go_ret
      rw [Hq.out]
      exact ⟨rfl, rfl⟩

theorem value_any (l : List UInt8) (w : World) (hl : l.length ≤ 16) (hd : allDig l = true) :
    Calls Tryz.prog 181 #[.string ⟨l.toArray⟩] w fun e w' => w = w' ∧ e = .returned (.int .i64 (numD 0 l)) := by
  have HD := Lib.hid hd
  clear hd
  go_enter Tryz.func181, Tryz.ntmps181
  go_wp2
  go_loop [3, 7] (fun v i => ∃ k : Nat, k ≤ l.length ∧ i = .int .i64 k ∧ v = .int .i64 (numD 0 (l.take k))) (fun _ i => l.length - (intOf i).toNat)
  case atStart => exact ⟨0, Nat.zero_le _, rfl, rfl⟩
  case round =>
    obtain ⟨k, hk, rfl, rfl⟩ := hrel
    have hv := numD_bd16 (l.take k) (allDig_take l k HD.out) (by rw [List.length_take]; omega)
    obtain ⟨hv0, hv1⟩ := hv
    by_cases hlt : k < l.length
    · have hb : 48 ≤ (l[k].toNat : Int) ∧ (l[k].toNat : Int) ≤ 57 := by
        have := allDig_take l (k + 1) HD.out
        rw [List.take_succ_eq_append_getElem hlt, allDig_append] at this
        have h2 : isDig l[k] = true := by
          have := (Bool.and_eq_true _ _ ▸ this).2
          simpa [allDig] using this
        exact isDig_true h2
      obtain ⟨hb0, hb1⟩ := hb
      have Hs := Lib.hid (show numD 0 (l.take (k + 1)) = numD 0 (l.take k) * 10 + ((l[k].toNat : Int) - 48) by rw [List.take_succ_eq_append_getElem hlt, numD_append]; rfl)
      generalize numD 0 (l.take k) = X at *
      go_wp2
      go_round
      case rel => exact ⟨k + 1, by omega, by go_num, by rw [Hs.out]⟩
      case measure => simp [intOf]; omega
    · have Hs := Lib.hid (show numD 0 (l.take k) = numD 0 l by rw [List.take_of_length_le (by omega)])
      go_wp2
      go_ret
      rw [Hs.out]
      exact ⟨rfl, rfl⟩

theorem trimN_length (z : List UInt8) : (trimN z).length ≤ z.length := by
  unfold trimN Lib.trimRightB
  rw [List.length_reverse]
  have := (List.dropWhile_sublist (l := z.reverse) (fun b : UInt8 => b == 48)).length_le
  rw [List.length_reverse] at this; omega
theorem dec2_length (s n : Int) (hs : s ≤ 9007199254740991) : (dec2 s n).length ≤ 100 := by
  unfold dec2
  have h1 := decDigits_length16 s.toNat (by omega)
  have h2 := trimN_length (digN 9 n.toNat)
  rw [digN_length] at h2
  rw [List.length_append]
  split
  · simp; omega
  · simp; omega

theorem decimal_any (s n : Int) (w : World) (hs : 0 ≤ s ∧ s ≤ 9007199254740991) (hn : 0 ≤ n ∧ n ≤ 999999999) (ht : TabOk w) :
    Calls Tryz.prog 185 #[.agg #[.int .i64 s, .int .i64 n]] w fun e w' => Below w.heap.size w w' ∧ e = .returned (.string ⟨(dec2 s n).toArray⟩) := by
  obtain ⟨hs0, hs1⟩ := hs
  obtain ⟨hn0, hn1⟩ := hn
  have ht1 : TabOk (w.alloc (.cells #[.int .i64 s, .int .i64 n] 32)) := ht.below ((Below.refl _ _).alloc (Nat.le_refl _) _) (Nat.le_refl _)
  have Hi := Lib.hid (itoa_any s _ hs0 (by omega) ht1)
  have Hj := Lib.hid (fun w1 => itoa_any (1000000000 + n) w1 (by omega) (by omega))
  have Ht1 := Lib.hid ht1
  have Hp := Lib.hid (part_digits n hn0 hn1)
  have hl1 := decDigits_length16 s.toNat (by omega)
  have hl2 : (Lib.decDigits (1000000000 + n).toNat).length = 10 := by
    have h2 : (10 : Nat) ^ 9 = 1000000000 := by decide
    have := decDigits_one 9 n.toNat (by omega)
    rw [show (1000000000 + n).toNat = 10 ^ 9 + n.toNat by omega, this, List.length_cons, digN_length]
  have hl3 : (digN 9 n.toNat).length = 9 := digN_length 9 _
  have Hq := Lib.hid (show dec2 s n = Lib.decDigits s.toNat ++ if n = 0 then [] else 46 :: trimN (digN 9 n.toNat) from rfl)
  clear ht ht1
  generalize Lib.decDigits s.toNat = x at *
  generalize Lib.decDigits (1000000000 + n).toNat = y at *
  generalize digN 9 n.toNat = z at *
  by_cases h : n = 0
  · have Hq2 := Lib.hid (show dec2 s n = x by rw [Hq.out, if_pos h, List.append_nil])
    subst h
    go_enter Tryz.func185, Tryz.ntmps185
    go_wp2_with fail
    refine Hi.out.mono ?_
    rintro e w1 ⟨hb, rfl⟩
    obtain ⟨H0, hb, hz⟩ := box1 hb
    obtain ⟨c0, c1, f0, f1⟩ := two_cells H0
    have Hb := Lib.hid hb
    clear hb H0
    go_wp2
    go_ret
    rw [Hq2.out]
    exact ⟨Hb.out, rfl⟩
  · have Hq2 := Lib.hid (show dec2 s n = x ++ 46 :: trimN z by rw [Hq.out, if_neg h])
    have e1 : (n == 0) = false := by simpa using h
    clear h
    have htz : (trimN z).length ≤ 9 := by
      unfold trimN Lib.trimRightB
      rw [List.length_reverse]
      have := (List.dropWhile_sublist (l := z.reverse) (fun b : UInt8 => b == 48)).length_le
      rw [List.length_reverse] at this; omega
    have Hc : ∀ w1 : World, Calls Tryz.prog 213 #[.string ⟨z.toArray⟩, .string ⟨#[48]⟩] w1 fun e w' => w1 = w' ∧ e = .returned (.string ⟨(trimN z).toArray⟩) := fun w1 =>
      (Tryz.strings_TrimRight_one ⟨z.toArray⟩ 48 (by decide) w1 (by simp [ByteArray.size]; omega)).mono fun e w' ⟨he, hw⟩ => ⟨hw.symm, he⟩
    have Hc := Lib.hid Hc
    generalize trimN z = u at *
    have hsl : ∀ W : World, (Instr.slice 9 (.string ⟨y.toArray⟩) (some (.int .i64 1)) none none).run Tryz.prog W = .ok (.string ⟨z.toArray⟩) W := by
      intro W
      have hr := run_slice_string_from_if (P := Tryz.prog) (w := W) 9 ⟨y.toArray⟩ .i64 1 Tryz.underlying9
      rw [if_pos ⟨by omega, by simp [ByteArray.size]; omega⟩, str_extract, show (1 : Int).toNat = 1 from rfl, List.take_of_length_le (by rw [List.length_drop]; simp [ByteArray.size]), Hp.out] at hr
      exact hr
    go_enter Tryz.func185, Tryz.ntmps185
    go_wp2_with fail
    refine Hi.out.mono ?_
    rintro e w1 ⟨hb, rfl⟩
    have Ht2 := Lib.hid (Ht1.out.below hb (Nat.le_refl _))
    obtain ⟨H0, hb, hz⟩ := box1 hb
    obtain ⟨c0, c1, f0, f1⟩ := two_cells H0
    have Hb := Lib.hid hb
    clear hb H0
    go_wp2_with fail
    refine (Hj.out w1 Ht2.out).mono ?_
    rintro e w2 ⟨hb2, rfl⟩
    have Hb2 := Lib.hid (Hb.out.trans (hb2.mono Hb.out.size))
    clear hb2 c0 c1 f0 f1
    go_wp2_with fail
    refine (Hc.out w2).mono ?_
    rintro e w' ⟨rfl, rfl⟩
    go_wp2
    go_ret
    rw [Hq2.out]
    exact ⟨Hb2.out, by simp⟩

/-- The text of a right stamp. -/
theorem stText_ok (s n : Int) (w : World) (h : stRight s n = true) (ht : TabOk w) :
    Calls Tryz.prog 142 #[.agg #[.int .i64 s, .int .i64 n]] w fun e w' => Below w.heap.size w w' ∧ e = .returned (.tuple #[.string ⟨(stText s n).toArray⟩, .int .i64 0]) := by
  have hbd := stRight_true h
  obtain ⟨b1, b2, b3, b4⟩ := hbd
  have Hr := Lib.hid (stRight_any s n)
  rw [h] at Hr
  have Ht := Lib.hid ht
  clear h ht
  by_cases hs : s < 0
  · have Hq := Lib.hid (show stText s n = 45 :: dec2 (stOpp s n).1 (stOpp s n).2 from if_pos hs)
    have Ho := Lib.hid (fun w1 => stOpp_any s n w1 ⟨b1, by omega⟩ ⟨b3, b4⟩)
    have hb : 0 ≤ (stOpp s n).1 ∧ (stOpp s n).1 ≤ 9007199254740991 ∧ 0 ≤ (stOpp s n).2 ∧ (stOpp s n).2 ≤ 999999999 := by
      unfold stOpp; split <;> simp only <;> omega
    have Hd := Lib.hid (fun w1 => decimal_any (stOpp s n).1 (stOpp s n).2 w1 ⟨hb.1, hb.2.1⟩ hb.2.2)
    have hlen : (dec2 (stOpp s n).1 (stOpp s n).2).length ≤ 100 := dec2_length _ _ (by omega)
    generalize dec2 (stOpp s n).1 (stOpp s n).2 = x at *
    generalize stOpp s n = o at *
    obtain ⟨o1, o2⟩ := o
    clear hb
    go_enter Tryz.func142, Tryz.ntmps142
    go_wp2_with fail
    refine (Hr.out _).mono ?_
    rintro e w1 ⟨hb, rfl⟩
    obtain ⟨H0, hb, hz⟩ := box1 hb
    obtain ⟨c0, c1, f0, f1⟩ := two_cells H0
    have Hb := Lib.hid hb
    clear hb H0
    go_wp2_with fail
    refine (Ho.out w1).mono ?_
    rintro e w2 ⟨hb2, rfl⟩
    have Hb2 := Lib.hid (Hb.out.trans (hb2.mono Hb.out.size))
    clear hb2
    have Ht2 := Lib.hid (Ht.out.below Hb2.out (Nat.le_refl _))
    go_wp2_with fail
    refine (Hd.out w2 Ht2.out).mono ?_
    rintro e w3 ⟨hb3, rfl⟩
    have Hb3 := Lib.hid (Hb2.out.trans (hb3.mono Hb2.out.size))
    clear hb3
    go_wp2
    go_ret2
    rw [Hq.out]
    exact ⟨Hb3.out, by simp⟩
  · have Hq := Lib.hid (show stText s n = dec2 s n from if_neg hs)
    have Hd := Lib.hid (fun w1 => decimal_any s n w1 ⟨by omega, b2⟩ ⟨b3, b4⟩)
    go_enter Tryz.func142, Tryz.ntmps142
    go_wp2_with fail
    refine (Hr.out _).mono ?_
    rintro e w1 ⟨hb, rfl⟩
    obtain ⟨H0, hb, hz⟩ := box1 hb
    obtain ⟨c0, c1, f0, f1⟩ := two_cells H0
    have Hb := Lib.hid hb
    clear hb H0
    have Ht2 := Lib.hid (Ht.out.below Hb.out (Nat.le_refl _))
    go_wp2_with fail
    refine (Hd.out w1 Ht2.out).mono ?_
    rintro e w3 ⟨hb3, rfl⟩
    have Hb3 := Lib.hid (Hb.out.trans (hb3.mono Hb.out.size))
    clear hb3
    go_wp2
    go_ret2
    rw [Hq.out]
    exact ⟨Hb3.out, rfl⟩

theorem stText_no (s n : Int) (w : World) (h : stRight s n = false) :
    Calls Tryz.prog 142 #[.agg #[.int .i64 s, .int .i64 n]] w fun e w' => Below w.heap.size w w' ∧ e = .returned (.tuple #[.string ⟨([] : List UInt8).toArray⟩, .int .i64 1]) := by
  have Hr := Lib.hid (stRight_any s n)
  rw [h] at Hr
  clear h
  go_enter Tryz.func142, Tryz.ntmps142
  go_wp2_with fail
  refine (Hr.out _).mono ?_
  rintro e w1 ⟨hb, rfl⟩
  obtain ⟨H0, hb, hz⟩ := box1 hb
  have Hb := Lib.hid hb
  clear hb H0
  go_wp2
  go_ret2
  exact ⟨Hb.out, rfl⟩

/-- The text ahead of the first stop, and behind it. -/
theorem cutDot_any (l : List UInt8) (w : World) (hl : l.length ≤ maxLen) :
    Calls Tryz.prog 152 #[.string ⟨l.toArray⟩, .string ⟨#[46]⟩] w fun e w' => Below w.heap.size w w' ∧ e = .returned (.tuple #[.string ⟨(aheadOf l).toArray⟩, .string ⟨(behindOf l).toArray⟩, .bool (hasDot l)]) := by
  unfold maxLen at hl
  have inner : Calls Tryz.prog 192 #[.string ⟨l.toArray⟩, .string ⟨#[46]⟩] w fun e w' => Below w.heap.size w w' ∧ e = .returned (.tuple #[.string ⟨(aheadOf l).toArray⟩, .string ⟨(behindOf l).toArray⟩, .bool (hasDot l)]) := by
    have Hi : Calls Tryz.prog 205 #[.string ⟨l.toArray⟩, .string ⟨#[46]⟩] w fun e w' => w = w' ∧ e = .returned (.int .i64 (Lib.indexByte l 46)) :=
      (Tryz.stringslite_Index_one ⟨l.toArray⟩ 46 w).mono fun e w' ⟨he, hw⟩ => ⟨hw.symm, he⟩
    have Hi := Lib.hid Hi
    by_cases h : 46 ∈ l
    · have hi := (index_dot l).1 h
      have hlt := ahead_length l h
      have Ha := Lib.hid (take_ahead l)
      have Hd := Lib.hid (drop_ahead l)
      have Hh := Lib.hid (show hasDot l = true from decide_eq_true h)
      rw [hi] at Hi
      clear hi h
      generalize (aheadOf l).length = k at *
      have h1 : ∀ W : World, (Instr.slice 9 (.string ⟨l.toArray⟩) none (some (.int .i64 (k : Int))) none).run Tryz.prog W = .ok (.string ⟨(aheadOf l).toArray⟩) W := by
        intro W
        have hr := run_slice_string_to_if (P := Tryz.prog) (w := W) 9 ⟨l.toArray⟩ .i64 k Tryz.underlying9
        rw [if_pos ⟨by omega, by simp [ByteArray.size]; omega⟩, str_extract, List.drop_zero, Nat.sub_zero, Int.toNat_natCast, Ha.out] at hr
        exact hr
      have h2 : ∀ W : World, (Instr.slice 9 (.string ⟨l.toArray⟩) (some (.int .i64 ((k : Int) + 1))) none none).run Tryz.prog W = .ok (.string ⟨(behindOf l).toArray⟩) W := by
        intro W
        have hr := run_slice_string_from_if (P := Tryz.prog) (w := W) 9 ⟨l.toArray⟩ .i64 ((k : Int) + 1) Tryz.underlying9
        rw [if_pos ⟨by omega, by simp [ByteArray.size]; omega⟩, str_extract, show ((k : Int) + 1).toNat = k + 1 by omega, List.take_of_length_le (by rw [List.length_drop]; simp [ByteArray.size]), Hd.out] at hr
        exact hr
      have h3 : IntKind.i64.wrap ((k : Int) + 1) = (k : Int) + 1 := IntWalk.i64_in _ (by omega)
      generalize aheadOf l = a at *
      generalize behindOf l = b at *
      go_enter Tryz.func192, Tryz.ntmps192
      go_wp2_with fail
      refine Hi.out.mono ?_
      rintro e w' ⟨rfl, rfl⟩
      go_wp2
      go_quiet (fail)
      go_wp2
      go_ret3
      rw [Hh.out]
      exact ⟨below_drewN (Below.refl _ _) _, rfl⟩
    · have hi := (index_dot l).2 h
      have Ha := Lib.hid (ahead_none l h)
      have Hh := Lib.hid (show hasDot l = false from decide_eq_false h)
      rw [hi] at Hi
      clear hi h
      go_enter Tryz.func192, Tryz.ntmps192
      go_wp2_with fail
      refine Hi.out.mono ?_
      rintro e w' ⟨rfl, rfl⟩
      go_wp2
      go_ret3
      rw [Ha.out.1, Ha.out.2, Hh.out]
      exact ⟨Below.refl _ _, rfl⟩
  have Hin := Lib.hid inner
  clear inner
  generalize aheadOf l = a at *
  generalize behindOf l = b at *
  generalize hasDot l = c at *
  go_enter Tryz.func152, Tryz.ntmps152
  go_wp2_with fail
  refine Hin.out.mono ?_
  rintro e w1 ⟨hb, rfl⟩
  have Hb := Lib.hid hb
  clear hb
  go_wp2
  go_ret3
  exact ⟨Hb.out, rfl⟩

theorem prefix_any (l : List UInt8) (w : World) :
    Calls Tryz.prog 179 #[.string ⟨l.toArray⟩, .string ⟨#[45]⟩] w fun e w' => w = w' ∧ e = .returned (.tuple #[.string ⟨(numOf l).toArray⟩, .bool (minusOf l)]) :=
  (Tryz.strings_CutPrefix ⟨l.toArray⟩ ⟨#[45]⟩ w).mono fun _ _ ⟨he, hw⟩ => ⟨hw.symm, he⟩

theorem repeat_any (w : World) :
    Calls Tryz.prog 182 #[.string ⟨#[48]⟩, .int .i64 9] w fun e w' => Below w.heap.size w w' ∧ e = .returned (.string ⟨(List.replicate 9 (48 : UInt8)).toArray⟩) :=
  (Tryz.strings_Repeat ⟨#[48]⟩ 9 w (by decide) (by decide)).mono fun _ _ ⟨he, hw⟩ => ⟨hw, he⟩

/-- Behind a call: one box more. -/
theorem box1b {w w1 : World} {a b : Value} {t : TypeId} (hb : Below (w.alloc (.cells #[a, b] t)).heap.size (w.alloc (.cells #[a, b] t)) w1) :
    Holds w1 w.heap.size t [a, b] ∧ Below w.heap.size w w1 ∧ w.heap.size < w1.heap.size := box1 hb
theorem Holds.twice {w : World} {g : Nat} {t : TypeId} {a b : Value} (h : Holds w g t [a, b]) (x y : Int) :
    Holds ((w.setCell ⟨g, 0, none⟩ (.int .i64 x)).setCell ⟨g, 1, none⟩ (.int .i64 y)) g t [.int .i64 x, .int .i64 y] := (h.put 0 _).put 1 _

set_option maxHeartbeats 1000000 in
theorem stParse_any (l : List UInt8) (w : World) (hl : l.length ≤ maxLen) :
    Calls Tryz.prog 140 #[.string ⟨l.toArray⟩] w fun e w' => Below w.heap.size w w' ∧ e = .returned (.tuple #[.agg #[.int .i64 (stParse l).1.1, .int .i64 (stParse l).1.2], .int .i64 (stParse l).2]) := by
  have Hp := Lib.hid (prefix_any l)
  have hnl : (numOf l).length ≤ maxLen := by unfold numOf; split <;> (try rw [List.length_drop]) <;> omega
  have Hc := Lib.hid (fun w1 => cutDot_any (numOf l) w1 hnl)
  have hal : (aheadOf (numOf l)).length ≤ maxLen := Nat.le_trans (List.takeWhile_sublist _).length_le hnl
  have hbl : (behindOf (numOf l)).length ≤ maxLen := by have := drop_ahead (numOf l); rw [← this, List.length_drop]; omega
  have Ha := Lib.hid (fun w1 => areDig_any (aheadOf (numOf l)) 16 w1 hal)
  have Hb := Lib.hid (fun w1 => areDig_any (behindOf (numOf l)) 40 w1 hbl)
  have Hu := Lib.hid (show stParse l = if stForm (numOf l) = true then stTail (minusOf l) (numD 0 (aheadOf (numOf l)), numD 0 (fracOf (behindOf (numOf l)))) else ((0, 0), 2) from rfl)
  clear hal hbl hnl hl
  generalize numOf l = n at *
  generalize minusOf l = mi at *
  by_cases hf : stForm n = true
  · have hA : areDig (aheadOf n) 16 = true := by unfold stForm at hf; rw [Bool.and_eq_true] at hf; exact hf.1
    have hA2 : allDig (aheadOf n) = true ∧ (aheadOf n).length ≤ 16 := by
      unfold areDig at hA; rw [Bool.and_eq_true, decide_eq_true_eq] at hA; exact ⟨hA.2, by omega⟩
    have hB2 : allDig (behindOf n) = true ∧ (behindOf n).length ≤ 40 ∧ (hasDot n = false ∨ hasDot n = true ∧ areDig (behindOf n) 40 = true) := by
      by_cases hd : 46 ∈ n
      · have hd2 : hasDot n = true := decide_eq_true hd
        have h40 : areDig (behindOf n) 40 = true := by unfold stForm at hf; rw [hd2, Bool.and_eq_true] at hf; simpa using hf.2
        have h40' := h40
        unfold areDig at h40'; rw [Bool.and_eq_true, decide_eq_true_eq] at h40'
        exact ⟨h40'.2, by omega, .inr ⟨hd2, h40⟩⟩
      · rw [(ahead_none n hd).2]
        exact ⟨rfl, by simp, .inl (decide_eq_false hd)⟩
    have Va := Lib.hid (fun w1 => value_any (aheadOf n) w1 hA2.2 hA2.1)
    have Vf := Lib.hid (fun w1 => value_any (fracOf (behindOf n)) w1 (by rw [fracOf_length]; omega) (fracOf_dig _ hB2.1))
    have bA := numD_bd16 (aheadOf n) hA2.1 hA2.2
    have bF := numD_bd9 (fracOf (behindOf n)) (fracOf_dig _ hB2.1) (fracOf_length _)
    have Hu2 := Lib.hid (show stParse l = stTail mi (numD 0 (aheadOf n), numD 0 (fracOf (behindOf n))) by rw [Hu.out, if_pos hf])
    have hbl := hB2.2.1
    have hsl : ∀ W : World, (Instr.slice 9 (.string ⟨(behindOf n ++ List.replicate 9 48).toArray⟩) none (some (.int .i64 9)) none).run Tryz.prog W = .ok (.string ⟨(fracOf (behindOf n)).toArray⟩) W := by
      intro W
      have hr := run_slice_string_to_if (P := Tryz.prog) (w := W) 9 ⟨(behindOf n ++ List.replicate 9 48).toArray⟩ .i64 9 Tryz.underlying9
      rw [if_pos ⟨by omega, by simp [ByteArray.size]; omega⟩, str_extract] at hr
      exact hr
    have hdot := hB2.2.2
    rw [hA] at Ha
    clear hA hA2 hB2 hf Hu
    generalize numD 0 (aheadOf n) = A at *
    generalize numD 0 (fracOf (behindOf n)) = F at *
    generalize fracOf (behindOf n) = fr at *
    obtain ⟨z9, hz9⟩ : ∃ z9, z9 = List.replicate 9 (48 : UInt8) := ⟨_, rfl⟩
    have hz9l : z9.length = 9 := by rw [hz9]; rfl
    have Hrep : ∀ w : World, Calls Tryz.prog 182 #[.string ⟨#[48]⟩, .int .i64 9] w fun e w' => Below w.heap.size w w' ∧ e = .returned (.string ⟨z9.toArray⟩) := by rw [hz9]; exact repeat_any
    have Hrep := Lib.hid Hrep
    rw [← hz9] at hsl
    clear hz9
    generalize behindOf n = bh at *
    generalize aheadOf n = ah at *
    obtain ⟨bA0, bA1⟩ := bA
    obtain ⟨bF0, bF1⟩ := bF
    rcases hdot with hd | ⟨hd, h40⟩
    all_goals rw [hd] at Hc
    all_goals clear hd
    · cases mi
      · go_enter Tryz.func140, Tryz.ntmps140
        go_wp2_with fail
        refine (Hp.out _).mono ?_
        rintro e w' ⟨rfl, rfl⟩
        go_wp2_with fail
        refine (Hc.out _).mono ?_
        rintro e w1 ⟨hb, rfl⟩
        obtain ⟨H0, hb, hz⟩ := box1 hb
        have H0' := Lib.hid H0
        have Hb1 := Lib.hid hb
        clear hb H0
        go_wp2_with fail
        refine (Ha.out _).mono ?_
        rintro e w' ⟨rfl, rfl⟩
        go_wp2_with fail
        refine (Va.out _).mono ?_
        rintro e w' ⟨rfl, rfl⟩
        go_wp2_with fail
        refine (Hrep.out _).mono ?_
        rintro e w2 ⟨hb2, rfl⟩
        have H2 := Lib.hid (H0'.out.under hb2 hz)
        have Hb2 := Lib.hid (Hb1.out.trans (hb2.mono Hb1.out.size))
        have hz2 : w.heap.size < w2.heap.size := Nat.lt_of_lt_of_le hz hb2.size
        clear hb2 hz
        go_wp2_with fail
        refine (Vf.out _).mono ?_
        rintro e w' ⟨rfl, rfl⟩
        by_cases hR : stRight A F = true
        · have Hq := Lib.hid (show stParse l = ((A, F), 0) by rw [Hu2.out]; unfold stTail; simp only [Bool.false_eq_true, if_false]; rw [if_pos hR])
          go_wp2_with fail
          refine (stRight_any _ _ _).mono ?_
          rw [hR]
          rintro e w3 ⟨hb3, rfl⟩
          obtain ⟨J0, Jb, Jz⟩ := box1b hb3
          have J1 := H2.out.under Jb (by omega)
          have Hb3 := Lib.hid (Hb2.out.trans (Jb.mono Hb2.out.size))
          obtain ⟨j0, j1, j2, j3⟩ := two_cells J0
          obtain ⟨k0, k1, k2, k3⟩ := two_cells J1
          clear hb3 J0 J1 Jb hR
          go_wp2
          refine bodyPost_ret (v := .tuple #[.agg #[.int .i64 A, .int .i64 F], .int .i64 0]) (by simp [results, Tryz.results140, go_sem, k0, k1]) rfl ⟨(Hb3.out.setCell (by simp) _).setCell (by simp) _, ?_⟩
          rw [Hq.out]
        · have hR' : stRight A F = false := by simpa using hR
          have Hq := Lib.hid (show stParse l = ((0, 0), 6) by rw [Hu2.out]; unfold stTail; simp only [Bool.false_eq_true, if_false]; rw [if_neg hR])
          go_wp2_with fail
          refine (stRight_any _ _ _).mono ?_
          rw [hR']
          rintro e w3 ⟨hb3, rfl⟩
          obtain ⟨J0, Jb, Jz⟩ := box1b hb3
          have J1 := H2.out.under Jb (by omega)
          have Hb3 := Lib.hid (Hb2.out.trans (Jb.mono Hb2.out.size))
          obtain ⟨k0, k1, k2, k3⟩ := two_cells J1
          clear hb3 J0 J1 Jb hR hR'
          go_wp2
          refine bodyPost_ret (v := .tuple #[.agg #[.int .i64 0, .int .i64 0], .int .i64 6]) (by simp [results, Tryz.results140, go_sem, k0, k1]) rfl ⟨(Hb3.out.setCell (by simp) _).setCell (by simp) _, ?_⟩
          rw [Hq.out]
      · have Ho := Lib.hid (fun w1 => stOpp_any A F w1 ⟨by omega, by omega⟩ ⟨bF0, bF1⟩)
        have Hu3 := Lib.hid (show stParse l = if stRight (stOpp A F).1 (stOpp A F).2 = true then (stOpp A F, 0) else ((0, 0), 6) by rw [Hu2.out]; rfl)
        have hob : -9999999999999999 - 1 ≤ (stOpp A F).1 ∧ (stOpp A F).1 ≤ 9999999999999999 ∧ 0 ≤ (stOpp A F).2 ∧ (stOpp A F).2 ≤ 1000000000 := by unfold stOpp; split <;> simp only <;> omega
        generalize stOpp A F = o at *
        obtain ⟨C, D⟩ := o
        clear hob
        go_enter Tryz.func140, Tryz.ntmps140
        go_wp2_with fail
        refine (Hp.out _).mono ?_
        rintro e w' ⟨rfl, rfl⟩
        go_wp2_with fail
        refine (Hc.out _).mono ?_
        rintro e w1 ⟨hb, rfl⟩
        obtain ⟨H0, hb, hz⟩ := box1 hb
        have H0' := Lib.hid H0
        have Hb1 := Lib.hid hb
        clear hb H0
        go_wp2_with fail
        refine (Ha.out _).mono ?_
        rintro e w' ⟨rfl, rfl⟩
        go_wp2_with fail
        refine (Va.out _).mono ?_
        rintro e w' ⟨rfl, rfl⟩
        go_wp2_with fail
        refine (Hrep.out _).mono ?_
        rintro e w2 ⟨hb2, rfl⟩
        have H2 := Lib.hid (H0'.out.under hb2 hz)
        have Hb2 := Lib.hid (Hb1.out.trans (hb2.mono Hb1.out.size))
        have hz2 : w.heap.size < w2.heap.size := Nat.lt_of_lt_of_le hz hb2.size
        clear hb2 hz
        go_wp2_with fail
        refine (Vf.out _).mono ?_
        rintro e w' ⟨rfl, rfl⟩
        go_wp2_with fail
        refine (Ho.out _).mono ?_
        rintro e w3 ⟨hb3, rfl⟩
        obtain ⟨J0, Jb, Jz⟩ := box1b hb3
        obtain ⟨j0, j1, j2, j3⟩ := two_cells J0
        have J1 := Lib.hid (H2.out.under Jb (by omega))
        have J0' := Lib.hid (J0.twice C D)
        have Hb3 := Lib.hid (((Hb2.out.trans (Jb.mono Hb2.out.size)).setCell (p := ⟨w2.heap.size, 0, none⟩) (by show w.heap.size ≤ w2.heap.size; omega) (.int .i64 C)).setCell (p := ⟨w2.heap.size, 1, none⟩) (by show w.heap.size ≤ w2.heap.size; omega) (.int .i64 D))
        have J1' := Lib.hid ((J1.out.other (p := ⟨w2.heap.size, 0, none⟩) (by show w.heap.size ≠ w2.heap.size; omega) (.int .i64 C)).other (p := ⟨w2.heap.size, 1, none⟩) (by show w.heap.size ≠ w2.heap.size; omega) (.int .i64 D))
        have hz3 : w2.heap.size < ((w3.setCell ⟨w2.heap.size, 0, none⟩ (.int .i64 C)).setCell ⟨w2.heap.size, 1, none⟩ (.int .i64 D)).heap.size := by simpa using Jz
        clear hb3 J0 Jb J1 Hb2 H2 Jz
        go_wp2_with fail
        generalize ((w3.setCell ⟨w2.heap.size, 0, none⟩ (.int .i64 C)).setCell ⟨w2.heap.size, 1, none⟩ (.int .i64 D)) = w4 at *
        obtain ⟨j0, j1, j2, j3⟩ := two_cells J0'.out
        by_cases hR : stRight C D = true
        · have Hq := Lib.hid (show stParse l = ((C, D), 0) by rw [Hu3.out, if_pos hR])
          refine (stRight_any _ _ _).mono ?_
          rw [hR]
          rintro e w5 ⟨hb5, rfl⟩
          have L0 := J0'.out.under hb5 hz3
          have L1 := J1'.out.under hb5 (by omega)
          have Hb5 := Lib.hid (Hb3.out.trans (hb5.mono Hb3.out.size))
          obtain ⟨l0, l1, l2, l3⟩ := two_cells L0
          obtain ⟨k0, k1, k2, k3⟩ := two_cells L1
          clear hb5 L0 L1 hR j0 j1 j2 j3
          go_wp2
          refine bodyPost_ret (v := .tuple #[.agg #[.int .i64 C, .int .i64 D], .int .i64 0]) (by simp [results, Tryz.results140, go_sem, k0, k1]) rfl ⟨(Hb5.out.setCell (by simp) _).setCell (by simp) _, ?_⟩
          rw [Hq.out]
        · have hR' : stRight C D = false := by simpa using hR
          have Hq := Lib.hid (show stParse l = ((0, 0), 6) by rw [Hu3.out, if_neg hR])
          refine (stRight_any _ _ _).mono ?_
          rw [hR']
          rintro e w5 ⟨hb5, rfl⟩
          have L1 := J1'.out.under hb5 (by omega)
          have Hb5 := Lib.hid (Hb3.out.trans (hb5.mono Hb3.out.size))
          obtain ⟨k0, k1, k2, k3⟩ := two_cells L1
          clear hb5 L1 hR hR' j0 j1 j2 j3
          go_wp2
          refine bodyPost_ret (v := .tuple #[.agg #[.int .i64 0, .int .i64 0], .int .i64 6]) (by simp [results, Tryz.results140, go_sem, k0, k1]) rfl ⟨(Hb5.out.setCell (by simp) _).setCell (by simp) _, ?_⟩
          rw [Hq.out]
    · rw [h40] at Hb
      clear h40
      cases mi
      · go_enter Tryz.func140, Tryz.ntmps140
        go_wp2_with fail
        refine (Hp.out _).mono ?_
        rintro e w' ⟨rfl, rfl⟩
        go_wp2_with fail
        refine (Hc.out _).mono ?_
        rintro e w1 ⟨hb, rfl⟩
        obtain ⟨H0, hb, hz⟩ := box1 hb
        have H0' := Lib.hid H0
        have Hb1 := Lib.hid hb
        clear hb H0
        go_wp2_with fail
        refine (Ha.out _).mono ?_
        rintro e w' ⟨rfl, rfl⟩
        go_wp2_with fail
        refine (Hb.out _).mono ?_
        rintro e w' ⟨rfl, rfl⟩
        go_wp2_with fail
        refine (Va.out _).mono ?_
        rintro e w' ⟨rfl, rfl⟩
        go_wp2_with fail
        refine (Hrep.out _).mono ?_
        rintro e w2 ⟨hb2, rfl⟩
        have H2 := Lib.hid (H0'.out.under hb2 hz)
        have Hb2 := Lib.hid (Hb1.out.trans (hb2.mono Hb1.out.size))
        have hz2 : w.heap.size < w2.heap.size := Nat.lt_of_lt_of_le hz hb2.size
        clear hb2 hz
        go_wp2_with fail
        refine (Vf.out _).mono ?_
        rintro e w' ⟨rfl, rfl⟩
        by_cases hR : stRight A F = true
        · have Hq := Lib.hid (show stParse l = ((A, F), 0) by rw [Hu2.out]; unfold stTail; simp only [Bool.false_eq_true, if_false]; rw [if_pos hR])
          go_wp2_with fail
          refine (stRight_any _ _ _).mono ?_
          rw [hR]
          rintro e w3 ⟨hb3, rfl⟩
          obtain ⟨J0, Jb, Jz⟩ := box1b hb3
          have J1 := H2.out.under Jb (by omega)
          have Hb3 := Lib.hid (Hb2.out.trans (Jb.mono Hb2.out.size))
          obtain ⟨j0, j1, j2, j3⟩ := two_cells J0
          obtain ⟨k0, k1, k2, k3⟩ := two_cells J1
          clear hb3 J0 J1 Jb hR
          go_wp2
          refine bodyPost_ret (v := .tuple #[.agg #[.int .i64 A, .int .i64 F], .int .i64 0]) (by simp [results, Tryz.results140, go_sem, k0, k1]) rfl ⟨(Hb3.out.setCell (by simp) _).setCell (by simp) _, ?_⟩
          rw [Hq.out]
        · have hR' : stRight A F = false := by simpa using hR
          have Hq := Lib.hid (show stParse l = ((0, 0), 6) by rw [Hu2.out]; unfold stTail; simp only [Bool.false_eq_true, if_false]; rw [if_neg hR])
          go_wp2_with fail
          refine (stRight_any _ _ _).mono ?_
          rw [hR']
          rintro e w3 ⟨hb3, rfl⟩
          obtain ⟨J0, Jb, Jz⟩ := box1b hb3
          have J1 := H2.out.under Jb (by omega)
          have Hb3 := Lib.hid (Hb2.out.trans (Jb.mono Hb2.out.size))
          obtain ⟨k0, k1, k2, k3⟩ := two_cells J1
          clear hb3 J0 J1 Jb hR hR'
          go_wp2
          refine bodyPost_ret (v := .tuple #[.agg #[.int .i64 0, .int .i64 0], .int .i64 6]) (by simp [results, Tryz.results140, go_sem, k0, k1]) rfl ⟨(Hb3.out.setCell (by simp) _).setCell (by simp) _, ?_⟩
          rw [Hq.out]
      · have Ho := Lib.hid (fun w1 => stOpp_any A F w1 ⟨by omega, by omega⟩ ⟨bF0, bF1⟩)
        have Hu3 := Lib.hid (show stParse l = if stRight (stOpp A F).1 (stOpp A F).2 = true then (stOpp A F, 0) else ((0, 0), 6) by rw [Hu2.out]; rfl)
        have hob : -9999999999999999 - 1 ≤ (stOpp A F).1 ∧ (stOpp A F).1 ≤ 9999999999999999 ∧ 0 ≤ (stOpp A F).2 ∧ (stOpp A F).2 ≤ 1000000000 := by unfold stOpp; split <;> simp only <;> omega
        generalize stOpp A F = o at *
        obtain ⟨C, D⟩ := o
        clear hob
        go_enter Tryz.func140, Tryz.ntmps140
        go_wp2_with fail
        refine (Hp.out _).mono ?_
        rintro e w' ⟨rfl, rfl⟩
        go_wp2_with fail
        refine (Hc.out _).mono ?_
        rintro e w1 ⟨hb, rfl⟩
        obtain ⟨H0, hb, hz⟩ := box1 hb
        have H0' := Lib.hid H0
        have Hb1 := Lib.hid hb
        clear hb H0
        go_wp2_with fail
        refine (Ha.out _).mono ?_
        rintro e w' ⟨rfl, rfl⟩
        go_wp2_with fail
        refine (Hb.out _).mono ?_
        rintro e w' ⟨rfl, rfl⟩
        go_wp2_with fail
        refine (Va.out _).mono ?_
        rintro e w' ⟨rfl, rfl⟩
        go_wp2_with fail
        refine (Hrep.out _).mono ?_
        rintro e w2 ⟨hb2, rfl⟩
        have H2 := Lib.hid (H0'.out.under hb2 hz)
        have Hb2 := Lib.hid (Hb1.out.trans (hb2.mono Hb1.out.size))
        have hz2 : w.heap.size < w2.heap.size := Nat.lt_of_lt_of_le hz hb2.size
        clear hb2 hz
        go_wp2_with fail
        refine (Vf.out _).mono ?_
        rintro e w' ⟨rfl, rfl⟩
        go_wp2_with fail
        refine (Ho.out _).mono ?_
        rintro e w3 ⟨hb3, rfl⟩
        obtain ⟨J0, Jb, Jz⟩ := box1b hb3
        obtain ⟨j0, j1, j2, j3⟩ := two_cells J0
        have J1 := Lib.hid (H2.out.under Jb (by omega))
        have J0' := Lib.hid (J0.twice C D)
        have Hb3 := Lib.hid (((Hb2.out.trans (Jb.mono Hb2.out.size)).setCell (p := ⟨w2.heap.size, 0, none⟩) (by show w.heap.size ≤ w2.heap.size; omega) (.int .i64 C)).setCell (p := ⟨w2.heap.size, 1, none⟩) (by show w.heap.size ≤ w2.heap.size; omega) (.int .i64 D))
        have J1' := Lib.hid ((J1.out.other (p := ⟨w2.heap.size, 0, none⟩) (by show w.heap.size ≠ w2.heap.size; omega) (.int .i64 C)).other (p := ⟨w2.heap.size, 1, none⟩) (by show w.heap.size ≠ w2.heap.size; omega) (.int .i64 D))
        have hz3 : w2.heap.size < ((w3.setCell ⟨w2.heap.size, 0, none⟩ (.int .i64 C)).setCell ⟨w2.heap.size, 1, none⟩ (.int .i64 D)).heap.size := by simpa using Jz
        clear hb3 J0 Jb J1 Hb2 H2 Jz
        go_wp2_with fail
        generalize ((w3.setCell ⟨w2.heap.size, 0, none⟩ (.int .i64 C)).setCell ⟨w2.heap.size, 1, none⟩ (.int .i64 D)) = w4 at *
        obtain ⟨j0, j1, j2, j3⟩ := two_cells J0'.out
        by_cases hR : stRight C D = true
        · have Hq := Lib.hid (show stParse l = ((C, D), 0) by rw [Hu3.out, if_pos hR])
          refine (stRight_any _ _ _).mono ?_
          rw [hR]
          rintro e w5 ⟨hb5, rfl⟩
          have L0 := J0'.out.under hb5 hz3
          have L1 := J1'.out.under hb5 (by omega)
          have Hb5 := Lib.hid (Hb3.out.trans (hb5.mono Hb3.out.size))
          obtain ⟨l0, l1, l2, l3⟩ := two_cells L0
          obtain ⟨k0, k1, k2, k3⟩ := two_cells L1
          clear hb5 L0 L1 hR j0 j1 j2 j3
          go_wp2
          refine bodyPost_ret (v := .tuple #[.agg #[.int .i64 C, .int .i64 D], .int .i64 0]) (by simp [results, Tryz.results140, go_sem, k0, k1]) rfl ⟨(Hb5.out.setCell (by simp) _).setCell (by simp) _, ?_⟩
          rw [Hq.out]
        · have hR' : stRight C D = false := by simpa using hR
          have Hq := Lib.hid (show stParse l = ((0, 0), 6) by rw [Hu3.out, if_neg hR])
          refine (stRight_any _ _ _).mono ?_
          rw [hR']
          rintro e w5 ⟨hb5, rfl⟩
          have L1 := J1'.out.under hb5 (by omega)
          have Hb5 := Lib.hid (Hb3.out.trans (hb5.mono Hb3.out.size))
          obtain ⟨k0, k1, k2, k3⟩ := two_cells L1
          clear hb5 L1 hR hR' j0 j1 j2 j3
          go_wp2
          refine bodyPost_ret (v := .tuple #[.agg #[.int .i64 0, .int .i64 0], .int .i64 6]) (by simp [results, Tryz.results140, go_sem, k0, k1]) rfl ⟨(Hb5.out.setCell (by simp) _).setCell (by simp) _, ?_⟩
          rw [Hq.out]
  · have Hq := Lib.hid (show stParse l = ((0, 0), 2) by rw [Hu.out, if_neg hf])
    have hcase : areDig (aheadOf n) 16 = false ∨ areDig (aheadOf n) 16 = true ∧ hasDot n = true ∧ areDig (behindOf n) 40 = false := by
      unfold stForm at hf
      revert hf
      cases areDig (aheadOf n) 16 <;> cases hasDot n <;> cases areDig (behindOf n) 40 <;> simp
    clear hf
    rcases hcase with h1 | ⟨h1, h2, h3⟩
    · rw [h1] at Ha
      clear h1
      go_enter Tryz.func140, Tryz.ntmps140
      go_wp2_with fail
      refine (Hp.out _).mono ?_
      rintro e w' ⟨rfl, rfl⟩
      go_wp2_with fail
      refine (Hc.out _).mono ?_
      rintro e w1 ⟨hb, rfl⟩
      obtain ⟨H0, hb, hz⟩ := box1 hb
      obtain ⟨c0, c1, f0, f1⟩ := two_cells H0
      have Hbb := Lib.hid hb
      clear hb H0
      go_wp2_with fail
      refine (Ha.out _).mono ?_
      rintro e w' ⟨rfl, rfl⟩
      go_wp2
      refine bodyPost_ret (v := .tuple #[.agg #[.int .i64 0, .int .i64 0], .int .i64 2]) (by simp [results, Tryz.results140, go_sem, c0, c1]) rfl ⟨(Hbb.out.setCell (by simp) _).setCell (by simp) _, ?_⟩
      rw [Hq.out]
    · rw [h1] at Ha
      rw [h2] at Hc
      rw [h3] at Hb
      clear h1 h2 h3
      go_enter Tryz.func140, Tryz.ntmps140
      go_wp2_with fail
      refine (Hp.out _).mono ?_
      rintro e w' ⟨rfl, rfl⟩
      go_wp2_with fail
      refine (Hc.out _).mono ?_
      rintro e w1 ⟨hb, rfl⟩
      obtain ⟨H0, hb, hz⟩ := box1 hb
      obtain ⟨c0, c1, f0, f1⟩ := two_cells H0
      have Hbb := Lib.hid hb
      clear hb H0
      go_wp2_with fail
      refine (Ha.out _).mono ?_
      rintro e w' ⟨rfl, rfl⟩
      go_wp2_with fail
      refine (Hb.out _).mono ?_
      rintro e w' ⟨rfl, rfl⟩
      go_wp2
      refine bodyPost_ret (v := .tuple #[.agg #[.int .i64 0, .int .i64 0], .int .i64 2]) (by simp [results, Tryz.results140, go_sem, c0, c1]) rfl ⟨(Hbb.out.setCell (by simp) _).setCell (by simp) _, ?_⟩
      rw [Hq.out]
end Go.Proofs.YtjmmecokfijglaaGreatDoor
