/-
  Texts of this seat's proof, joined: their order is that of the build.
-/
import Derived.Test.YtjmmecokfijglaaGreatDoorJB18
import Derived.Deep.CutBlock
import Derived.Deep.DeepCutAuto
import Derived.Test.YtjmmecokfijglaaGreatDoorJB05
import Derived.Test.YtjmmecokfijglaaGreatDoorJB04
import Derived.Test.YtjmmecokfijglaaGreatDoorJB02
import Derived.Deep.QuietTactic
import Derived.BigQuiet
namespace Go.Proofs.YtjmmecokfijglaaGreatDoor
open Go.ChangeShapes Go.WideShapes Go.ChangeAt Go.RowKit

theorem refRead_size (l : List UInt8) (w : World) (hl : l.length ≤ maxLen) (h : ¬ isSize l.length = true) :
    Calls Tryz.prog 164 #[.string ⟨l.toArray⟩] w fun e w' => e = .returned (.tuple #[.int .i64 (octRead l).1, .int .i64 (octRead l).2]) ∧ w = w' := by
  unfold maxLen at hl
  have Hq := Lib.hid (show octRead l = (0, 1) by unfold octRead; rw [if_neg h])
  have h2 : ¬ (2 ≤ l.length ∧ l.length ≤ 12) := by
    intro h3; apply h; simp [isSize]; omega
  clear h
  by_cases h3 : 2 ≤ l.length
  · have h4 : 12 < l.length := by omega
    go_enter Tryz.func164, Tryz.ntmps164
    go_wp2
    go_ret2
    rw [Hq.out]
    exact ⟨rfl, rfl⟩
  · have h4 : l.length < 2 := by omega
    go_enter Tryz.func164, Tryz.ntmps164
    go_wp2
    go_ret2
    rw [Hq.out]
    exact ⟨rfl, rfl⟩

set_option maxRecDepth 100000 in
theorem refRead_80 (b : UInt8) (t : List UInt8) (w : World) (h1 : 1 ≤ t.length) (h2 : t.length ≤ 11) (hb : (b.toNat : Int) = 128) :
    Calls Tryz.prog 164 #[.string ⟨(b :: t).toArray⟩] w fun e w' => e = .returned (.tuple #[.int .i64 (readBinary 0 t).1, .int .i64 (readBinary 0 t).2]) ∧ w = w' := by
  have e1 : ((b.toNat : Int) == 128) = true := by simpa using hb
  clear hb
  have Hq := Lib.hid (readBinary_up t 0 (by decide) (by decide))
  go_enter Tryz.func164, Tryz.ntmps164
  go_wp2
  go_loop [5, 6] (fun v i => ∃ k : Nat, 1 ≤ k ∧ k ≤ t.length + 1 ∧ i = .int .i64 k ∧ ∃ z : Int, 0 ≤ z ∧ z ≤ 2305843009213693952 ∧ v = .int .i64 z ∧ refFold 256 (fun b => (b.toNat : Int)) z ((b :: t).drop k) = refFold 256 (fun b => (b.toNat : Int)) 0 t) (fun _ i => t.length + 1 - (intOf i).toNat)
  case atStart => exact ⟨1, Nat.le_refl _, by omega, rfl, 0, by decide, by decide, rfl, rfl⟩
  case round =>
    obtain ⟨k, hk1, hk, rfl, z, hz, hzm, rfl, hs⟩ := hrel
    have Hs := Lib.hid hs
    clear hs
    by_cases hlt : k < t.length + 1
    · have hd := Lib.hid (drop_at (l := b :: t) (k := k) (by simpa using hlt))
      go_wp2_with fail
      have hc := byte_lt (b :: t)[k]
      refine (add_any _ _ _ _ hz (by decide) (by omega)).mono ?_
      rintro e w' ⟨rfl, rfl⟩
      have hr : 0 ≤ radd 256 z (((b :: t)[k].toNat : Int)) ∧ radd 256 z (((b :: t)[k].toNat : Int)) ≤ 2305843009213693952 := by
        unfold radd; split <;> omega
      have hn : refFold 256 (fun b => (b.toNat : Int)) (radd 256 z (((b :: t)[k].toNat : Int))) ((b :: t).drop (k + 1)) = refFold 256 (fun b => (b.toNat : Int)) 0 t := by
        rw [← Hs.out, hd.out, refFold_cons]
      have Hn := Lib.hid hn
      clear hn hc
      generalize radd 256 z _ = y at *
      go_wp2
      go_round
      case rel => exact ⟨k + 1, by omega, by omega, by go_num, y, hr.1, hr.2, rfl, Hn.out⟩
      case measure => simp [intOf]; omega
    · have hv : z = refFold 256 (fun b => (b.toNat : Int)) 0 t := by rw [← Hs.out, List.drop_of_length_le (by simp; omega)]; rfl
      have hq := Hq.out
      rw [← hv] at hq
      clear hv
      by_cases hbig : 9007199254740991 < z
      · rw [if_pos hbig] at hq
        have HQ := Lib.hid hq
        clear hq
        go_wp2
        go_ret2
        rw [HQ.out]
        exact ⟨rfl, rfl⟩
      · rw [if_neg hbig] at hq
        have HQ := Lib.hid hq
        clear hq
        go_wp2
        go_ret2
        rw [HQ.out]
        exact ⟨rfl, rfl⟩

set_option maxRecDepth 100000 in
theorem refRead_ff (b : UInt8) (t : List UInt8) (w : World) (h1 : 1 ≤ t.length) (h2 : t.length ≤ 11) (hb : (b.toNat : Int) = 255) :
    Calls Tryz.prog 164 #[.string ⟨(b :: t).toArray⟩] w fun e w' => e = .returned (.tuple #[.int .i64 (readBinary (-1) t).1, .int .i64 (readBinary (-1) t).2]) ∧ w = w' := by
  have e1 : ((b.toNat : Int) == 128) = false := by rw [hb]; rfl
  have e2 : ((b.toNat : Int) == 255) = true := by simpa using hb
  clear hb
  have Hq := Lib.hid (show readBinary (-1) t = _ from readBinary_down t 0 (by decide) (by decide))
  go_enter Tryz.func164, Tryz.ntmps164
  go_wp2
  go_loop [7, 8] (fun v i => ∃ k : Nat, 1 ≤ k ∧ k ≤ t.length + 1 ∧ i = .int .i64 k ∧ ∃ z : Int, 0 ≤ z ∧ z ≤ 2305843009213693952 ∧ v = .int .i64 z ∧ refFold 256 (fun b => 255 - (b.toNat : Int)) z ((b :: t).drop k) = refFold 256 (fun b => 255 - (b.toNat : Int)) 0 t) (fun _ i => t.length + 1 - (intOf i).toNat)
  case atStart => exact ⟨1, Nat.le_refl _, by omega, rfl, 0, by decide, by decide, rfl, rfl⟩
  case round =>
    obtain ⟨k, hk1, hk, rfl, z, hz, hzm, rfl, hs⟩ := hrel
    have Hs := Lib.hid hs
    clear hs
    by_cases hlt : k < t.length + 1
    · have hd := Lib.hid (drop_at (l := b :: t) (k := k) (by simpa using hlt))
      go_wp2_with fail
      have hc := byte_lt (b :: t)[k]
      rw [IntWalk.wrap64_in (255 - ((b :: t)[k].toNat : Int)) (by omega)]
      refine (add_any _ _ _ _ hz (by decide) (by omega)).mono ?_
      rintro e w' ⟨rfl, rfl⟩
      have hr : 0 ≤ radd 256 z (255 - ((b :: t)[k].toNat : Int)) ∧ radd 256 z (255 - ((b :: t)[k].toNat : Int)) ≤ 2305843009213693952 := by
        unfold radd; split <;> omega
      have hn : refFold 256 (fun b => 255 - (b.toNat : Int)) (radd 256 z (255 - ((b :: t)[k].toNat : Int))) ((b :: t).drop (k + 1)) = refFold 256 (fun b => 255 - (b.toNat : Int)) 0 t := by
        rw [← Hs.out, hd.out, refFold_cons]
      have Hn := Lib.hid hn
      clear hn hc
      generalize radd 256 z _ = y at *
      go_wp2
      go_round
      case rel => exact ⟨k + 1, by omega, by omega, by go_num, y, hr.1, hr.2, rfl, Hn.out⟩
      case measure => simp [intOf]; omega
    · have hv : z = refFold 256 (fun b => 255 - (b.toNat : Int)) 0 t := by rw [← Hs.out, List.drop_of_length_le (by simp; omega)]; rfl
      have hq := Hq.out
      rw [← hv] at hq
      clear hv
      by_cases hbig : 9007199254740991 < z + 1
      · rw [if_pos hbig] at hq
        have HQ := Lib.hid hq
        clear hq
        go_wp2
        go_ret2
        rw [HQ.out]
        exact ⟨rfl, rfl⟩
      · rw [if_neg hbig] at hq
        have HQ := Lib.hid hq
        clear hq
        go_wp2
        go_ret2
        rw [HQ.out]
        exact ⟨rfl, rfl⟩

theorem getD_at {l : List UInt8} {k : Nat} (h : k < l.length) : l.getD k 0 = l[k] := by rw [List.getD_eq_getElem?_getD, List.getElem?_eq_getElem h]; rfl

set_option maxRecDepth 100000 in
theorem refRead_oct (b : UInt8) (t : List UInt8) (w : World) (h1 : 1 ≤ t.length) (h2 : t.length ≤ 11) (e1 : ((b.toNat : Int) == 128) = false) (e2 : ((b.toNat : Int) == 255) = false) :
    Calls Tryz.prog 164 #[.string ⟨(b :: t).toArray⟩] w fun e w' => e = .returned (.tuple #[.int .i64 (readOctal 0 0 (b :: t)).1, .int .i64 (readOctal 0 0 (b :: t)).2]) ∧ w = w' := by
  have Hq := Lib.hid (readOctal_ref (b :: t) (by simp; omega))
  have hln : 2 ≤ (t.length : Int) + 1 ∧ (t.length : Int) + 1 ≤ 12 := by omega
  go_enter Tryz.func164, Tryz.ntmps164
  go_upto_block 4 with (fail)
  go_cut [9] (fun i wx => (∃ k : Nat, k ≤ t.length + 1 ∧ i = .int .i64 k ∧ (b :: t).drop k = skip32 (b :: t)) ∧ wx = w)
  case first =>
    go_wp2_with (fail)
    go_loop [9] (fun i => ∃ k : Nat, k ≤ t.length + 1 ∧ i = .int .i64 k ∧ skip32 ((b :: t).drop k) = skip32 (b :: t)) (fun i => t.length + 1 - (intOf i).toNat)
    case atStart => exact ⟨0, Nat.zero_le _, rfl, rfl⟩
    case round =>
      obtain ⟨k, hk, rfl, hs⟩ := hrel
      have Hs := Lib.hid hs
      clear hs
      by_cases hlt : k < t.length + 1
      · have hd := Lib.hid (drop_at (l := b :: t) (k := k) (by simpa using hlt))
        by_cases h32 : (((b :: t)[k]'(by simpa using hlt)).toNat : Int) = 32
        · have Hn := Lib.hid (show skip32 ((b :: t).drop (k + 1)) = skip32 (b :: t) by rw [← Hs.out, hd.out, skip32_cons, if_pos h32])
          have e3 : (((b :: t)[k].toNat : Int) == 32) = true := by simpa using h32
          clear h32
          go_wp2
          go_round
          case rel => exact ⟨k + 1, by omega, by go_num, Hn.out⟩
          case measure => simp [intOf]; omega
        · have Hn := Lib.hid (show (b :: t).drop k = skip32 (b :: t) by rw [← Hs.out, hd.out, skip32_cons, if_neg h32])
          have e3 : (((b :: t)[k].toNat : Int) == 32) = false := by simpa using h32
          clear h32
          go_wp2
          go_meet
          case rel => exact ⟨⟨k, by omega, rfl, Hn.out⟩, rfl⟩
      · have Hn := Lib.hid (show (b :: t).drop k = skip32 (b :: t) by rw [← Hs.out, List.drop_of_length_le (by simp; omega)]; rfl)
        go_wp2
        go_meet
        case rel => exact ⟨⟨k, by omega, rfl, Hn.out⟩, rfl⟩
  case rest =>
    obtain ⟨⟨k, hk, rfl, hn⟩, rfl⟩ := hcut
    have Hn := Lib.hid hn
    clear hn
    go_upto_block 6 with (fail)
    go_cut [9, 10] (fun i v wx => (∃ j : Nat, j ≤ t.length + 1 ∧ i = .int .i64 j ∧ ∃ z : Int, v = .int .i64 z ∧ readOctal 0 0 (b :: t) = tailOf z ((b :: t).drop j)) ∧ wx = wc)
    case first =>
      go_wp2_with (fail)
      go_loop [9, 10] (fun i v => ∃ j : Nat, j ≤ t.length + 1 ∧ i = .int .i64 j ∧ ∃ z : Int, 0 ≤ z ∧ z ≤ 2305843009213693952 ∧ v = .int .i64 z ∧ digRun z ((b :: t).drop j) = digRun 0 (skip32 (b :: t))) (fun i _ => t.length + 1 - (intOf i).toNat)
      case atStart => exact ⟨k, hk, rfl, 0, by decide, by decide, rfl, by rw [Hn.out]⟩
      case round =>
        obtain ⟨j, hj, rfl, z, hz0, hz1, rfl, hd⟩ := hrel
        have Hd := Lib.hid hd
        clear hd
        by_cases hlt : j < t.length + 1
        · have hd := Lib.hid (drop_at (l := b :: t) (k := j) (by simpa using hlt))
          by_cases hdig : 48 ≤ (((b :: t)[j]'(by simpa using hlt)).toNat : Int) ∧ (((b :: t)[j]'(by simpa using hlt)).toNat : Int) ≤ 55
          · have Hn2 := Lib.hid (show digRun (radd 8 z (((b :: t)[j].toNat : Int) - 48)) ((b :: t).drop (j + 1)) = digRun 0 (skip32 (b :: t)) by
              rw [← Hd.out, hd.out, digRun_cons, if_pos hdig])
            obtain ⟨d0, d1⟩ := hdig
            go_wp2_with fail
            refine (add_any _ _ _ _ hz0 (by decide) (by omega)).mono ?_
            rintro e w' ⟨rfl, rfl⟩
            have hr : 0 ≤ radd 8 z (((b :: t)[j].toNat : Int) - 48) ∧ radd 8 z (((b :: t)[j].toNat : Int) - 48) ≤ 2305843009213693952 := by
              unfold radd; split <;> omega
            generalize radd 8 z _ = y at *
            go_wp2
            go_round
            case rel => exact ⟨j + 1, by omega, by go_num, y, hr.1, hr.2, rfl, Hn2.out⟩
            case measure => simp [intOf]; omega
          · have Hn2 := Lib.hid (show readOctal 0 0 (b :: t) = tailOf z ((b :: t).drop j) by
              rw [Hq.out]; unfold refOctal; rw [← Hd.out, hd.out, digRun_cons, if_neg hdig])
            by_cases h48 : 48 ≤ (((b :: t)[j]'(by simpa using hlt)).toNat : Int)
            · have h55 : 55 < (((b :: t)[j]'(by simpa using hlt)).toNat : Int) := by omega
              clear hdig
              go_wp2
              go_meet
              case rel => exact ⟨⟨j, by omega, rfl, z, rfl, Hn2.out⟩, rfl⟩
            · clear hdig
              go_wp2
              go_meet
              case rel => exact ⟨⟨j, by omega, rfl, z, rfl, Hn2.out⟩, rfl⟩
        · have Hn2 := Lib.hid (show readOctal 0 0 (b :: t) = tailOf z ((b :: t).drop j) by
            rw [Hq.out]; unfold refOctal; rw [← Hd.out, List.drop_of_length_le (by simp; omega)]; rfl)
          go_wp2
          go_meet
          case rel => exact ⟨⟨j, by omega, rfl, z, rfl, Hn2.out⟩, rfl⟩
    case rest =>
      obtain ⟨⟨j, hj, rfl, z, rfl, hn2⟩, rfl⟩ := hcut
      have Hn2 := Lib.hid hn2
      clear hn2
      go_wp2
      go_loop [9] (fun i => ∃ m : Nat, m ≤ t.length + 1 ∧ i = .int .i64 m ∧ readOctal 0 0 (b :: t) = tailOf z ((b :: t).drop m)) (fun i => t.length + 1 - (intOf i).toNat)
      case atStart => exact ⟨j, hj, rfl, Hn2.out⟩
      case round =>
        obtain ⟨m, hm, rfl, hx⟩ := hrel
        have Hx := Lib.hid hx
        clear hx
        by_cases hlt : m < t.length + 1
        · have hd := Lib.hid (drop_at (l := b :: t) (k := m) (by simpa using hlt))
          by_cases h32 : (((b :: t)[m]'(by simpa using hlt)).toNat : Int) = 32
          · have Hy := Lib.hid (show readOctal 0 0 (b :: t) = tailOf z ((b :: t).drop (m + 1)) by rw [Hx.out, hd.out, tailOf_skip _ _ _ (.inr h32)])
            have e3 : (((b :: t)[m].toNat : Int) == 32) = true := by simpa using h32
            have e4 : (((b :: t)[m].toNat : Int) != 32) = false := by simpa using h32
            clear h32
            go_wp2
            go_round
            case rel => exact ⟨m + 1, by omega, by go_num, Hy.out⟩
            case measure => simp [intOf]; omega
          · have e3 : (((b :: t)[m].toNat : Int) == 32) = false := by simpa using h32
            have e4 : (((b :: t)[m].toNat : Int) != 32) = true := by simpa using h32
            by_cases h0 : (((b :: t)[m]'(by simpa using hlt)).toNat : Int) = 0
            · have Hy := Lib.hid (show readOctal 0 0 (b :: t) = tailOf z ((b :: t).drop (m + 1)) by rw [Hx.out, hd.out, tailOf_skip _ _ _ (.inl h0)])
              have e5 : (((b :: t)[m].toNat : Int) == 0) = true := by simpa using h0
              have e6 : (((b :: t)[m].toNat : Int) != 0) = false := by simpa using h0
              clear h32 h0
              go_wp2
              go_round
              case rel => exact ⟨m + 1, by omega, by go_num, Hy.out⟩
              case measure => simp [intOf]; omega
            · have Hy := Lib.hid (show readOctal 0 0 (b :: t) = (0, 2) by rw [Hx.out, hd.out, tailOf_bad _ _ _ (by omega)])
              have e5 : (((b :: t)[m].toNat : Int) == 0) = false := by simpa using h0
              have e6 : (((b :: t)[m].toNat : Int) != 0) = true := by simpa using h0
              clear h32 h0
              go_wp2
              go_ret2
              rw [Hy.out]
              exact ⟨rfl, rfl⟩
        · have Hy := Lib.hid (show readOctal 0 0 (b :: t) = if 9007199254740991 < z then (0, 6) else (z, 0) by
            rw [Hx.out, List.drop_of_length_le (by simp; omega)]; rfl)
          by_cases hbig : 9007199254740991 < z
          · have Hz := Lib.hid (show readOctal 0 0 (b :: t) = (0, 6) by rw [Hy.out, if_pos hbig])
            go_wp2
            go_ret2
            rw [Hz.out]
            exact ⟨rfl, rfl⟩
          · have Hz := Lib.hid (show readOctal 0 0 (b :: t) = (z, 0) by rw [Hy.out, if_neg hbig])
            go_wp2
            go_ret2
            rw [Hz.out]
            exact ⟨rfl, rfl⟩

/-- The document's answer for a field is what octal.Read answers. -/
theorem refRead_any (l : List UInt8) (w : World) (hl : l.length ≤ maxLen) :
    Calls Tryz.prog 164 #[.string ⟨l.toArray⟩] w fun e w' => e = .returned (.tuple #[.int .i64 (octRead l).1, .int .i64 (octRead l).2]) ∧ w = w' := by
  by_cases hz : isSize (l.length : Int) = true
  · have h2 : 2 ≤ l.length ∧ l.length ≤ 12 := by simp [isSize] at hz; omega
    obtain ⟨b, t, rfl⟩ : ∃ b t, l = b :: t := by cases l with | nil => simp at h2 | cons b t => exact ⟨b, t, rfl⟩
    have hu : octRead (b :: t) = if (b.toNat : Int) = 128 then readBinary 0 t else if (b.toNat : Int) = 255 then readBinary (-1) t else readOctal 0 0 (b :: t) := by unfold octRead; rw [if_pos hz]
    have h3 : 1 ≤ t.length ∧ t.length ≤ 11 := by simpa using h2
    rw [hu]
    by_cases h80 : (b.toNat : Int) = 128
    · rw [if_pos h80]; exact refRead_80 b t w h3.1 h3.2 h80
    · rw [if_neg h80]
      by_cases hff : (b.toNat : Int) = 255
      · rw [if_pos hff]; exact refRead_ff b t w h3.1 h3.2 hff
      · rw [if_neg hff]; exact refRead_oct b t w h3.1 h3.2 (by simpa using h80) (by simpa using hff)
  · exact refRead_size l w hl hz
end Go.Proofs.YtjmmecokfijglaaGreatDoor
namespace Go.Proofs.YtjmmecokfijglaaGreatDoor
open Go.ChangeShapes Go.WideShapes Go.ChangeAt Go.RowKit

theorem read_any (l : List UInt8) (w : World) (hl : l.length ≤ maxLen) :
    Calls Tryz.prog 98 #[.string ⟨l.toArray⟩] w fun e w' => e = .returned (.tuple #[.int .i64 (octRead l).1, .int .i64 (octRead l).2]) ∧ w = w' := by
  unfold maxLen at hl
  by_cases hz : isSize (l.length : Int) = true
  · have h2 : 2 ≤ l.length ∧ l.length ≤ 12 := by simp [isSize] at hz; omega
    obtain ⟨b, t, rfl⟩ : ∃ b t, l = b :: t := by cases l with | nil => simp at h2 | cons b t => exact ⟨b, t, rfl⟩
    have Hz := Lib.hid hz
    clear hz
    have h3 : 1 ≤ t.length ∧ t.length ≤ 11 := by simpa using h2
    have Hb := Lib.hid (readBinary_any 0 t w (by decide) (by omega))
    have Hc := Lib.hid (readBinary_any (-1) t w (by decide) (by omega))
    have Ho := Lib.hid (readOctal_any (b :: t) w h2.2)
    have Hz1 := Lib.hid (show isSize ((t.length : Int) + 1) = true by have := Hz.out; simpa using this)
    have Hu := Lib.hid (show octRead (b :: t) = if (b.toNat : Int) = 128 then readBinary 0 t else if (b.toNat : Int) = 255 then readBinary (-1) t else readOctal 0 0 (b :: t) by unfold octRead; rw [if_pos Hz.out])
    by_cases h80 : (b.toNat : Int) = 128
    · have Hq := Lib.hid (show octRead (b :: t) = readBinary 0 t by rw [Hu.out, if_pos h80])
      have e1 : ((b.toNat : Int) == 128) = true := by simpa using h80
      clear h80
      go_enter Tryz.func98, Tryz.ntmps98
      go_wp2_with fail
      refine (isSize_any _ w).mono ?_
      rw [Hz1.out]
      rintro e w' ⟨rfl, rfl⟩
      go_wp2_with fail
      refine Hb.out.mono ?_
      rintro e w' ⟨rfl, rfl⟩
      go_wp2
      go_ret2
      rw [Hq.out]
      exact ⟨rfl, rfl⟩
    · have e1 : ((b.toNat : Int) == 128) = false := by simpa using h80
      by_cases hff : (b.toNat : Int) = 255
      · have Hq := Lib.hid (show octRead (b :: t) = readBinary (-1) t by rw [Hu.out, if_neg h80, if_pos hff])
        have e2 : ((b.toNat : Int) == 255) = true := by simpa using hff
        clear h80 hff
        go_enter Tryz.func98, Tryz.ntmps98
        go_wp2_with fail
        refine (isSize_any _ w).mono ?_
        rw [Hz1.out]
        rintro e w' ⟨rfl, rfl⟩
        go_wp2_with fail
        refine Hc.out.mono ?_
        rintro e w' ⟨rfl, rfl⟩
        go_wp2
        go_ret2
        rw [Hq.out]
        exact ⟨rfl, rfl⟩
      · have Hq := Lib.hid (show octRead (b :: t) = readOctal 0 0 (b :: t) by rw [Hu.out, if_neg h80, if_neg hff])
        have e2 : ((b.toNat : Int) == 255) = false := by simpa using hff
        clear h80 hff
        go_enter Tryz.func98, Tryz.ntmps98
        go_wp2_with fail
        refine (isSize_any _ w).mono ?_
        rw [Hz1.out]
        rintro e w' ⟨rfl, rfl⟩
        go_wp2_with fail
        refine Ho.out.mono ?_
        rintro e w' ⟨rfl, rfl⟩
        go_wp2
        go_ret2
        rw [Hq.out]
        exact ⟨rfl, rfl⟩
  · have Hq := Lib.hid (show octRead l = (0, 1) by unfold octRead; rw [if_neg hz])
    have Hz := Lib.hid (show isSize (l.length : Int) = false by simpa using hz)
    clear hz
    go_enter Tryz.func98, Tryz.ntmps98
    go_wp2_with fail
    refine (isSize_any _ w).mono ?_
    rw [Hz.out]
    rintro e w' ⟨rfl, rfl⟩
    go_wp2
    go_ret2
    rw [Hq.out]
    exact ⟨rfl, rfl⟩
end Go.Proofs.YtjmmecokfijglaaGreatDoor
namespace Go.Proofs.YtjmmecokfijglaaGreatDoor
open Go.ChangeShapes Go.WideShapes Go.ChangeAt Go.RowKit

theorem sRead_any (b : UInt8) (t : List UInt8) (w : World) (hl : t.length ≤ 1000) :
    Calls Tryz.prog 92 #[.string ⟨(b :: t).toArray⟩] w fun e w' => w = w' ∧ e = .returned (.tuple #[.int .i64 (sRead b t).1, .bool (sRead b t).2]) := by
  have Hr := Lib.hid (read_any (b :: t) w (by unfold maxLen; simp; omega))
  by_cases h : (octRead (b :: t)).2 = 0
  · have e1 : ((octRead (b :: t)).2 != 0) = false := by simp [h]
    by_cases h2 : (b.toNat : Int) ≤ 127
    · have Hq := Lib.hid (show sRead b t = ((octRead (b :: t)).1, true) from if_pos ⟨h, h2⟩)
      have e2 : decide (127 < (b.toNat : Int)) = false := by simp; omega
      clear h
      generalize octRead (b :: t) = R at *
      go_enter Tryz.func92, Tryz.ntmps92
      go_wp2_with fail
      refine Hr.out.mono ?_
      rintro e w' ⟨rfl, rfl⟩
      go_wp2
      go_ret2
      rw [Hq.out]
      exact ⟨rfl, rfl⟩
    · have Hq := Lib.hid (show sRead b t = (0, false) from if_neg (fun e => h2 e.2))
      have e2 : decide (127 < (b.toNat : Int)) = true := by simp; omega
      clear h h2
      generalize octRead (b :: t) = R at *
      go_enter Tryz.func92, Tryz.ntmps92
      go_wp2_with fail
      refine Hr.out.mono ?_
      rintro e w' ⟨rfl, rfl⟩
      go_wp2
      go_ret2
      rw [Hq.out]
      exact ⟨rfl, rfl⟩
  · have e1 : ((octRead (b :: t)).2 != 0) = true := by rw [bne_iff_ne]; exact h
    have Hq := Lib.hid (show sRead b t = (0, false) from if_neg (fun e => h e.1))
    clear h
    generalize octRead (b :: t) = R at *
    go_enter Tryz.func92, Tryz.ntmps92
    go_wp2_with fail
    refine Hr.out.mono ?_
    rintro e w' ⟨rfl, rfl⟩
    go_wp2
    go_ret2
    rw [Hq.out]
    exact ⟨rfl, rfl⟩

set_option maxRecDepth 100000 in
theorem sRight_any (l : List UInt8) (w : World) :
    Calls Tryz.prog 45 #[.string ⟨l.toArray⟩] w fun e w' => Below w.heap.size w w' ∧ e = .returned (.bool (sRight l)) := by
  by_cases h : l.length = 512
  · obtain ⟨b, t, hf, htl, -⟩ := fieldOf_parts l h
    have Hbl := Lib.hid (blanked_cells l h)
    have Hq := Lib.hid (show sRight l = ((sRead b t).2 && (((sRead b t).1 == bSum false l) || ((sRead b t).1 == bSum true l))) by unfold sRight; rw [hf, decide_eq_true h]; rfl)
    have Hr := Lib.hid (sRead_any b t w (by omega))
    have Hn := Lib.hid (numbersOf_any l w h)
    have Hs := Lib.hid (fun w1 => sum_any (blanked l) w1 (blanked_length l h))
    have Hg := Lib.hid (fun w1 => signed_any (blanked l) w1 (blanked_length l h))
    have hsl : ∀ W : World, (Instr.slice 9 (.string ⟨l.toArray⟩) (some (.int .i64 148)) (some (.int .i64 156)) none).run Tryz.prog W = .ok (.string ⟨(b :: t).toArray⟩) W := by
      intro W
      rw [run_slice_string W _ _ _ _ _ _ Tryz.underlying9 (by omega) (by omega) (by simp [ByteArray.size]; omega)]
      have he := str_extract l 148 156
      change _ = (⟨(fieldOf l).toArray⟩ : ByteArray) at he
      rw [hf] at he
      exact congrArg (fun s => Result.ok (Value.string s) W) he
    have e1 : ((l.length : Int) != 512) = false := by simp [h]
    clear h hf
    change Hid (sRight l = ((sRead b t).2 && (((sRead b t).1 == sumL uns (blanked l)) || ((sRead b t).1 == sumL sgn (blanked l))))) at Hq
    generalize sumL uns (blanked l) = U at *
    generalize sumL sgn (blanked l) = G at *
    generalize sRight l = R at *
    rcases hsr : sRead b t with ⟨v, ok⟩
    rw [hsr] at Hq Hr
    clear hsr
    have hz := (zero_of_info info_numbers).1
    obtain ⟨Z, hZ⟩ : ∃ Z, Z = byteCells (List.replicate 512 0) := ⟨_, rfl⟩
    have HZ := Lib.hid hZ
    rw [← hZ] at hz
    clear hZ
    have hs1 := Lib.hid (show (Tryz.prog.info? 170).map (·.size) = some (byteCells (blanked l)).toArray.size by rw [numbers_size, Hbl.out])
    have hs2 := Lib.hid (show Z.toArray.size = (byteCells (blanked l)).toArray.size by rw [HZ.out, nought_cells, Hbl.out])
    have hone := Lib.hid (byteCells_oneCell (blanked l))
    generalize byteCells (blanked l) = B at *
    cases ok
    · go_enter Tryz.func45, Tryz.ntmps45
      go_wp2_with fail
      refine Hr.out.mono ?_
      rintro e w' ⟨rfl, rfl⟩
      go_wp2
      go_ret
      rw [Hq.out]
      exact ⟨Below.refl _ _, rfl⟩
    · go_enter Tryz.func45, Tryz.ntmps45
      go_wp2_with fail
      refine Hr.out.mono ?_
      rintro e w' ⟨rfl, rfl⟩
      go_wp2_with fail
      refine Hn.out.mono ?_
      rintro e w1 ⟨hb1, rfl⟩
      have Hb1 := Lib.hid hb1
      clear hb1
      have Hst := Lib.hid (heap_alloc_last w1 (.cells Z.toArray 170))
      have Hld := Lib.hid (heap_alloc_last w1 (.cells B.toArray 170))
      go_wp2_with (first
        | (refine wpList_load_row rfl 170 _ rfl w1.heap.size rfl _ _ _ _ Hld.out Tryz.underlying170 rfl hs1.out ?_)
        | (refine wpList_store_row rfl 170 _ _ rfl w1.heap.size B.toArray rfl rfl _ _ Hst.out hs1.out hs2.out hone.out ?_; rw [World.setRow_alloc_new])
        | fail)
      refine (Hs.out _).mono ?_
      rintro e w2 ⟨hb2, rfl⟩
      have Hb2 := Lib.hid hb2
      have Hb12 := Lib.hid ((Hb1.out.alloc Hb1.out.size _).trans (hb2.mono (by rw [World.size_alloc]; have := Hb1.out.size; omega)))
      have Hld2 := Lib.hid ((hb2.block w1.heap.size (by rw [World.size_alloc]; omega)).trans Hld.out)
      clear hb2
      by_cases hv : (v == U) = true
      · obtain rfl : v = U := by simpa using hv
        clear hv
        go_wp2_with fail
        go_ret
        rw [Hq.out]
        exact ⟨Hb12.out, by simp⟩
      · have hv' : (v == U) = false := by simpa using hv
        clear hv
        have Hq2 := Lib.hid (show R = (v == G) by rw [Hq.out, hv']; rfl)
        go_wp2_with (first
          | (refine BigFrame.wpList_want rfl (fun K hK => wp_load_row 170 _ rfl w1.heap.size rfl _ _ _ _ Hld2.out Tryz.underlying170 rfl hs1.out (hK _ _ ?_)))
          | fail)
        refine (Hg.out _).mono ?_
        rintro e w3 ⟨hb3, rfl⟩
        have Hb3 := Lib.hid (Hb12.out.trans (hb3.mono Hb12.out.size))
        clear hb3
        go_wp2
        go_ret
        rw [Hq2.out]
        exact ⟨Hb3.out, rfl⟩
  · have Hq := Lib.hid (show sRight l = false by unfold sRight; rw [decide_eq_false h]; rfl)
    have e1 : ((l.length : Int) != 512) = true := by rw [bne_iff_ne]; omega
    clear h
    go_enter Tryz.func45, Tryz.ntmps45
    go_wp2
    go_ret
    rw [Hq.out]
    exact ⟨Below.refl _ _, rfl⟩
end Go.Proofs.YtjmmecokfijglaaGreatDoor
