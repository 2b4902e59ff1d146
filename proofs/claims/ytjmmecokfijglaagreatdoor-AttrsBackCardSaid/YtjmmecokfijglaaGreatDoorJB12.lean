/-
  Texts of this seat's proof, joined: their order is that of the build.
-/
import Derived.Test.YtjmmecokfijglaaGreatDoorJB09
import Derived.Test.YtjmmecokfijglaaGreatDoorJB11
import Derived.Test.YtjmmecokfijglaaGreatDoorJB01
import Derived.Deep.CutBlock
import Derived.Deep.DeepCutAuto
namespace Go.Proofs.YtjmmecokfijglaaGreatDoor
open Go.ChangeShapes Go.WideShapes Go.ChangeAt Go.RowKit

theorem p10_16 (c : Nat) (h : c ≤ 16) (x : Int) (hx : x < 10 ^ c) : x ≤ 9999999999999999 := by
  have h2 : (10 : Nat) ^ c ≤ 10 ^ 16 := Nat.pow_le_pow_right (by decide) h
  have e : (((10 : Nat) ^ c : Nat) : Int) = (10 : Int) ^ c := by simp
  have e2 : (10 : Nat) ^ 16 = 10000000000000000 := by decide
  omega
theorem p10_9 (c : Nat) (h : c ≤ 9) (x : Int) (hx : x < 10 ^ c) : x ≤ 999999999 := by
  have h2 : (10 : Nat) ^ c ≤ 10 ^ 9 := Nat.pow_le_pow_right (by decide) h
  have e : (((10 : Nat) ^ c : Nat) : Int) = (10 : Int) ^ c := by simp
  have e2 : (10 : Nat) ^ 9 = 1000000000 := by decide
  omega
theorem p10_step (c : Nat) (x d : Int) (hx : x < 10 ^ c) (hd : d ≤ 9) : 10 * x + d < 10 ^ (c + 1) := by
  rw [Int.pow_succ]
  omega

theorem refStParse_bad (l : List UInt8) {x : Int} {c : Nat} {R : List UInt8} (h : run17 0 0 (numOf l) = (x, c, R)) (hb : c < 1 ∨ 16 < c ∨ refFrac R = none) : refStParse l = ((0, 0), 2) := by
  unfold refStParse
  rw [h]
  by_cases h1 : c < 1 ∨ 16 < c
  · exact if_pos h1
  · rw [if_neg h1]
    have : refFrac R = none := by rcases hb with h | h | h; exact absurd (.inl h) h1; exact absurd (.inr h) h1; exact h
    simp only [this]
theorem refStParse_good (l : List UInt8) {x y : Int} {c : Nat} {R : List UInt8} (h : run17 0 0 (numOf l) = (x, c, R)) (h1 : ¬ (c < 1 ∨ 16 < c)) (h2 : refFrac R = some y) : refStParse l = stTail (minusOf l) (x, y) := by
  unfold refStParse
  rw [h, if_neg h1]
  simp only [h2]
theorem refFrac_bad {r : List UInt8} {y : Int} {c : Nat} {R : List UInt8} (h : run9 0 0 r = (y, c, R)) (hb : c < 1 ∨ 40 < c ∨ R ≠ []) : refFrac (46 :: r) = none := by
  show (if (46 : UInt8) = 46 then (if (run9 0 0 r).2.1 < 1 ∨ 40 < (run9 0 0 r).2.1 ∨ (run9 0 0 r).2.2 ≠ [] then none else some (pad10 (9 - (run9 0 0 r).2.1) (run9 0 0 r).1)) else none) = none
  rw [if_pos rfl, h, if_pos hb]
theorem refFrac_good {r : List UInt8} {y : Int} {c : Nat} (h : run9 0 0 r = (y, c, [])) (hb : ¬ (c < 1 ∨ 40 < c)) : refFrac (46 :: r) = some (pad10 (9 - c) y) := by
  show (if (46 : UInt8) = 46 then (if (run9 0 0 r).2.1 < 1 ∨ 40 < (run9 0 0 r).2.1 ∨ (run9 0 0 r).2.2 ≠ [] then none else some (pad10 (9 - (run9 0 0 r).2.1) (run9 0 0 r).1)) else none) = _
  rw [if_pos rfl, h, if_neg (by intro hh; rcases hh with h1 | h1 | h1; exact hb (.inl h1); exact hb (.inr h1); exact h1 rfl)]

set_option maxRecDepth 100000 in
set_option maxHeartbeats 1000000 in
theorem refParse_any (l : List UInt8) (w : World) (hl : l.length ≤ 2000) :
    Calls Tryz.prog 32 #[.string ⟨l.toArray⟩] w fun e w' => w = w' ∧ e = .returned (.tuple #[.int .i64 (stParse l).1.1, .int .i64 (stParse l).1.2, .int .i64 (stParse l).2]) := by
  rw [← refStParse_eq]
  rcases l with _ | ⟨b, t⟩
  · have Hq := Lib.hid (show refStParse [] = ((0, 0), 2) from rfl)
    go_enter Tryz.func32, Tryz.ntmps32
    go_wp2
    go_loop [5, 7, 8] (fun i v n => i = .int .i64 0 ∧ v = .int .i64 0 ∧ n = .int .i64 0) (fun _ _ _ => 0)
    case atStart => exact ⟨rfl, rfl, rfl⟩
    case round =>
      obtain ⟨rfl, rfl, rfl⟩ := hrel
      go_wp2
      go_ret3
      rw [Hq.out]
      exact ⟨rfl, rfl⟩
  · have hm : ∃ m : Bool, minusOf (b :: t) = m ∧ ((b.toNat : Int) == 45) = m := by
      refine ⟨_, rfl, ?_⟩
      show _ = ((45 == b) && true)
      rw [Bool.and_true, Bool.eq_iff_iff, beq_iff_eq, beq_iff_eq]
      constructor
      · intro h; exact UInt8.toNat_inj.1 (by have : (45 : UInt8).toNat = 45 := rfl; omega)
      · intro h; rw [← h]; rfl
    obtain ⟨mi, hm1, hm2⟩ := hm
    have Hm1 := Lib.hid hm1
    have Hnum := Lib.hid (show numOf (b :: t) = if mi then t else b :: t by unfold numOf; rw [hm1]; rfl)
    clear hm1
    have hlen : (b :: t).length = t.length + 1 := rfl
    have hl2 : t.length ≤ 1999 := by omega
    clear hlen hl
    cases mi
    · go_enter Tryz.func32, Tryz.ntmps32
      go_upto_block 0 with (fail)
      go_cut [5, 7, 8] (fun i v n wx => (∃ (k c : Nat) (x : Int), k ≤ t.length + 1 ∧ c ≤ 17 ∧ 0 ≤ x ∧ x < 10 ^ c ∧ i = .int .i64 k ∧ v = .int .i64 x ∧ n = .int .i64 c ∧ run17 0 0 (numOf (b :: t)) = (x, c, (b :: t).drop k)) ∧ wx = w)
      case first =>
        go_wp2_with (fail)
        go_loop [5, 7, 8] (fun i v n => ∃ (k c : Nat) (x : Int), k ≤ t.length + 1 ∧ c ≤ 17 ∧ 0 ≤ x ∧ x < 10 ^ c ∧ i = .int .i64 k ∧ v = .int .i64 x ∧ n = .int .i64 c ∧ run17 c x ((b :: t).drop k) = run17 0 0 (numOf (b :: t))) (fun i _ _ => t.length + 1 - (intOf i).toNat)
        case atStart => exact ⟨0, 0, 0, by omega, by omega, by decide, by decide, rfl, rfl, rfl, by rw [Hnum.out]; rfl⟩
        case round =>
          obtain ⟨k, c, x, hk, hc, hx0, hx1, rfl, rfl, rfl, hs⟩ := hrel
          have Hs := Lib.hid hs
          have Hx := Lib.hid hx1
          clear hs hx1
          by_cases hlt : k < t.length + 1
          · have hd := Lib.hid (drop_at (l := b :: t) (k := k) (by simpa using hlt))
            have hby := byte_lt ((b :: t)[k]'(by simpa using hlt))
            by_cases hdig : 48 ≤ (((b :: t)[k]'(by simpa using hlt)).toNat : Int) ∧ (((b :: t)[k]'(by simpa using hlt)).toNat : Int) ≤ 57
            · by_cases hc17 : c < 17
              · have Hn := Lib.hid (show run17 (c + 1) (10 * x + (b :: t)[k].toNat - 48) ((b :: t).drop (k + 1)) = run17 0 0 (numOf (b :: t)) by
                  rw [← Hs.out, hd.out, run17_cons, if_pos ⟨isDig_mk hdig.1 hdig.2, hc17⟩])
                have Hx2 := Lib.hid (show 10 * x + (b :: t)[k].toNat - 48 < 10 ^ (c + 1) by have := p10_step c x (((b :: t)[k].toNat : Int) - 48) Hx.out (by omega); omega)
                have hxb := p10_16 c (by omega) x Hx.out
                have dd : decide (48 ≤ ((b :: t)[k].toNat : Int) ∧ ((b :: t)[k].toNat : Int) ≤ 57) = true := decide_eq_true hdig
                have Hdig := Lib.hid (digit_any ((b :: t)[k].toNat : Int) w)
                rw [dd] at Hdig
                obtain ⟨d0, d1⟩ := hdig
                clear dd
                go_wp2_with fail
                refine Hdig.out.mono ?_
                rintro e w' ⟨rfl, rfl⟩
                go_wp2
                go_round
                case rel => exact ⟨k + 1, c + 1, _, by omega, by omega, by omega, Hx2.out, by go_num, rfl, by go_num, Hn.out⟩
                case measure => simp [intOf]; omega
              · have Hn := Lib.hid (show run17 0 0 (numOf (b :: t)) = (x, c, (b :: t).drop k) by rw [← Hs.out, hd.out, run17_cons, if_neg (fun e => hc17 e.2)])
                have dd : decide (48 ≤ ((b :: t)[k].toNat : Int) ∧ ((b :: t)[k].toNat : Int) ≤ 57) = true := decide_eq_true hdig
                have Hdig := Lib.hid (digit_any ((b :: t)[k].toNat : Int) w)
                rw [dd] at Hdig
                clear dd hdig
                go_wp2_with fail
                refine Hdig.out.mono ?_
                rintro e w' ⟨rfl, rfl⟩
                go_wp2
                go_meet
                case rel => exact ⟨⟨k, c, x, by omega, hc, hx0, Hx.out, rfl, rfl, rfl, Hn.out⟩, rfl⟩
            · have Hn := Lib.hid (show run17 0 0 (numOf (b :: t)) = (x, c, (b :: t).drop k) by
                rw [← Hs.out, hd.out, run17_cons, if_neg (fun e => hdig (isDig_true e.1))])
              have dd : decide (48 ≤ ((b :: t)[k].toNat : Int) ∧ ((b :: t)[k].toNat : Int) ≤ 57) = false := decide_eq_false hdig
              have Hdig := Lib.hid (digit_any ((b :: t)[k].toNat : Int) w)
              rw [dd] at Hdig
              clear dd hdig
              go_wp2_with fail
              refine Hdig.out.mono ?_
              rintro e w' ⟨rfl, rfl⟩
              go_wp2
              go_meet
              case rel => exact ⟨⟨k, c, x, by omega, hc, hx0, Hx.out, rfl, rfl, rfl, Hn.out⟩, rfl⟩
          · have Hn := Lib.hid (show run17 0 0 (numOf (b :: t)) = (x, c, (b :: t).drop k) by rw [← Hs.out, List.drop_of_length_le (by simp; omega)]; rfl)
            go_wp2
            go_meet
            case rel => exact ⟨⟨k, c, x, by omega, hc, hx0, Hx.out, rfl, rfl, rfl, Hn.out⟩, rfl⟩
      case rest =>
        obtain ⟨⟨k, c, x, hk, hc, hx0, hx1, rfl, rfl, rfl, hrun⟩, rfl⟩ := hcut
        have Hx := Lib.hid hx1
        have Hrun := Lib.hid hrun
        clear hx1 hrun
        by_cases hbad : c < 1 ∨ 16 < c
        · have Hq := Lib.hid (refStParse_bad (b :: t) Hrun.out (by omega))
          rcases hbad with h | h
          all_goals
            go_wp2
            go_ret3
            rw [Hq.out]
            exact ⟨rfl, rfl⟩
        · have hxb := p10_16 c (by omega) x Hx.out
          have c1 : ¬ c < 1 := by omega
          have c2 : ¬ 16 < c := by omega
          by_cases hlt : k < t.length + 1
          · have hlti : (k : Int) < (t.length : Int) + 1 := by omega
            go_upto_if 55 with (fail)
            go_cut [5, 9, 10] (fun _ f _ wx => (∃ y : Int, f = .int .i64 y ∧ refFrac ((b :: t).drop k) = some y ∧ 0 ≤ y ∧ y ≤ 999999999) ∧ wx = wc)
            case first =>
              have hd := Lib.hid (drop_at (l := b :: t) (k := k) (by simpa using hlt))
              have hby := byte_lt ((b :: t)[k]'(by simpa using hlt))
              by_cases h46 : (((b :: t)[k]'(by simpa using hlt)).toNat : Int) = 46
              · have e3 : (((b :: t)[k].toNat : Int) != 46) = false := by simpa using h46
                have e4 : (((b :: t)[k].toNat : Int) == 46) = true := by simpa using h46
                have Hb46 := Lib.hid (show (b :: t)[k] = 46 from UInt8.toNat_inj.1 (by have : (46 : UInt8).toNat = 46 := rfl; omega))
                clear h46
                go_upto_block 2 with (fail)
                go_cut [5, 9, 10] (fun i f m wx => (∃ (j c' : Nat) (y : Int), j ≤ t.length + 1 ∧ c' ≤ 2000 ∧ 0 ≤ y ∧ y < 10 ^ (min c' 9) ∧ i = .int .i64 j ∧ f = .int .i64 y ∧ m = .int .i64 c' ∧ run9 0 0 ((b :: t).drop (k + 1)) = (y, c', (b :: t).drop j)) ∧ wx = wc)
                case first =>
                  go_wp2_with (fail)
                  go_loop [5, 9, 10] (fun i f m => ∃ (j c' : Nat) (y : Int), j ≤ t.length + 1 ∧ c' + (t.length + 1 - j) ≤ 2000 ∧ 0 ≤ y ∧ y < 10 ^ (min c' 9) ∧ i = .int .i64 j ∧ f = .int .i64 y ∧ m = .int .i64 c' ∧ run9 c' y ((b :: t).drop j) = run9 0 0 ((b :: t).drop (k + 1))) (fun i _ _ => t.length + 1 - (intOf i).toNat)
                  case atStart => exact ⟨k + 1, 0, 0, by omega, by omega, by decide, by decide, by go_num, rfl, rfl, rfl⟩
                  case round =>
                    obtain ⟨j, c', y, hj, hc', hy0, hy1, rfl, rfl, rfl, hs⟩ := hrel
                    have Hs := Lib.hid hs
                    have Hy := Lib.hid hy1
                    clear hs hy1
                    by_cases hltj : j < t.length + 1
                    · have hdj := Lib.hid (drop_at (l := b :: t) (k := j) (by simpa using hltj))
                      have hbyj := byte_lt ((b :: t)[j]'(by simpa using hltj))
                      by_cases hdig : 48 ≤ (((b :: t)[j]'(by simpa using hltj)).toNat : Int) ∧ (((b :: t)[j]'(by simpa using hltj)).toNat : Int) ≤ 57
                      · have Hn := Lib.hid (show run9 (c' + 1) (if c' < 9 then 10 * y + (b :: t)[j].toNat - 48 else y) ((b :: t).drop (j + 1)) = run9 0 0 ((b :: t).drop (k + 1)) by
                          rw [← Hs.out, hdj.out, run9_cons, if_pos (isDig_mk hdig.1 hdig.2)])
                        have dd : decide (48 ≤ ((b :: t)[j].toNat : Int) ∧ ((b :: t)[j].toNat : Int) ≤ 57) = true := decide_eq_true hdig
                        have Hdig := Lib.hid (digit_any ((b :: t)[j].toNat : Int) wc)
                        rw [dd] at Hdig
                        have hyb := p10_9 (min c' 9) (by omega) y Hy.out
                        by_cases h9 : c' < 9
                        · have Hn2 := Lib.hid (show run9 (c' + 1) (10 * y + (b :: t)[j].toNat - 48) ((b :: t).drop (j + 1)) = run9 0 0 ((b :: t).drop (k + 1)) by rw [← Hn.out, if_pos h9])
                          have Hy2 := Lib.hid (show 10 * y + (b :: t)[j].toNat - 48 < 10 ^ (min (c' + 1) 9) by
                            have := p10_step (min c' 9) y (((b :: t)[j].toNat : Int) - 48) Hy.out (by omega)
                            rw [show min (c' + 1) 9 = min c' 9 + 1 by omega]; omega)
                          obtain ⟨d0, d1⟩ := hdig
                          clear dd
                          go_wp2_with fail
                          refine Hdig.out.mono ?_
                          rintro e w' ⟨rfl, rfl⟩
                          go_wp2
                          go_round
                          case rel => exact ⟨j + 1, c' + 1, _, by omega, by omega, by omega, Hy2.out, by go_num, rfl, by go_num, Hn2.out⟩
                          case measure => simp [intOf]; omega
                        · have Hn2 := Lib.hid (show run9 (c' + 1) y ((b :: t).drop (j + 1)) = run9 0 0 ((b :: t).drop (k + 1)) by rw [← Hn.out, if_neg h9])
                          have Hy2 := Lib.hid (show y < 10 ^ (min (c' + 1) 9) by rw [show min (c' + 1) 9 = min c' 9 by omega]; exact Hy.out)
                          clear dd hdig
                          go_wp2_with fail
                          refine Hdig.out.mono ?_
                          rintro e w' ⟨rfl, rfl⟩
                          go_wp2
                          go_round
                          case rel => exact ⟨j + 1, c' + 1, _, by omega, by omega, hy0, Hy2.out, by go_num, rfl, by go_num, Hn2.out⟩
                          case measure => simp [intOf]; omega
                      · have Hn := Lib.hid (show run9 0 0 ((b :: t).drop (k + 1)) = (y, c', (b :: t).drop j) by
                          rw [← Hs.out, hdj.out, run9_cons, if_neg (fun e => hdig (isDig_true e))])
                        have dd : decide (48 ≤ ((b :: t)[j].toNat : Int) ∧ ((b :: t)[j].toNat : Int) ≤ 57) = false := decide_eq_false hdig
                        have Hdig := Lib.hid (digit_any ((b :: t)[j].toNat : Int) wc)
                        rw [dd] at Hdig
                        clear dd hdig
                        go_wp2_with fail
                        refine Hdig.out.mono ?_
                        rintro e w' ⟨rfl, rfl⟩
                        go_wp2
                        go_meet
                        case rel => exact ⟨⟨j, c', y, by omega, by omega, hy0, Hy.out, rfl, rfl, rfl, Hn.out⟩, rfl⟩
                    · have Hn := Lib.hid (show run9 0 0 ((b :: t).drop (k + 1)) = (y, c', (b :: t).drop j) by rw [← Hs.out, List.drop_of_length_le (by simp; omega)]; rfl)
                      go_wp2
                      go_meet
                      case rel => exact ⟨⟨j, c', y, by omega, by omega, hy0, Hy.out, rfl, rfl, rfl, Hn.out⟩, rfl⟩
                case rest =>
                  obtain ⟨⟨j, c', y, hj, hc', hy0, hy1, rfl, rfl, rfl, hr9⟩, rfl⟩ := hcut
                  have Hy := Lib.hid hy1
                  have Hr9 := Lib.hid hr9
                  clear hy1 hr9
                  have hyb := p10_9 (min c' 9) (by omega) y Hy.out
                  by_cases hbad2 : c' < 1 ∨ 40 < c' ∨ j < t.length + 1
                  · have Hf := Lib.hid (show refFrac ((b :: t).drop k) = none by
                      rw [hd.out, Hb46.out]
                      exact refFrac_bad Hr9.out (by
                        rcases hbad2 with h | h | h
                        · exact .inl h
                        · exact .inr (.inl h)
                        · exact .inr (.inr (by intro e; have := congrArg List.length e; rw [List.length_drop] at this; simp at this; omega))))
                    have Hq := Lib.hid (refStParse_bad (b :: t) Hrun.out (.inr (.inr Hf.out)))
                    by_cases g1 : c' < 1
                    · go_wp2
                      go_ret3
                      rw [Hq.out]
                      exact ⟨rfl, rfl⟩
                    · by_cases g2 : 40 < c'
                      · go_wp2
                        go_ret3
                        rw [Hq.out]
                        exact ⟨rfl, rfl⟩
                      · have g3 : j < t.length + 1 := by omega
                        clear hbad2
                        go_wp2
                        go_ret3
                        rw [Hq.out]
                        exact ⟨rfl, rfl⟩
                  · have Hf := Lib.hid (show refFrac ((b :: t).drop k) = some (pad10 (9 - c') y) by
                      rw [hd.out, Hb46.out]
                      refine refFrac_good ?_ (by omega)
                      rw [Hr9.out, List.drop_of_length_le (l := b :: t) (by simp; omega)])
                    have g1 : ¬ c' < 1 := by omega
                    have g2 : ¬ 40 < c' := by omega
                    have g3 : ¬ j < t.length + 1 := by omega
                    clear hbad2
                    go_wp2
                    go_loop [9, 10] (fun f m => ∃ (c2 : Nat) (y2 : Int), c2 ≤ 2000 ∧ 0 ≤ y2 ∧ y2 < 10 ^ (min c2 9) ∧ f = .int .i64 y2 ∧ m = .int .i64 c2 ∧ pad10 (9 - c2) y2 = pad10 (9 - c') y) (fun _ m => 9 - (intOf m).toNat)
                    case atStart => exact ⟨c', y, hc', hy0, Hy.out, rfl, rfl, rfl⟩
                    case round =>
                      obtain ⟨c2, y2, hc2, hy20, hy21, rfl, rfl, hp⟩ := hrel
                      have Hy2 := Lib.hid hy21
                      have Hp := Lib.hid hp
                      clear hy21 hp
                      have hyb2 := p10_9 (min c2 9) (by omega) y2 Hy2.out
                      by_cases h9 : c2 < 9
                      · have Hn := Lib.hid (show pad10 (9 - (c2 + 1)) (10 * y2) = pad10 (9 - c') y by rw [← Hp.out, show 9 - c2 = (9 - (c2 + 1)) + 1 by omega, pad10_succ])
                        have Hy3 := Lib.hid (show 10 * y2 < 10 ^ (min (c2 + 1) 9) by
                            have := p10_step (min c2 9) y2 0 Hy2.out (by omega)
                            rw [show min (c2 + 1) 9 = min c2 9 + 1 by omega]; omega)
                        go_wp2
                        go_round
                        case rel => exact ⟨c2 + 1, _, by omega, by omega, Hy3.out, rfl, by go_num, Hn.out⟩
                        case measure => simp [intOf]; omega
                      · have Hn := Lib.hid (show refFrac ((b :: t).drop k) = some y2 by rw [Hf.out, ← Hp.out, show 9 - c2 = 0 by omega]; rfl)
                        go_wp2
                        go_meet
                        case rel => exact ⟨⟨y2, rfl, Hn.out, hy20, hyb2⟩, rfl⟩
              · have e3 : (((b :: t)[k].toNat : Int) != 46) = true := by simpa using h46
                have e4 : (((b :: t)[k].toNat : Int) == 46) = false := by simpa using h46
                have Hf := Lib.hid (show refFrac ((b :: t).drop k) = none by
                  rw [hd.out]
                  exact if_neg (by intro e; rw [e] at h46; exact h46 rfl))
                have Hq := Lib.hid (refStParse_bad (b :: t) Hrun.out (.inr (.inr Hf.out)))
                clear h46
                go_wp2
                go_ret3
                rw [Hq.out]
                exact ⟨rfl, rfl⟩
            case rest =>
              obtain ⟨⟨y, rfl, hf, hy0, hy1⟩, rfl⟩ := hcut
              have Hq := Lib.hid (refStParse_good (b :: t) Hrun.out hbad hf)
              rw [Hm1.out] at Hq
              clear hf hbad
              have Hq2 := Lib.hid (show refStParse (b :: t) = if stRight x y = true then ((x, y), 0) else ((0, 0), 6) by rw [Hq.out]; rfl)
              by_cases hR : stRight (x) (y) = true
              · have Hq3 := Lib.hid (show refStParse (b :: t) = ((x, y), 0) by rw [Hq2.out, if_pos hR])
                go_wp2_with fail
                refine (refStRight_any (x) (y) _).mono ?_
                rw [hR]
                rintro e w' ⟨rfl, rfl⟩
                go_wp2
                go_ret3
                rw [Hq3.out]
                exact ⟨rfl, rfl⟩
              · have hR' : stRight (x) (y) = false := by simpa using hR
                have Hq3 := Lib.hid (show refStParse (b :: t) = ((0, 0), 6) by rw [Hq2.out, if_neg hR])
                go_wp2_with fail
                refine (refStRight_any (x) (y) _).mono ?_
                rw [hR']
                rintro e w' ⟨rfl, rfl⟩
                go_wp2
                go_ret3
                rw [Hq3.out]
                exact ⟨rfl, rfl⟩
          · have hf : refFrac ((b :: t).drop k) = some 0 := by rw [List.drop_of_length_le (by simp; omega)]; rfl
            have hlti : ¬ (k : Int) < (t.length : Int) + 1 := by omega
            have Hq := Lib.hid (refStParse_good (b :: t) Hrun.out hbad hf)
            rw [Hm1.out] at Hq
            clear hf hbad
            have Hq2 := Lib.hid (show refStParse (b :: t) = if stRight x 0 = true then ((x, 0), 0) else ((0, 0), 6) by rw [Hq.out]; rfl)
            by_cases hR : stRight (x) (0) = true
            · have Hq3 := Lib.hid (show refStParse (b :: t) = ((x, 0), 0) by rw [Hq2.out, if_pos hR])
              go_wp2_with fail
              refine (refStRight_any (x) (0) _).mono ?_
              rw [hR]
              rintro e w' ⟨rfl, rfl⟩
              go_wp2
              go_ret3
              rw [Hq3.out]
              exact ⟨rfl, rfl⟩
            · have hR' : stRight (x) (0) = false := by simpa using hR
              have Hq3 := Lib.hid (show refStParse (b :: t) = ((0, 0), 6) by rw [Hq2.out, if_neg hR])
              go_wp2_with fail
              refine (refStRight_any (x) (0) _).mono ?_
              rw [hR']
              rintro e w' ⟨rfl, rfl⟩
              go_wp2
              go_ret3
              rw [Hq3.out]
              exact ⟨rfl, rfl⟩
    · go_enter Tryz.func32, Tryz.ntmps32
      go_upto_block 0 with (fail)
      go_cut [5, 7, 8] (fun i v n wx => (∃ (k c : Nat) (x : Int), k ≤ t.length + 1 ∧ c ≤ 17 ∧ 0 ≤ x ∧ x < 10 ^ c ∧ i = .int .i64 k ∧ v = .int .i64 x ∧ n = .int .i64 c ∧ run17 0 0 (numOf (b :: t)) = (x, c, (b :: t).drop k)) ∧ wx = w)
      case first =>
        go_wp2_with (fail)
        go_loop [5, 7, 8] (fun i v n => ∃ (k c : Nat) (x : Int), k ≤ t.length + 1 ∧ c ≤ 17 ∧ 0 ≤ x ∧ x < 10 ^ c ∧ i = .int .i64 k ∧ v = .int .i64 x ∧ n = .int .i64 c ∧ run17 c x ((b :: t).drop k) = run17 0 0 (numOf (b :: t))) (fun i _ _ => t.length + 1 - (intOf i).toNat)
        case atStart => exact ⟨1, 0, 0, by omega, by omega, by decide, by decide, rfl, rfl, rfl, by rw [Hnum.out]; rfl⟩
        case round =>
          obtain ⟨k, c, x, hk, hc, hx0, hx1, rfl, rfl, rfl, hs⟩ := hrel
          have Hs := Lib.hid hs
          have Hx := Lib.hid hx1
          clear hs hx1
          by_cases hlt : k < t.length + 1
          · have hd := Lib.hid (drop_at (l := b :: t) (k := k) (by simpa using hlt))
            have hby := byte_lt ((b :: t)[k]'(by simpa using hlt))
            by_cases hdig : 48 ≤ (((b :: t)[k]'(by simpa using hlt)).toNat : Int) ∧ (((b :: t)[k]'(by simpa using hlt)).toNat : Int) ≤ 57
            · by_cases hc17 : c < 17
              · have Hn := Lib.hid (show run17 (c + 1) (10 * x + (b :: t)[k].toNat - 48) ((b :: t).drop (k + 1)) = run17 0 0 (numOf (b :: t)) by
                  rw [← Hs.out, hd.out, run17_cons, if_pos ⟨isDig_mk hdig.1 hdig.2, hc17⟩])
                have Hx2 := Lib.hid (show 10 * x + (b :: t)[k].toNat - 48 < 10 ^ (c + 1) by have := p10_step c x (((b :: t)[k].toNat : Int) - 48) Hx.out (by omega); omega)
                have hxb := p10_16 c (by omega) x Hx.out
                have dd : decide (48 ≤ ((b :: t)[k].toNat : Int) ∧ ((b :: t)[k].toNat : Int) ≤ 57) = true := decide_eq_true hdig
                have Hdig := Lib.hid (digit_any ((b :: t)[k].toNat : Int) w)
                rw [dd] at Hdig
                obtain ⟨d0, d1⟩ := hdig
                clear dd
                go_wp2_with fail
                refine Hdig.out.mono ?_
                rintro e w' ⟨rfl, rfl⟩
                go_wp2
                go_round
                case rel => exact ⟨k + 1, c + 1, _, by omega, by omega, by omega, Hx2.out, by go_num, rfl, by go_num, Hn.out⟩
                case measure => simp [intOf]; omega
              · have Hn := Lib.hid (show run17 0 0 (numOf (b :: t)) = (x, c, (b :: t).drop k) by rw [← Hs.out, hd.out, run17_cons, if_neg (fun e => hc17 e.2)])
                have dd : decide (48 ≤ ((b :: t)[k].toNat : Int) ∧ ((b :: t)[k].toNat : Int) ≤ 57) = true := decide_eq_true hdig
                have Hdig := Lib.hid (digit_any ((b :: t)[k].toNat : Int) w)
                rw [dd] at Hdig
                clear dd hdig
                go_wp2_with fail
                refine Hdig.out.mono ?_
                rintro e w' ⟨rfl, rfl⟩
                go_wp2
                go_meet
                case rel => exact ⟨⟨k, c, x, by omega, hc, hx0, Hx.out, rfl, rfl, rfl, Hn.out⟩, rfl⟩
            · have Hn := Lib.hid (show run17 0 0 (numOf (b :: t)) = (x, c, (b :: t).drop k) by
                rw [← Hs.out, hd.out, run17_cons, if_neg (fun e => hdig (isDig_true e.1))])
              have dd : decide (48 ≤ ((b :: t)[k].toNat : Int) ∧ ((b :: t)[k].toNat : Int) ≤ 57) = false := decide_eq_false hdig
              have Hdig := Lib.hid (digit_any ((b :: t)[k].toNat : Int) w)
              rw [dd] at Hdig
              clear dd hdig
              go_wp2_with fail
              refine Hdig.out.mono ?_
              rintro e w' ⟨rfl, rfl⟩
              go_wp2
              go_meet
              case rel => exact ⟨⟨k, c, x, by omega, hc, hx0, Hx.out, rfl, rfl, rfl, Hn.out⟩, rfl⟩
          · have Hn := Lib.hid (show run17 0 0 (numOf (b :: t)) = (x, c, (b :: t).drop k) by rw [← Hs.out, List.drop_of_length_le (by simp; omega)]; rfl)
            go_wp2
            go_meet
            case rel => exact ⟨⟨k, c, x, by omega, hc, hx0, Hx.out, rfl, rfl, rfl, Hn.out⟩, rfl⟩
      case rest =>
        obtain ⟨⟨k, c, x, hk, hc, hx0, hx1, rfl, rfl, rfl, hrun⟩, rfl⟩ := hcut
        have Hx := Lib.hid hx1
        have Hrun := Lib.hid hrun
        clear hx1 hrun
        by_cases hbad : c < 1 ∨ 16 < c
        · have Hq := Lib.hid (refStParse_bad (b :: t) Hrun.out (by omega))
          rcases hbad with h | h
          all_goals
            go_wp2
            go_ret3
            rw [Hq.out]
            exact ⟨rfl, rfl⟩
        · have hxb := p10_16 c (by omega) x Hx.out
          have c1 : ¬ c < 1 := by omega
          have c2 : ¬ 16 < c := by omega
          by_cases hlt : k < t.length + 1
          · have hlti : (k : Int) < (t.length : Int) + 1 := by omega
            go_upto_if 55 with (fail)
            go_cut [5, 9, 10] (fun _ f _ wx => (∃ y : Int, f = .int .i64 y ∧ refFrac ((b :: t).drop k) = some y ∧ 0 ≤ y ∧ y ≤ 999999999) ∧ wx = wc)
            case first =>
              have hd := Lib.hid (drop_at (l := b :: t) (k := k) (by simpa using hlt))
              have hby := byte_lt ((b :: t)[k]'(by simpa using hlt))
              by_cases h46 : (((b :: t)[k]'(by simpa using hlt)).toNat : Int) = 46
              · have e3 : (((b :: t)[k].toNat : Int) != 46) = false := by simpa using h46
                have e4 : (((b :: t)[k].toNat : Int) == 46) = true := by simpa using h46
                have Hb46 := Lib.hid (show (b :: t)[k] = 46 from UInt8.toNat_inj.1 (by have : (46 : UInt8).toNat = 46 := rfl; omega))
                clear h46
                go_upto_block 2 with (fail)
                go_cut [5, 9, 10] (fun i f m wx => (∃ (j c' : Nat) (y : Int), j ≤ t.length + 1 ∧ c' ≤ 2000 ∧ 0 ≤ y ∧ y < 10 ^ (min c' 9) ∧ i = .int .i64 j ∧ f = .int .i64 y ∧ m = .int .i64 c' ∧ run9 0 0 ((b :: t).drop (k + 1)) = (y, c', (b :: t).drop j)) ∧ wx = wc)
                case first =>
                  go_wp2_with (fail)
                  go_loop [5, 9, 10] (fun i f m => ∃ (j c' : Nat) (y : Int), j ≤ t.length + 1 ∧ c' + (t.length + 1 - j) ≤ 2000 ∧ 0 ≤ y ∧ y < 10 ^ (min c' 9) ∧ i = .int .i64 j ∧ f = .int .i64 y ∧ m = .int .i64 c' ∧ run9 c' y ((b :: t).drop j) = run9 0 0 ((b :: t).drop (k + 1))) (fun i _ _ => t.length + 1 - (intOf i).toNat)
                  case atStart => exact ⟨k + 1, 0, 0, by omega, by omega, by decide, by decide, by go_num, rfl, rfl, rfl⟩
                  case round =>
                    obtain ⟨j, c', y, hj, hc', hy0, hy1, rfl, rfl, rfl, hs⟩ := hrel
                    have Hs := Lib.hid hs
                    have Hy := Lib.hid hy1
                    clear hs hy1
                    by_cases hltj : j < t.length + 1
                    · have hdj := Lib.hid (drop_at (l := b :: t) (k := j) (by simpa using hltj))
                      have hbyj := byte_lt ((b :: t)[j]'(by simpa using hltj))
                      by_cases hdig : 48 ≤ (((b :: t)[j]'(by simpa using hltj)).toNat : Int) ∧ (((b :: t)[j]'(by simpa using hltj)).toNat : Int) ≤ 57
                      · have Hn := Lib.hid (show run9 (c' + 1) (if c' < 9 then 10 * y + (b :: t)[j].toNat - 48 else y) ((b :: t).drop (j + 1)) = run9 0 0 ((b :: t).drop (k + 1)) by
                          rw [← Hs.out, hdj.out, run9_cons, if_pos (isDig_mk hdig.1 hdig.2)])
                        have dd : decide (48 ≤ ((b :: t)[j].toNat : Int) ∧ ((b :: t)[j].toNat : Int) ≤ 57) = true := decide_eq_true hdig
                        have Hdig := Lib.hid (digit_any ((b :: t)[j].toNat : Int) wc)
                        rw [dd] at Hdig
                        have hyb := p10_9 (min c' 9) (by omega) y Hy.out
                        by_cases h9 : c' < 9
                        · have Hn2 := Lib.hid (show run9 (c' + 1) (10 * y + (b :: t)[j].toNat - 48) ((b :: t).drop (j + 1)) = run9 0 0 ((b :: t).drop (k + 1)) by rw [← Hn.out, if_pos h9])
                          have Hy2 := Lib.hid (show 10 * y + (b :: t)[j].toNat - 48 < 10 ^ (min (c' + 1) 9) by
                            have := p10_step (min c' 9) y (((b :: t)[j].toNat : Int) - 48) Hy.out (by omega)
                            rw [show min (c' + 1) 9 = min c' 9 + 1 by omega]; omega)
                          obtain ⟨d0, d1⟩ := hdig
                          clear dd
                          go_wp2_with fail
                          refine Hdig.out.mono ?_
                          rintro e w' ⟨rfl, rfl⟩
                          go_wp2
                          go_round
                          case rel => exact ⟨j + 1, c' + 1, _, by omega, by omega, by omega, Hy2.out, by go_num, rfl, by go_num, Hn2.out⟩
                          case measure => simp [intOf]; omega
                        · have Hn2 := Lib.hid (show run9 (c' + 1) y ((b :: t).drop (j + 1)) = run9 0 0 ((b :: t).drop (k + 1)) by rw [← Hn.out, if_neg h9])
                          have Hy2 := Lib.hid (show y < 10 ^ (min (c' + 1) 9) by rw [show min (c' + 1) 9 = min c' 9 by omega]; exact Hy.out)
                          clear dd hdig
                          go_wp2_with fail
                          refine Hdig.out.mono ?_
                          rintro e w' ⟨rfl, rfl⟩
                          go_wp2
                          go_round
                          case rel => exact ⟨j + 1, c' + 1, _, by omega, by omega, hy0, Hy2.out, by go_num, rfl, by go_num, Hn2.out⟩
                          case measure => simp [intOf]; omega
                      · have Hn := Lib.hid (show run9 0 0 ((b :: t).drop (k + 1)) = (y, c', (b :: t).drop j) by
                          rw [← Hs.out, hdj.out, run9_cons, if_neg (fun e => hdig (isDig_true e))])
                        have dd : decide (48 ≤ ((b :: t)[j].toNat : Int) ∧ ((b :: t)[j].toNat : Int) ≤ 57) = false := decide_eq_false hdig
                        have Hdig := Lib.hid (digit_any ((b :: t)[j].toNat : Int) wc)
                        rw [dd] at Hdig
                        clear dd hdig
                        go_wp2_with fail
                        refine Hdig.out.mono ?_
                        rintro e w' ⟨rfl, rfl⟩
                        go_wp2
                        go_meet
                        case rel => exact ⟨⟨j, c', y, by omega, by omega, hy0, Hy.out, rfl, rfl, rfl, Hn.out⟩, rfl⟩
                    · have Hn := Lib.hid (show run9 0 0 ((b :: t).drop (k + 1)) = (y, c', (b :: t).drop j) by rw [← Hs.out, List.drop_of_length_le (by simp; omega)]; rfl)
                      go_wp2
                      go_meet
                      case rel => exact ⟨⟨j, c', y, by omega, by omega, hy0, Hy.out, rfl, rfl, rfl, Hn.out⟩, rfl⟩
                case rest =>
                  obtain ⟨⟨j, c', y, hj, hc', hy0, hy1, rfl, rfl, rfl, hr9⟩, rfl⟩ := hcut
                  have Hy := Lib.hid hy1
                  have Hr9 := Lib.hid hr9
                  clear hy1 hr9
                  have hyb := p10_9 (min c' 9) (by omega) y Hy.out
                  by_cases hbad2 : c' < 1 ∨ 40 < c' ∨ j < t.length + 1
                  · have Hf := Lib.hid (show refFrac ((b :: t).drop k) = none by
                      rw [hd.out, Hb46.out]
                      exact refFrac_bad Hr9.out (by
                        rcases hbad2 with h | h | h
                        · exact .inl h
                        · exact .inr (.inl h)
                        · exact .inr (.inr (by intro e; have := congrArg List.length e; rw [List.length_drop] at this; simp at this; omega))))
                    have Hq := Lib.hid (refStParse_bad (b :: t) Hrun.out (.inr (.inr Hf.out)))
                    by_cases g1 : c' < 1
                    · go_wp2
                      go_ret3
                      rw [Hq.out]
                      exact ⟨rfl, rfl⟩
                    · by_cases g2 : 40 < c'
                      · go_wp2
                        go_ret3
                        rw [Hq.out]
                        exact ⟨rfl, rfl⟩
                      · have g3 : j < t.length + 1 := by omega
                        clear hbad2
                        go_wp2
                        go_ret3
                        rw [Hq.out]
                        exact ⟨rfl, rfl⟩
                  · have Hf := Lib.hid (show refFrac ((b :: t).drop k) = some (pad10 (9 - c') y) by
                      rw [hd.out, Hb46.out]
                      refine refFrac_good ?_ (by omega)
                      rw [Hr9.out, List.drop_of_length_le (l := b :: t) (by simp; omega)])
                    have g1 : ¬ c' < 1 := by omega
                    have g2 : ¬ 40 < c' := by omega
                    have g3 : ¬ j < t.length + 1 := by omega
                    clear hbad2
                    go_wp2
                    go_loop [9, 10] (fun f m => ∃ (c2 : Nat) (y2 : Int), c2 ≤ 2000 ∧ 0 ≤ y2 ∧ y2 < 10 ^ (min c2 9) ∧ f = .int .i64 y2 ∧ m = .int .i64 c2 ∧ pad10 (9 - c2) y2 = pad10 (9 - c') y) (fun _ m => 9 - (intOf m).toNat)
                    case atStart => exact ⟨c', y, hc', hy0, Hy.out, rfl, rfl, rfl⟩
                    case round =>
                      obtain ⟨c2, y2, hc2, hy20, hy21, rfl, rfl, hp⟩ := hrel
                      have Hy2 := Lib.hid hy21
                      have Hp := Lib.hid hp
                      clear hy21 hp
                      have hyb2 := p10_9 (min c2 9) (by omega) y2 Hy2.out
                      by_cases h9 : c2 < 9
                      · have Hn := Lib.hid (show pad10 (9 - (c2 + 1)) (10 * y2) = pad10 (9 - c') y by rw [← Hp.out, show 9 - c2 = (9 - (c2 + 1)) + 1 by omega, pad10_succ])
                        have Hy3 := Lib.hid (show 10 * y2 < 10 ^ (min (c2 + 1) 9) by
                            have := p10_step (min c2 9) y2 0 Hy2.out (by omega)
                            rw [show min (c2 + 1) 9 = min c2 9 + 1 by omega]; omega)
                        go_wp2
                        go_round
                        case rel => exact ⟨c2 + 1, _, by omega, by omega, Hy3.out, rfl, by go_num, Hn.out⟩
                        case measure => simp [intOf]; omega
                      · have Hn := Lib.hid (show refFrac ((b :: t).drop k) = some y2 by rw [Hf.out, ← Hp.out, show 9 - c2 = 0 by omega]; rfl)
                        go_wp2
                        go_meet
                        case rel => exact ⟨⟨y2, rfl, Hn.out, hy20, hyb2⟩, rfl⟩
              · have e3 : (((b :: t)[k].toNat : Int) != 46) = true := by simpa using h46
                have e4 : (((b :: t)[k].toNat : Int) == 46) = false := by simpa using h46
                have Hf := Lib.hid (show refFrac ((b :: t).drop k) = none by
                  rw [hd.out]
                  exact if_neg (by intro e; rw [e] at h46; exact h46 rfl))
                have Hq := Lib.hid (refStParse_bad (b :: t) Hrun.out (.inr (.inr Hf.out)))
                clear h46
                go_wp2
                go_ret3
                rw [Hq.out]
                exact ⟨rfl, rfl⟩
            case rest =>
              obtain ⟨⟨y, rfl, hf, hy0, hy1⟩, rfl⟩ := hcut
              have Hq := Lib.hid (refStParse_good (b :: t) Hrun.out hbad hf)
              rw [Hm1.out] at Hq
              clear hf hbad
              by_cases hyz : y = 0
              · subst hyz
                have Hq2 := Lib.hid (show refStParse (b :: t) = if stRight (-x) 0 = true then ((-x, 0), 0) else ((0, 0), 6) by rw [Hq.out]; rfl)
                by_cases hR : stRight (-x) (0) = true
                · have Hq3 := Lib.hid (show refStParse (b :: t) = ((-x, 0), 0) by rw [Hq2.out, if_pos hR])
                  go_wp2_with fail
                  refine (refStRight_any (-x) (0) _).mono ?_
                  rw [hR]
                  rintro e w' ⟨rfl, rfl⟩
                  go_wp2
                  go_ret3
                  rw [Hq3.out]
                  exact ⟨rfl, rfl⟩
                · have hR' : stRight (-x) (0) = false := by simpa using hR
                  have Hq3 := Lib.hid (show refStParse (b :: t) = ((0, 0), 6) by rw [Hq2.out, if_neg hR])
                  go_wp2_with fail
                  refine (refStRight_any (-x) (0) _).mono ?_
                  rw [hR']
                  rintro e w' ⟨rfl, rfl⟩
                  go_wp2
                  go_ret3
                  rw [Hq3.out]
                  exact ⟨rfl, rfl⟩
              · have Hq2 := Lib.hid (show refStParse (b :: t) = if stRight (-x - 1) (1000000000 - y) = true then ((-x - 1, 1000000000 - y), 0) else ((0, 0), 6) by rw [Hq.out]; unfold stTail; simp only [stOpp, if_true]; rw [if_neg hyz])
                have hyp : 0 < y := by omega
                clear hyz
                by_cases hR : stRight (-x - 1) (1000000000 - y) = true
                · have Hq3 := Lib.hid (show refStParse (b :: t) = ((-x - 1, 1000000000 - y), 0) by rw [Hq2.out, if_pos hR])
                  go_wp2_with fail
                  refine (refStRight_any (-x - 1) (1000000000 - y) _).mono ?_
                  rw [hR]
                  rintro e w' ⟨rfl, rfl⟩
                  go_wp2
                  go_ret3
                  rw [Hq3.out]
                  exact ⟨rfl, rfl⟩
                · have hR' : stRight (-x - 1) (1000000000 - y) = false := by simpa using hR
                  have Hq3 := Lib.hid (show refStParse (b :: t) = ((0, 0), 6) by rw [Hq2.out, if_neg hR])
                  go_wp2_with fail
                  refine (refStRight_any (-x - 1) (1000000000 - y) _).mono ?_
                  rw [hR']
                  rintro e w' ⟨rfl, rfl⟩
                  go_wp2
                  go_ret3
                  rw [Hq3.out]
                  exact ⟨rfl, rfl⟩
          · have hf : refFrac ((b :: t).drop k) = some 0 := by rw [List.drop_of_length_le (by simp; omega)]; rfl
            have hlti : ¬ (k : Int) < (t.length : Int) + 1 := by omega
            have Hq := Lib.hid (refStParse_good (b :: t) Hrun.out hbad hf)
            rw [Hm1.out] at Hq
            clear hf hbad
            have Hq2 := Lib.hid (show refStParse (b :: t) = if stRight (-x) 0 = true then ((-x, 0), 0) else ((0, 0), 6) by rw [Hq.out]; rfl)
            by_cases hR : stRight (-x) (0) = true
            · have Hq3 := Lib.hid (show refStParse (b :: t) = ((-x, 0), 0) by rw [Hq2.out, if_pos hR])
              go_wp2_with fail
              refine (refStRight_any (-x) (0) _).mono ?_
              rw [hR]
              rintro e w' ⟨rfl, rfl⟩
              go_wp2
              go_ret3
              rw [Hq3.out]
              exact ⟨rfl, rfl⟩
            · have hR' : stRight (-x) (0) = false := by simpa using hR
              have Hq3 := Lib.hid (show refStParse (b :: t) = ((0, 0), 6) by rw [Hq2.out, if_neg hR])
              go_wp2_with fail
              refine (refStRight_any (-x) (0) _).mono ?_
              rw [hR']
              rintro e w' ⟨rfl, rfl⟩
              go_wp2
              go_ret3
              rw [Hq3.out]
              exact ⟨rfl, rfl⟩
end Go.Proofs.YtjmmecokfijglaaGreatDoor
