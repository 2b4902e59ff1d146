/-
  Texts of this seat's proof, joined: their order is that of the build.
-/
import Derived.Test.YtjmmecokfijglaaGreatDoorJB05
import Derived.Test.YtjmmecokfijglaaGreatDoorJB19
import Derived.Test.YtjmmecokfijglaaGreatDoorJB01
import Derived.Laws.CopyRow
import Derived.Test.YtjmmecokfijglaaGreatDoorChecked
import Derived.Test.YtjmmecokfijglaaGreatDoorJB02
namespace Go.Proofs.YtjmmecokfijglaaGreatDoor
open Go.ChangeShapes Go.WideShapes Go.ChangeAt Go.RowKit

/-- The ends of a text. -/
theorem slice_to (l : List UInt8) (n : Nat) (h : n ≤ l.length) (W : World) : (Instr.slice 9 (.string ⟨l.toArray⟩) none (some (.int .i64 n)) none).run Tryz.prog W = .ok (.string ⟨(l.take n).toArray⟩) W := by
  have hr := run_slice_string_to_if (P := Tryz.prog) (w := W) 9 ⟨l.toArray⟩ .i64 n Tryz.underlying9
  rw [if_pos ⟨by omega, by simp [ByteArray.size]; omega⟩, str_extract, List.drop_zero, Nat.sub_zero, Int.toNat_natCast] at hr
  exact hr
theorem slice_from (l : List UInt8) (n : Nat) (h : n ≤ l.length) (W : World) : (Instr.slice 9 (.string ⟨l.toArray⟩) (some (.int .i64 n)) none none).run Tryz.prog W = .ok (.string ⟨(l.drop n).toArray⟩) W := by
  have hr := run_slice_string_from_if (P := Tryz.prog) (w := W) 9 ⟨l.toArray⟩ .i64 n Tryz.underlying9
  rw [if_pos ⟨by omega, by simp [ByteArray.size]; omega⟩, str_extract, Int.toNat_natCast, List.take_of_length_le (by rw [List.length_drop]; simp [ByteArray.size])] at hr
  exact hr

theorem oct7 (v : Int) (h : 0 ≤ v) (h2 : v ≤ 130560) : v / 2 ^ (3 * (7 - 1)) = 0 := by
  have : (2 : Int) ^ (3 * (7 - 1)) = 262144 := by decide
  rw [this]; omega

theorem sSeal_any (l : List UInt8) (w : World) (h : l.length = 512) :
    Calls Tryz.prog 44 #[.string ⟨l.toArray⟩] w fun e w' => Below w.heap.size w w' ∧ e = .returned (.tuple #[.string ⟨(sealOf l).toArray⟩, .int .i64 0]) := by
  have hb := bSum_pos l h
  have Hs := Lib.hid (sSum_any l w)
  have Ho := Lib.hid (fun w1 => octal_any (bSum false l) 7 w1 (by omega) (by omega) hb.1 (oct7 _ hb.1 hb.2) (by omega))
  have hq : sSum false l = (bSum false l, 0) := if_pos h
  rw [hq] at Hs
  have Hq := Lib.hid (show sealOf l = l.take 148 ++ (octStr (bSum false l) 7 ++ 32 :: l.drop 156) by unfold sealOf sealField; rw [List.append_assoc]; rfl)
  have h1 : ∀ W : World, (Instr.slice 9 (.string ⟨l.toArray⟩) none (some (.int .i64 148)) none).run Tryz.prog W = .ok (.string ⟨(l.take 148).toArray⟩) W := slice_to l 148 (by omega)
  have h2 : ∀ W : World, (Instr.slice 9 (.string ⟨l.toArray⟩) (some (.int .i64 156)) none none).run Tryz.prog W = .ok (.string ⟨(l.drop 156).toArray⟩) W := slice_from l 156 (by omega)
  have hx : (l.take 148).length ≤ 512 := by rw [List.length_take]; omega
  have hy : (l.drop 156).length ≤ 512 := by rw [List.length_drop]; omega
  have hz : (octStr (bSum false l) 7).length ≤ 512 := by simp [octStr]
  generalize l.take 148 = x at *
  generalize l.drop 156 = y at *
  generalize octStr (bSum false l) 7 = z at *
  generalize sealOf l = R at *
  generalize bSum false l = v at *
  clear h hq hb
  go_enter Tryz.func44, Tryz.ntmps44
  go_wp2_with fail
  refine Hs.out.mono ?_
  rintro e w1 ⟨hb1, rfl⟩
  have Hb1 := Lib.hid hb1
  clear hb1
  go_wp2_with fail
  refine (Ho.out w1).mono ?_
  rintro e w2 ⟨hb2, rfl⟩
  have Hb2 := Lib.hid (Hb1.out.trans (hb2.mono Hb1.out.size))
  clear hb2
  go_wp2_with fail
  go_quiet (fail)
  go_wp2
  go_ret2
  refine ⟨below_drewN Hb2.out _, ?_⟩
  rw [Hq.out]
  simp

theorem sSeal_no (l : List UInt8) (w : World) (h : l.length ≠ 512) :
    Calls Tryz.prog 44 #[.string ⟨l.toArray⟩] w fun e w' => Below w.heap.size w w' ∧ e = .returned (.tuple #[.string ⟨([] : List UInt8).toArray⟩, .int .i64 1]) := by
  have Hs := Lib.hid (sSum_any l w)
  have hq : sSum false l = (0, 1) := if_neg h
  rw [hq] at Hs
  clear h hq
  go_enter Tryz.func44, Tryz.ntmps44
  go_wp2_with fail
  refine Hs.out.mono ?_
  rintro e w1 ⟨hb1, rfl⟩
  have Hb1 := Lib.hid hb1
  clear hb1
  go_wp2
  go_ret2
  exact ⟨Hb1.out, rfl⟩

set_option maxRecDepth 100000 in
theorem refSRight_any (l : List UInt8) (w : World) (h : l.length = 512) :
    Calls Tryz.prog 120 #[.string ⟨l.toArray⟩] w fun e w' => w = w' ∧ e = .returned (.bool (sRight l)) := by
  obtain ⟨b, t, hf, htl, hb⟩ := fieldOf_parts l h
  have hq : sRight l = ((sRead b t).2 && (((sRead b t).1 == bSum false l) || ((sRead b t).1 == bSum true l))) := by unfold sRight; rw [hf, decide_eq_true h]; rfl
  have Hr := Lib.hid (refRead_any (b :: t) w (by unfold maxLen; simp; omega))
  have Hu := Lib.hid (refSum_any l false w h)
  have Hg := Lib.hid (refSum_any l true w h)
  have hsl : ∀ W : World, (Instr.slice 9 (.string ⟨l.toArray⟩) (some (.int .i64 148)) (some (.int .i64 156)) none).run Tryz.prog W = .ok (.string ⟨(b :: t).toArray⟩) W := by
    intro W
    rw [run_slice_string W _ _ _ _ _ _ Tryz.underlying9 (by omega) (by omega) (by simp [ByteArray.size]; omega)]
    have he := str_extract l 148 156
    change _ = (⟨(fieldOf l).toArray⟩ : ByteArray) at he
    rw [hf] at he
    exact congrArg (fun s => Result.ok (Value.string s) W) he
  have e1 : ((l.length : Int) != 512) = false := by simp [h]
  have hl1 : 148 < l.length := by omega
  by_cases h2 : (b.toNat : Int) ≤ 127
  · have e2 : (l[148].toNat : Int) < (128 : Int) := by rw [hb]; omega
    by_cases h3 : (octRead (b :: t)).2 = 0
    · have Hq := Lib.hid (show sRight l = (((octRead (b :: t)).1 == bSum false l) || ((octRead (b :: t)).1 == bSum true l)) by rw [hq, show sRead b t = ((octRead (b :: t)).1, true) from if_pos ⟨h3, h2⟩]; rfl)
      have e3 : ((octRead (b :: t)).2 == 0) = true := by simp [h3]
      clear h3 hq h hf hb htl h2
      generalize bSum false l = U at *
      generalize bSum true l = G at *
      generalize sRight l = R at *
      generalize octRead (b :: t) = v at *
      obtain ⟨v, ve⟩ := v
      by_cases h4 : (v == U) = true
      · obtain rfl : v = U := by simpa using h4
        clear h4
        go_enter Tryz.func120, Tryz.ntmps120
        go_wp2_with fail
        refine Hr.out.mono ?_
        rintro e w' ⟨rfl, rfl⟩
        go_wp2_with fail
        refine Hu.out.mono ?_
        rintro e w' ⟨rfl, rfl⟩
        go_wp2
        go_ret
        rw [Hq.out]
        simp
      · have e4 : (v == U) = false := by simpa using h4
        clear h4
        have Hq2 := Lib.hid (show R = (v == G) by rw [Hq.out, e4]; rfl)
        go_enter Tryz.func120, Tryz.ntmps120
        go_wp2_with fail
        refine Hr.out.mono ?_
        rintro e w' ⟨rfl, rfl⟩
        go_wp2_with fail
        refine Hu.out.mono ?_
        rintro e w' ⟨rfl, rfl⟩
        go_wp2_with fail
        refine Hg.out.mono ?_
        rintro e w' ⟨rfl, rfl⟩
        go_wp2
        go_ret
        rw [Hq2.out]
        exact ⟨rfl, rfl⟩
    · have Hq := Lib.hid (show sRight l = false by rw [hq, show sRead b t = (0, false) from if_neg (fun e => h3 e.1)]; rfl)
      have e3 : ((octRead (b :: t)).2 == 0) = false := by rw [beq_eq_false_iff_ne]; exact h3
      clear h3 hq h hf hb htl h2
      generalize octRead (b :: t) = v at *
      go_enter Tryz.func120, Tryz.ntmps120
      go_wp2_with fail
      refine Hr.out.mono ?_
      rintro e w' ⟨rfl, rfl⟩
      go_wp2
      go_ret
      rw [Hq.out]
      exact ⟨rfl, rfl⟩
  · have e2 : (128 : Int) ≤ (l[148].toNat : Int) := by rw [hb]; omega
    have Hq := Lib.hid (show sRight l = false by rw [hq, show sRead b t = (0, false) from if_neg (fun e => h2 e.2)]; rfl)
    clear hq h hf hb htl h2
    go_enter Tryz.func120, Tryz.ntmps120
    go_wp2
    go_ret
    rw [Hq.out]
    exact ⟨rfl, rfl⟩

theorem digit_of' (k : Nat) (h : k < 8) : (List.drop k [48, 49, 50, 51, 52, 53, 54, 55]).take 1 = [(UInt8.ofNat (48 + k))] := by
  have : k = 0 ∨ k = 1 ∨ k = 2 ∨ k = 3 ∨ k = 4 ∨ k = 5 ∨ k = 6 ∨ k = 7 := by omega
  rcases this with h | h | h | h | h | h | h | h <;> subst h <;> rfl

theorem refSeal_any (l : List UInt8) (w : World) (h : l.length = 512) :
    Calls Tryz.prog 108 #[.string ⟨l.toArray⟩] w fun e w' => Below w.heap.size w w' ∧ e = .returned (.string ⟨(sealOf l).toArray⟩) := by
  have hb := bSum_pos l h
  have Hs := Lib.hid (refSum_any l false w h)
  have Hq := Lib.hid (show sealOf l = l.take 148 ++ (refOct 6 (bSum false l) [] ++ 0 :: 32 :: l.drop 156) by unfold sealOf; rw [sealField_eq, refOct_digs]; simp)
  have h1 : ∀ W : World, (Instr.slice 9 (.string ⟨l.toArray⟩) none (some (.int .i64 148)) none).run Tryz.prog W = .ok (.string ⟨(l.take 148).toArray⟩) W := slice_to l 148 (by omega)
  have h2 : ∀ W : World, (Instr.slice 9 (.string ⟨l.toArray⟩) (some (.int .i64 156)) none none).run Tryz.prog W = .ok (.string ⟨(l.drop 156).toArray⟩) W := slice_from l 156 (by omega)
  have hx : (l.take 148).length ≤ 512 := by rw [List.length_take]; omega
  have hy : (l.drop 156).length ≤ 512 := by rw [List.length_drop]; omega
  generalize l.take 148 = x at *
  generalize l.drop 156 = y at *
  generalize sealOf l = R at *
  generalize bSum false l = v at *
  clear h
  go_enter Tryz.func108, Tryz.ntmps108
  go_wp2_with fail
  refine Hs.out.mono ?_
  rintro e w' ⟨rfl, rfl⟩
  go_wp2
  go_loop [3, 4, 5] (fun n d i => ∃ k : Nat, k ≤ 6 ∧ i = .int .i64 k ∧ ∃ (z : Int) (t : List UInt8), 0 ≤ z ∧ z ≤ 130560 ∧ n = .int .i64 z ∧ d = .string ⟨t.toArray⟩ ∧ t.length = k ∧ refOct (6 - k) z t = refOct 6 v []) (fun _ _ i => 6 - (intOf i).toNat)
  case atStart => exact ⟨0, Nat.zero_le _, rfl, v, [], hb.1, hb.2, rfl, rfl, rfl, rfl⟩
  case round =>
    obtain ⟨k, hk, rfl, z, t, hz0, hz1, rfl, rfl, htl, hs2⟩ := hrel
    have Hs2 := Lib.hid hs2
    have Htl := Lib.hid htl
    have hlen : t.length ≤ 512 := by omega
    clear hs2 htl
    by_cases hlt : k < 6
    · have Hn := Lib.hid (show refOct (6 - (k + 1)) (z / 8) (UInt8.ofNat (48 + z % 8).toNat :: t) = refOct 6 v [] by
        rw [← Hs2.out, show 6 - k = (6 - (k + 1)) + 1 by omega, refOct_succ])
      have hm0 : 0 ≤ z % 8 := by omega
      have hm1 : z % 8 < 8 := by omega
      have hsl : ∀ W : World, (Instr.slice 9 (.string ⟨#[48, 49, 50, 51, 52, 53, 54, 55]⟩) (some (.int .i64 (z % 8))) (some (.int .i64 (z % 8 + 1))) none).run Tryz.prog W = .ok (.string ⟨[UInt8.ofNat (48 + z % 8).toNat].toArray⟩) W := by
        intro W
        rw [run_slice_string W _ _ _ _ _ _ Tryz.underlying9 hm0 (by omega) (by simp [ByteArray.size]; omega)]
        have he := str_extract [48, 49, 50, 51, 52, 53, 54, 55] (z % 8).toNat (z % 8 + 1).toNat
        rw [show (z % 8 + 1).toNat - (z % 8).toNat = 1 by omega, digit_of' _ (by omega), show 48 + (z % 8).toNat = (48 + z % 8).toNat by omega] at he
        exact congrArg (fun s => Result.ok (Value.string s) W) he
      clear h1 h2
      go_wp2
      go_round
      case rel => exact ⟨k + 1, by omega, by go_num, z / 8, _, by omega, by omega, rfl, rfl, by simp [Htl.out], Hn.out⟩
      case measure => simp [intOf]; omega
    · have Hn := Lib.hid (show refOct 6 v [] = t by rw [← Hs2.out, show 6 - k = 0 by omega]; rfl)
      go_wp2
      go_quiet (fail)
      go_wp2
      go_ret
      refine ⟨below_drewN (Below.refl _ _) _, ?_⟩
      rw [Hq.out, Hn.out]
      simp
end Go.Proofs.YtjmmecokfijglaaGreatDoor
namespace Go.Proofs.YtjmmecokfijglaaGreatDoor
open Go.ChangeShapes Go.WideShapes Go.ChangeAt Go.RowKit

theorem refTPart_any (l : List UInt8) (w : World) (hl : l.length ≤ 9223372036854775807) :
    Calls Tryz.prog 104 #[.string ⟨l.toArray⟩] w fun e w' => Below w.heap.size w w' ∧ e = .returned (part3 (txtPart l)) := by
  by_cases h1 : l.length ≤ 100
  · have Hq := Lib.hid (show txtPart l = some ([], l) by unfold txtPart; rw [if_pos h1])
    go_enter Tryz.func104, Tryz.ntmps104
    go_wp2
    go_ret3
    rw [Hq.out]
    exact ⟨Below.refl _ _, rfl⟩
  · have h2 : 100 < l.length := by omega
    have Hu := Lib.hid (show txtPart l = if lastPart l l.length < 0 then none else some (l.take (lastPart l l.length).toNat, l.drop ((lastPart l l.length).toNat + 1)) by unfold txtPart; rw [if_neg h1])
    clear h1
    go_enter Tryz.func104, Tryz.ntmps104
    go_wp2
    go_loop [5, 6, 7] (fun a i _ => ∃ k : Nat, 1 ≤ k ∧ k ≤ l.length ∧ i = .int .i64 k ∧ ∃ z : Int, a = .int .i64 z ∧ z = lastPart l k) (fun _ i _ => l.length - (intOf i).toNat)
    case atStart => exact ⟨1, Nat.le_refl _, by omega, rfl, -1, rfl, by rw [lastPart_succ, if_neg (fun h => absurd h.2.1 (by omega))]; rfl⟩
    case round =>
      obtain ⟨k, hk1, hk, rfl, z, rfl, hz⟩ := hrel
      have Hz := Lib.hid hz
      clear hz
      by_cases hlt : k < l.length
      · have hget := Lib.hid (List.getElem?_eq_getElem hlt)
        by_cases hp : parts l k
        · have Hn := Lib.hid (show lastPart l (k + 1) = k by rw [lastPart_succ, if_pos hp])
          obtain ⟨p1, p2, p3, p4, p5, p6⟩ := hp
          rw [hget.out] at p1
          have e1 : ((l[k].toNat : Int) == 47) = true := by
            have : l[k] = 47 := by simpa using p1
            rw [this]; rfl
          clear p1
          go_wp2
          go_round
          case rel => exact ⟨k + 1, by omega, by omega, by go_num, k, rfl, Hn.out.symm⟩
          case measure => simp [intOf]; omega
        · have Hn := Lib.hid (show lastPart l (k + 1) = z by rw [lastPart_succ, if_neg hp, Hz.out])
          have Hp := Lib.hid hp
          clear hp
          by_cases h47 : (l[k].toNat : Int) = 47
          · have e1 : ((l[k].toNat : Int) == 47) = true := by simpa using h47
            have p1 : l[k]? = some 47 := by
              rw [hget.out]
              have : l[k] = 47 := UInt8.toNat_inj.1 (by have : (47 : UInt8).toNat = 47 := rfl; omega)
              rw [this]
            have Hno := Lib.hid (show ¬ (k ≤ 155 ∧ 1 ≤ l.length - k - 1 ∧ l.length - k - 1 ≤ 100) from fun ⟨a, b, c⟩ => Hp.out ⟨p1, hk1, a, b, c, hlt⟩)
            clear h47 p1
            by_cases c1 : k ≤ 155
            · by_cases c2 : (1 : Int) ≤ l.length - k - 1
              · have c3 : 100 < (l.length : Int) - k - 1 := by have := Hno.out; omega
                go_wp2
                go_round
                case rel => exact ⟨k + 1, by omega, by omega, by go_num, z, rfl, Hn.out.symm⟩
                case measure => simp [intOf]; omega
              · go_wp2
                go_round
                case rel => exact ⟨k + 1, by omega, by omega, by go_num, z, rfl, Hn.out.symm⟩
                case measure => simp [intOf]; omega
            · go_wp2
              go_round
              case rel => exact ⟨k + 1, by omega, by omega, by go_num, z, rfl, Hn.out.symm⟩
              case measure => simp [intOf]; omega
          · have e1 : ((l[k].toNat : Int) == 47) = false := by simpa using h47
            clear h47
            go_wp2
            go_round
            case rel => exact ⟨k + 1, by omega, by omega, by go_num, z, rfl, Hn.out.symm⟩
            case measure => simp [intOf]; omega
      · have Hk := Lib.hid (show lastPart l l.length = z by rw [Hz.out, show k = l.length by omega])
        by_cases hneg : z < 0
        · have Hq := Lib.hid (show txtPart l = none by rw [Hu.out, Hk.out, if_pos hneg])
          clear Hu
          go_wp2
          go_ret3
          rw [Hq.out]
          exact ⟨Below.refl _ _, rfl⟩
        · obtain ⟨i, rfl⟩ : ∃ i : Nat, z = i := ⟨z.toNat, by omega⟩
          have hi : i < l.length := by
            have := Hk.out
            rcases lastPart_spec l l.length with ⟨q, _⟩ | ⟨j, q1, q2, _⟩ <;> omega
          have Hq := Lib.hid (show txtPart l = some (l.take i, l.drop (i + 1)) by rw [Hu.out, Hk.out, if_neg (by omega), Int.toNat_natCast])
          clear Hu
          have b1 : (i : Int) + 1 ≤ l.length := by omega
          go_wp2
          go_quiet (fail)
          go_wp2
          go_ret3
          rw [Hq.out]
          exact ⟨below_drewN (Below.refl _ _) _, by simp [part3]⟩

end Go.Proofs.YtjmmecokfijglaaGreatDoor
namespace Go.Proofs.YtjmmecokfijglaaGreatDoor
open Go.ChangeShapes Go.WideShapes Go.ChangeAt Go.RowKit

/-- Are all bytes NUL? -/
def txtBlank (l : List UInt8) : Bool := l.all (· == 0)

theorem refTBlank_any (l : List UInt8) (w : World) (hl : l.length ≤ 9223372036854775807) :
    Calls Tryz.prog 119 #[.string ⟨l.toArray⟩] w fun e w' => w = w' ∧ e = .returned (.bool (txtBlank l)) := by
  go_enter Tryz.func119, Tryz.ntmps119
  go_wp2
  go_loop [3] (fun i => ∃ k : Nat, k ≤ l.length ∧ i = .int .i64 k ∧ txtBlank (l.drop k) = txtBlank l) (fun i => l.length - (intOf i).toNat)
  case atStart => exact ⟨0, Nat.zero_le _, rfl, rfl⟩
  case round =>
    obtain ⟨k, hk, rfl, hs⟩ := hrel
    have Hs := Lib.hid hs
    clear hs
    by_cases hlt : k < l.length
    · have Hd := Lib.hid (show txtBlank l = ((l[k] == 0) && txtBlank (l.drop (k + 1))) by rw [← Hs.out, drop_at hlt]; rfl)
      by_cases h0 : (l[k].toNat : Int) = 0
      · have Hz := Lib.hid (show txtBlank (l.drop (k + 1)) = txtBlank l by
          rw [Hd.out, show (l[k] == 0) = true by rw [beq_iff_eq]; exact UInt8.toNat_inj.1 (by have : (0 : UInt8).toNat = 0 := rfl; omega)]; rfl)
        have e1 : ((l[k].toNat : Int) == 0) = true := by simpa using h0
        have e2 : ((l[k].toNat : Int) != 0) = false := by simpa using h0
        clear h0
        go_wp2
        go_round
        case rel => exact ⟨k + 1, by omega, by go_num, Hz.out⟩
        case measure => simp [intOf]; omega
      · have Hz := Lib.hid (show txtBlank l = false by
          rw [Hd.out, show (l[k] == 0) = false by rw [beq_eq_false_iff_ne]; intro e; exact h0 (by rw [e]; rfl)]; rfl)
        have e1 : ((l[k].toNat : Int) == 0) = false := by simpa using h0
        have e2 : ((l[k].toNat : Int) != 0) = true := by simpa using h0
        clear h0
        go_wp2
        go_ret
        rw [Hz.out]
        exact ⟨rfl, rfl⟩
    · have Hz := Lib.hid (show txtBlank l = true by rw [← Hs.out, List.drop_of_length_le (by omega)]; rfl)
      go_wp2
      go_ret
      rw [Hz.out]
      exact ⟨rfl, rfl⟩
end Go.Proofs.YtjmmecokfijglaaGreatDoor
namespace Go.Proofs.YtjmmecokfijglaaGreatDoor
open Go.ChangeShapes Go.WideShapes Go.ChangeAt Go.RowKit

theorem refTRead_any (l : List UInt8) (w : World) (hl : l.length ≤ 9223372036854775807) :
    Calls Tryz.prog 33 #[.string ⟨l.toArray⟩] w fun e w' => w = w' ∧ e = .returned (.string ⟨(txtRead l).toArray⟩) := by
  have hall : ∀ k, k ≤ l.length → ((l.take k ++ txtRead (l.drop k)) = txtRead l) → k < l.length → ∀ (hk : k < l.length), l[k] ≠ 0 → (l.take (k + 1) ++ txtRead (l.drop (k + 1))) = txtRead l := by
    intro k _ h _ hk hne
    rw [drop_at hk, txtRead_cons, if_neg hne] at h
    rw [← h, ← List.take_append_getElem hk, List.append_assoc]; rfl
  go_enter Tryz.func33, Tryz.ntmps33
  have Hall := Lib.hid hall
  clear hall
  go_wp2
  go_loop [3] (fun i => ∃ k : Nat, k ≤ l.length ∧ i = .int .i64 k ∧ (l.take k ++ txtRead (l.drop k)) = txtRead l) (fun i => l.length - (intOf i).toNat)
  case atStart => exact ⟨0, Nat.zero_le _, rfl, by simp⟩
  case round =>
    obtain ⟨k, hk, rfl, hs⟩ := hrel
    have Hs := Lib.hid hs
    clear hs
    by_cases hlt : k < l.length
    · by_cases h0 : (l[k].toNat : Int) = 0
      · have Hz := Lib.hid (show txtRead l = l.take k by
          rw [← Hs.out, drop_at hlt, txtRead_cons, if_pos (UInt8.toNat_inj.1 (by have : (0 : UInt8).toNat = 0 := rfl; omega)), List.append_nil])
        have e1 : ((l[k].toNat : Int) == 0) = true := by simpa using h0
        have e2 : ((l[k].toNat : Int) != 0) = false := by simpa using h0
        clear h0
        go_wp2
        go_ret
        rw [Hz.out]
        exact ⟨rfl, by simp⟩
      · have Hn := Lib.hid (Hall.out k hk Hs.out hlt hlt (fun e => h0 (by rw [e]; rfl)))
        have e1 : ((l[k].toNat : Int) == 0) = false := by simpa using h0
        have e2 : ((l[k].toNat : Int) != 0) = true := by simpa using h0
        clear h0
        go_wp2
        go_round
        case rel => exact ⟨k + 1, by omega, by go_num, Hn.out⟩
        case measure => simp [intOf]; omega
    · have Hz := Lib.hid (show txtRead l = l.take k by
        rw [← Hs.out, List.drop_of_length_le (by omega)]; simp [txtRead])
      go_wp2
      go_ret
      rw [Hz.out]
      exact ⟨rfl, by simp⟩

theorem refTWrite_ok (l : List UInt8) (n : Nat) (w : World) (hn : n ≤ 512) (hl : l.length ≤ n) (h0 : 0 ∉ l) :
    Calls Tryz.prog 153 #[.string ⟨l.toArray⟩, .int .i64 n] w fun e w' => w = w' ∧ e = .returned (.tuple #[.string ⟨(l ++ List.replicate (n - l.length) 0).toArray⟩, .bool true]) := by
  have Hr := Lib.hid (refTRead_any l w (by omega))
  rw [txtRead_all l h0] at Hr
  clear h0
  go_enter Tryz.func153, Tryz.ntmps153
  go_wp2_with fail
  refine Hr.out.mono ?_
  rintro e w' ⟨rfl, rfl⟩
  go_wp2
  go_loop [0] (fun s => ∃ t : List UInt8, s = .string ⟨t.toArray⟩ ∧ t.length ≤ n ∧ (t ++ List.replicate (n - t.length) 0) = (l ++ List.replicate (n - l.length) 0)) (fun s => n - (match s with | .string b => b.size | _ => 0))
  case atStart => exact ⟨l, rfl, hl, rfl⟩
  case round =>
    obtain ⟨t, rfl, ht, hs⟩ := hrel
    have Hs := Lib.hid hs
    clear hs
    by_cases hlt : t.length < n
    · have Hn := Lib.hid (show ((t ++ [0]) ++ List.replicate (n - (t ++ [0]).length) 0) = (l ++ List.replicate (n - l.length) 0) by
        rw [← Hs.out, List.append_assoc]
        congr 1
        rw [List.length_append, List.length_singleton, show n - t.length = (n - (t.length + 1)) + 1 by omega, List.replicate_succ]
        rfl)
      go_wp2
      go_round
      case rel => exact ⟨t ++ [0], rfl, by simp; omega, Hn.out⟩
      case measure => show n - (t ++ [0]).length < n - t.length; rw [List.length_append, List.length_singleton]; omega
    · have Hz := Lib.hid (show (l ++ List.replicate (n - l.length) 0) = t by rw [← Hs.out, show n - t.length = 0 by omega]; simp)
      go_wp2
      go_ret2
      rw [Hz.out]
      exact ⟨rfl, rfl⟩

theorem refTWrite_no (l : List UInt8) (n : Int) (w : World) (hl : l.length ≤ 9223372036854775807) (h : ¬ (0 ≤ n ∧ n ≤ 512 ∧ (l.length : Int) ≤ n ∧ 0 ∉ l)) :
    Calls Tryz.prog 153 #[.string ⟨l.toArray⟩, .int .i64 n] w fun e w' => w = w' ∧ e = .returned (.tuple #[.string ⟨([] : List UInt8).toArray⟩, .bool false]) := by
  by_cases h1 : n < 0
  · clear h
    go_enter Tryz.func153, Tryz.ntmps153
    go_wp2
    go_ret2
    exact ⟨rfl, rfl⟩
  · by_cases h2 : 512 < n
    · clear h
      go_enter Tryz.func153, Tryz.ntmps153
      go_wp2
      go_ret2
      exact ⟨rfl, rfl⟩
    · by_cases h3 : n < (l.length : Int)
      · clear h
        go_enter Tryz.func153, Tryz.ntmps153
        go_wp2
        go_ret2
        exact ⟨rfl, rfl⟩
      · have h0 : 0 ∈ l := by
          by_cases hm : 0 ∈ l
          · exact hm
          · exact absurd ⟨by omega, by omega, by omega, hm⟩ h
        have Hr := Lib.hid (refTRead_any l w hl)
        have hne : (txtRead l == l) = false := by
          rw [beq_eq_false_iff_ne]; intro e; exact (txtRead_eq_iff l).1 e h0
        generalize txtRead l = t at *
        clear h h0
        go_enter Tryz.func153, Tryz.ntmps153
        go_wp2_with fail
        refine Hr.out.mono ?_
        rintro e w' ⟨rfl, rfl⟩
        go_wp2
        go_ret2
        exact ⟨rfl, rfl⟩

theorem refTWrite_any (l : List UInt8) (n : Int) (w : World) (hl : l.length ≤ 9223372036854775807) :
    Calls Tryz.prog 153 #[.string ⟨l.toArray⟩, .int .i64 n] w fun e w' => w = w' ∧ e = .returned (.tuple #[.string ⟨((txtWrite l n).getD []).toArray⟩, .bool (txtWrite l n).isSome]) := by
  by_cases h : 0 ≤ n ∧ n ≤ 512 ∧ (l.length : Int) ≤ n ∧ 0 ∉ l
  · obtain ⟨m, rfl⟩ : ∃ m : Nat, n = m := ⟨n.toNat, by omega⟩
    have hq : txtWrite l m = some (l ++ List.replicate (m - l.length) 0) := by unfold txtWrite; rw [if_pos h]; rfl
    rw [hq]
    exact refTWrite_ok l m w (by omega) (by omega) h.2.2.2
  · have hq : txtWrite l n = none := by unfold txtWrite; rw [if_neg h]
    rw [hq]
    exact refTWrite_no l n w hl h



theorem trimLeft_nul (l : List UInt8) : (Lib.trimLeftB l 0 == []) = txtBlank l := by
  induction l with
  | nil => rfl
  | cons b l ih =>
    unfold Lib.trimLeftB txtBlank at *
    by_cases h : b = 0
    · rw [List.dropWhile_cons_of_pos (by simp [h]), List.all_cons, ih]; simp [h]
    · rw [List.dropWhile_cons_of_neg (by simp [h]), List.all_cons]; simp [h]

theorem tBlank_any (l : List UInt8) (w : World) :
    Calls Tryz.prog 96 #[.string ⟨l.toArray⟩] w fun e w' => w = w' ∧ e = .returned (.bool (txtBlank l)) := by
  have Hc := Lib.hid (Tryz.strings_TrimLeft_one ⟨l.toArray⟩ 0 (by decide) w)
  have Hq := Lib.hid (show (Lib.trimLeftB (⟨l.toArray⟩ : ByteArray).data.toList 0 == []) = txtBlank l from trimLeft_nul l)
  generalize Lib.trimLeftB (⟨l.toArray⟩ : ByteArray).data.toList 0 = t at *
  rcases t with _ | ⟨c, t⟩
  · go_enter Tryz.func96, Tryz.ntmps96
    go_wp2_with fail
    refine Hc.out.mono ?_
    rintro e w' ⟨rfl, rfl⟩
    go_wp2
    go_ret
    rw [← Hq.out]
    exact ⟨rfl, rfl⟩
  · go_enter Tryz.func96, Tryz.ntmps96
    go_wp2_with fail
    refine Hc.out.mono ?_
    rintro e w' ⟨rfl, rfl⟩
    go_wp2
    go_ret
    rw [← Hq.out]
    exact ⟨rfl, rfl⟩

end Go.Proofs.YtjmmecokfijglaaGreatDoor
namespace Go.Proofs.YtjmmecokfijglaaGreatDoor
open Go.ChangeShapes Go.WideShapes Go.ChangeAt Go.RowKit

theorem power_any (b : Int) (m : Nat) (w : World) (hb : 0 ≤ b ∧ b ≤ 256) (hm : m ≤ 100) :
    Calls Tryz.prog 193 #[.int .i64 b, .int .i64 m] w fun e w' => w = w' ∧ e = .returned (.int .i64 (refPow b m 1)) := by
  go_enter Tryz.func193, Tryz.ntmps193
  go_wp2
  go_loop [5, 6] (fun v i => ∃ k : Nat, k ≤ m ∧ i = .int .i64 k ∧ ∃ z : Int, 0 ≤ z ∧ z ≤ 4611686018427387904 ∧ v = .int .i64 z ∧ refPow b (m - k) z = refPow b m 1) (fun _ i => m - (intOf i).toNat)
  case atStart => exact ⟨0, Nat.zero_le _, rfl, 1, by decide, by decide, rfl, rfl⟩
  case round =>
    obtain ⟨k, hk, rfl, z, hz0, hz1, rfl, hs⟩ := hrel
    have Hs := Lib.hid hs
    clear hs
    by_cases hlt : k < m
    · have hsplit := Lib.hid (show m - k = (m - (k + 1)) + 1 by omega)
      by_cases hz : z < 18014398509481984
      · have hmul : 0 ≤ z * b ∧ z * b ≤ 18014398509481984 * 256 := ⟨Int.mul_nonneg hz0 hb.1, Int.mul_le_mul (by omega) hb.2 hb.1 (by omega)⟩
        have Hn := Lib.hid (show refPow b (m - (k + 1)) (z * b) = refPow b m 1 by rw [← Hs.out, hsplit.out, refPow_succ, if_pos hz])
        go_wp2
        go_round
        case rel => exact ⟨k + 1, by omega, by go_num, z * b, hmul.1, by omega, rfl, Hn.out⟩
        case measure => simp [intOf]; omega
      · have Hn := Lib.hid (show refPow b m 1 = z by rw [← Hs.out, hsplit.out, refPow_succ, if_neg hz])
        go_wp2
        go_ret
        rw [Hn.out]
        exact ⟨rfl, rfl⟩
    · have Hn := Lib.hid (show refPow b m 1 = z by rw [← Hs.out, show m - k = 0 by omega]; rfl)
      go_wp2
      go_ret
      rw [Hn.out]
      exact ⟨rfl, rfl⟩

theorem pow8_le (m : Nat) (h : m ≤ 11) : 1 ≤ refPow 8 m 1 ∧ refPow 8 m 1 ≤ 8589934592 := by
  have : m = 0 ∨ m = 1 ∨ m = 2 ∨ m = 3 ∨ m = 4 ∨ m = 5 ∨ m = 6 ∨ m = 7 ∨ m = 8 ∨ m = 9 ∨ m = 10 ∨ m = 11 := by omega
  rcases this with h | h | h | h | h | h | h | h | h | h | h | h <;> subst h <;> decide

/-- One digit out of the text of digits. -/
theorem digit_of (k : Nat) (h : k < 8) : (List.drop k [48, 49, 50, 51, 52, 53, 54, 55]).take 1 = [(UInt8.ofNat (48 + k))] := by
  have : k = 0 ∨ k = 1 ∨ k = 2 ∨ k = 3 ∨ k = 4 ∨ k = 5 ∨ k = 6 ∨ k = 7 := by omega
  rcases this with h | h | h | h | h | h | h | h <;> subst h <;> rfl

theorem refOctal_ok (v : Int) (n : Nat) (w : World) (h2 : 2 ≤ n) (h12 : n ≤ 12) (hv : 0 ≤ v) (hs : v < refPow 8 (n - 1) 1) :
    Calls Tryz.prog 154 #[.int .i64 v, .int .i64 n] w fun e w' => w = w' ∧ e = .returned (.tuple #[.string ⟨(octStr v n).toArray⟩, .bool true]) := by
  have hpl := pow8_le (n - 1) (by omega)
  have Hp := Lib.hid (power_any 8 (n - 1) w (by decide) (by omega))
  have Hq := Lib.hid (octStr_ref v n)
  go_enter Tryz.func154, Tryz.ntmps154
  go_wp2_with fail
  rw [show ((n : Int) - 1) = ((n - 1 : Nat) : Int) by omega]
  refine Hp.out.mono ?_
  rintro e w' ⟨rfl, rfl⟩
  generalize refPow 8 (n - 1) 1 = pw at *
  go_wp2
  go_loop [0, 6, 7] (fun x s i => ∃ k : Nat, 1 ≤ k ∧ k ≤ n ∧ i = .int .i64 k ∧ ∃ (z : Int) (t : List UInt8), 0 ≤ z ∧ z ≤ 8589934592 ∧ x = .int .i64 z ∧ s = .string ⟨t.toArray⟩ ∧ t.length = k ∧ refOct (n - k) z t = refOct (n - 1) v [0]) (fun _ _ i => n - (intOf i).toNat)
  case atStart => exact ⟨1, Nat.le_refl _, by omega, rfl, v, [0], hv, by omega, rfl, rfl, rfl, rfl⟩
  case round =>
    obtain ⟨k, hk1, hk, rfl, z, t, hz0, hz1, rfl, rfl, htl, hs2⟩ := hrel
    have Hs := Lib.hid hs2
    have Htl := Lib.hid htl
    have hlen : t.length ≤ 12 := by omega
    clear hs2 htl
    by_cases hlt : k < n
    · have Hn := Lib.hid (show refOct (n - (k + 1)) (z / 8) (UInt8.ofNat (48 + z % 8).toNat :: t) = refOct (n - 1) v [0] by
        rw [← Hs.out, show n - k = (n - (k + 1)) + 1 by omega, refOct_succ])
      have hm0 : 0 ≤ z % 8 := by omega
      have hm1 : z % 8 < 8 := by omega
      have hsl : ∀ W : World, (Instr.slice 9 (.string ⟨#[48, 49, 50, 51, 52, 53, 54, 55]⟩) (some (.int .i64 (z % 8))) (some (.int .i64 (z % 8 + 1))) none).run Tryz.prog W = .ok (.string ⟨[UInt8.ofNat (48 + z % 8).toNat].toArray⟩) W := by
        intro W
        rw [run_slice_string W _ _ _ _ _ _ Tryz.underlying9 hm0 (by omega) (by simp [ByteArray.size]; omega)]
        have he := str_extract [48, 49, 50, 51, 52, 53, 54, 55] (z % 8).toNat (z % 8 + 1).toNat
        rw [show (z % 8 + 1).toNat - (z % 8).toNat = 1 by omega, digit_of _ (by omega), show 48 + (z % 8).toNat = (48 + z % 8).toNat by omega] at he
        exact congrArg (fun s => Result.ok (Value.string s) W) he
      go_wp2
      go_round
      case rel => exact ⟨k + 1, by omega, by omega, by go_num, z / 8, _, by omega, by omega, rfl, rfl, by simp [Htl.out], Hn.out⟩
      case measure => simp [intOf]; omega
    · have Hn := Lib.hid (show octStr v n = t by rw [Hq.out, ← Hs.out, show n - k = 0 by omega]; rfl)
      go_wp2
      go_ret2
      rw [Hn.out]
      exact ⟨rfl, rfl⟩

theorem refOctal_no (v n : Int) (w : World) (hn : -9223372036854775808 ≤ n ∧ n ≤ 9223372036854775807) (h : octalOf v n = none) :
    Calls Tryz.prog 154 #[.int .i64 v, .int .i64 n] w fun e w' => w = w' ∧ e = .returned (.tuple #[.string ⟨([] : List UInt8).toArray⟩, .bool false]) := by
  by_cases hz : 2 ≤ n ∧ n ≤ 12
  · obtain ⟨m, rfl⟩ : ∃ m : Nat, n = m := ⟨n.toNat, by omega⟩
    have hz' := hz
    obtain ⟨z1, z2⟩ := hz'
    by_cases hv : 0 ≤ v
    · have hpl := pow8_le (m - 1) (by omega)
      have hbig : refPow 8 (m - 1) 1 ≤ v := by
        rcases Int.lt_or_le v (refPow 8 (m - 1) 1) with hlt | hle
        · exfalso
          have hc : v / 2 ^ (3 * ((m : Int).toNat - 1)) = 0 := by
            rw [Int.toNat_natCast, Int.pow_mul]
            rw [refPow8 (m - 1) (by omega)] at hlt
            exact Int.ediv_eq_zero_of_lt hv hlt
          unfold octalOf at h
          rw [if_pos ⟨by simp [isSize]; omega, hv, hc⟩] at h
          cases h
        · exact hle
      have Hp := Lib.hid (power_any 8 (m - 1) w (by decide) (by omega))
      clear h
      go_enter Tryz.func154, Tryz.ntmps154
      go_wp2_with fail
      rw [show ((m : Int) - 1) = ((m - 1 : Nat) : Int) by omega]
      refine Hp.out.mono ?_
      rintro e w' ⟨rfl, rfl⟩
      generalize refPow 8 (m - 1) 1 = pw at *
      go_wp2
      go_ret2
      exact ⟨rfl, rfl⟩
    · clear h
      go_enter Tryz.func154, Tryz.ntmps154
      go_wp2
      go_ret2
      exact ⟨rfl, rfl⟩
  · clear h
    by_cases h2 : n < 2
    · go_enter Tryz.func154, Tryz.ntmps154
      go_wp2
      go_ret2
      exact ⟨rfl, rfl⟩
    · have h12 : 12 < n := by omega
      go_enter Tryz.func154, Tryz.ntmps154
      go_wp2
      go_ret2
      exact ⟨rfl, rfl⟩

/-- The document's octal is octal.Octal's, whatever is handed in. -/
theorem refOctal_all (v n : Int) (w : World) (hn : -9223372036854775808 ≤ n ∧ n ≤ 9223372036854775807) :
    Calls Tryz.prog 154 #[.int .i64 v, .int .i64 n] w fun e w' => w = w' ∧ e = .returned (.tuple #[.string ⟨((octalOf v n).getD []).toArray⟩, .bool (octalOf v n).isSome]) := by
  by_cases h : isSize n = true ∧ 0 ≤ v ∧ v / 2 ^ (3 * (n.toNat - 1)) = 0
  · have hz := h.1
    obtain ⟨m, rfl⟩ : ∃ m : Nat, n = m := ⟨n.toNat, by simp [isSize] at hz; omega⟩
    have h2 : 2 ≤ m ∧ m ≤ 12 := by simp [isSize] at hz; omega
    have hq : octalOf v m = some (octStr v m) := by unfold octalOf; rw [if_pos h]; rfl
    rw [hq]
    refine refOctal_ok v m w h2.1 h2.2 h.2.1 ?_
    have hs := h.2.2
    rw [Int.toNat_natCast, Int.pow_mul] at hs
    rw [refPow8 (m - 1) (by omega)]
    have := Int.lt_ediv_add_one_mul_self v (show (0 : Int) < (2 ^ 3) ^ (m - 1) from Int.pow_pos (by decide))
    rw [hs] at this
    simpa using this
  · have hq : octalOf v n = none := by unfold octalOf; rw [if_neg h]
    rw [hq]
    exact refOctal_no v n w hn hq
end Go.Proofs.YtjmmecokfijglaaGreatDoor
