/-
  Contracts of text.Part and of the document's own answer for it.
-/
import Derived.Test.YtlloaalaldomkaaDoorTxt
namespace Go.Proofs.YtlloaalaldomkaaDoor
open Go.ChangeShapes Go.WideShapes Go.ChangeAt Go.RowKit

/-- What txtPart says, as three results. -/
def part3 (o : Option (List UInt8 × List UInt8)) : Value :=
  .tuple #[.string ⟨(match o with | some (p, _) => p | none => []).toArray⟩, .string ⟨(match o with | some (_, b) => b | none => []).toArray⟩, .bool o.isSome]

theorem tPart_any (l : List UInt8) (w : World) (hl : l.length ≤ 9223372036854775807) :
    Calls Tryd.prog 29 #[.string ⟨l.toArray⟩] w fun e w' => Below w.heap.size w w' ∧ e = .returned (part3 (txtPart l)) := by
  by_cases h1 : l.length ≤ 100
  · have Hq := Lib.hid (show txtPart l = some ([], l) by unfold txtPart; rw [if_pos h1])
    go_enter Tryd.func29, Tryd.ntmps29
    go_wp2
    go_ret3
    rw [Hq.out]
    exact ⟨Below.refl _ _, rfl⟩
  · have h2 : 100 < l.length := by omega
    obtain ⟨k1, k2, k3, k4⟩ := lastIndex_part l h2
    have Hc := Lib.hid (Tryd.strings_LastIndex ⟨(l.take (min (l.length - 1) 156)).toArray⟩ ⟨[47].toArray⟩ (by simp [ByteArray.size]; omega) w)
    have hdat : Lib.lastIndex (⟨(l.take (min (l.length - 1) 156)).toArray⟩ : ByteArray).data.toList (⟨[47].toArray⟩ : ByteArray).data.toList = Lib.lastIndex (l.take (min (l.length - 1) 156)) [47] := by simp
    rw [hdat] at Hc
    clear hdat
    generalize Lib.lastIndex (l.take (min (l.length - 1) 156)) [47] = s at *
    have Hu := Lib.hid (show txtPart l = if lastPart l l.length < 0 then none else some (l.take (lastPart l l.length).toNat, l.drop ((lastPart l l.length).toNat + 1)) by unfold txtPart; rw [if_neg h1])
    have K1 := Lib.hid k1
    have K2 := Lib.hid k2
    clear k1 k2 h1
    by_cases hok : 1 ≤ s ∧ (l.length : Int) - s - 1 ≤ 100
    · obtain ⟨i, rfl⟩ : ∃ i : Nat, s = i := ⟨s.toNat, by omega⟩
      have Hq := Lib.hid (show txtPart l = some (l.take i, l.drop (i + 1)) by
        rw [Hu.out, K1.out hok, if_neg (by omega), Int.toNat_natCast])
      clear Hu K1 K2
      obtain ⟨o1, o2⟩ := hok
      have b1 : (i : Int) + 1 ≤ l.length := by omega
      go_enter Tryd.func29, Tryd.ntmps29
      go_wp2_with fail
      rw [show (min ((l.length : Int) - 1) 156).toNat = min (l.length - 1) 156 by omega]
      refine Hc.out.mono ?_
      rintro e w' ⟨rfl, rfl⟩
      go_wp2
      go_quiet (fail)
      go_wp2
      go_ret3
      rw [Hq.out]
      exact ⟨below_drewN (Below.refl _ _) _, by simp [part3]⟩
    · have hlt := K2.out hok
      have Hq := Lib.hid (show txtPart l = none by rw [Hu.out, if_pos hlt])
      clear Hu K1 K2 hlt
      by_cases o1 : s < 1
      · clear hok
        go_enter Tryd.func29, Tryd.ntmps29
        go_wp2_with fail
        rw [show (min ((l.length : Int) - 1) 156).toNat = min (l.length - 1) 156 by omega]
        refine Hc.out.mono ?_
        rintro e w' ⟨rfl, rfl⟩
        go_wp2
        go_ret3
        rw [Hq.out]
        exact ⟨Below.refl _ _, rfl⟩
      · have o2 : 100 < (l.length : Int) - s - 1 := by omega
        clear hok
        go_enter Tryd.func29, Tryd.ntmps29
        go_wp2_with fail
        rw [show (min ((l.length : Int) - 1) 156).toNat = min (l.length - 1) 156 by omega]
        refine Hc.out.mono ?_
        rintro e w' ⟨rfl, rfl⟩
        go_wp2
        go_ret3
        rw [Hq.out]
        exact ⟨Below.refl _ _, rfl⟩

theorem refTPart_any (l : List UInt8) (w : World) (hl : l.length ≤ 9223372036854775807) :
    Calls Tryd.prog 25 #[.string ⟨l.toArray⟩] w fun e w' => Below w.heap.size w w' ∧ e = .returned (part3 (txtPart l)) := by
  by_cases h1 : l.length ≤ 100
  · have Hq := Lib.hid (show txtPart l = some ([], l) by unfold txtPart; rw [if_pos h1])
    go_enter Tryd.func25, Tryd.ntmps25
    go_wp2
    go_ret3
    rw [Hq.out]
    exact ⟨Below.refl _ _, rfl⟩
  · have h2 : 100 < l.length := by omega
    have Hu := Lib.hid (show txtPart l = if lastPart l l.length < 0 then none else some (l.take (lastPart l l.length).toNat, l.drop ((lastPart l l.length).toNat + 1)) by unfold txtPart; rw [if_neg h1])
    clear h1
    go_enter Tryd.func25, Tryd.ntmps25
    go_wp2
    go_loop [5, 6, 7] (fun a i _ => ∃ k : Nat, 1 ≤ k ∧ k ≤ l.length ∧ i = .int .i64 k ∧ ∃ z : Int, a = .int .i64 z ∧ z = lastPart l k) (fun _ i _ => l.length - (intOf i).toNat)
    case atStart => exact ⟨1, Nat.le_refl _, by omega, rfl, -1, rfl, by rw [lastPart_succ, if_neg (fun h => absurd h.2.1 (by omega))]; rfl⟩
    case round =>
      obtain ⟨k, hk1, hk, rfl, z, rfl, hz⟩ := hrel
      have Hz := Lib.hid hz
      clear hz
      by_cases hlt : k < l.length
      · have hget := Lib.hid (List.getElem?_eq_getElem hlt)
        by_cases hp : parts l k
        · have Hn := Lib.hid (show lastPart l (k + 1) = k by rw [lastPart_succ, if_pos hp])
          obtain ⟨p1, p2, p3, p4, p5, p6⟩ := hp
          rw [hget.out] at p1
          have e1 : ((l[k].toNat : Int) == 47) = true := by
            have : l[k] = 47 := by simpa using p1
            rw [this]; rfl
          clear p1
          go_wp2
          go_round
          case rel => exact ⟨k + 1, by omega, by omega, by go_num, k, rfl, Hn.out.symm⟩
          case measure => simp [intOf]; omega
        · have Hn := Lib.hid (show lastPart l (k + 1) = z by rw [lastPart_succ, if_neg hp, Hz.out])
          have Hp := Lib.hid hp
          clear hp
          by_cases h47 : (l[k].toNat : Int) = 47
          · have e1 : ((l[k].toNat : Int) == 47) = true := by simpa using h47
            have p1 : l[k]? = some 47 := by
              rw [hget.out]
              have : l[k] = 47 := UInt8.toNat_inj.1 (by have : (47 : UInt8).toNat = 47 := rfl; omega)
              rw [this]
            have Hno := Lib.hid (show ¬ (k ≤ 155 ∧ 1 ≤ l.length - k - 1 ∧ l.length - k - 1 ≤ 100) from fun ⟨a, b, c⟩ => Hp.out ⟨p1, hk1, a, b, c, hlt⟩)
            clear h47 p1
            by_cases c1 : k ≤ 155
            · by_cases c2 : (1 : Int) ≤ l.length - k - 1
              · have c3 : 100 < (l.length : Int) - k - 1 := by have := Hno.out; omega
                go_wp2
                go_round
                case rel => exact ⟨k + 1, by omega, by omega, by go_num, z, rfl, Hn.out.symm⟩
                case measure => simp [intOf]; omega
              · go_wp2
                go_round
                case rel => exact ⟨k + 1, by omega, by omega, by go_num, z, rfl, Hn.out.symm⟩
                case measure => simp [intOf]; omega
            · go_wp2
              go_round
              case rel => exact ⟨k + 1, by omega, by omega, by go_num, z, rfl, Hn.out.symm⟩
              case measure => simp [intOf]; omega
          · have e1 : ((l[k].toNat : Int) == 47) = false := by simpa using h47
            clear h47
            go_wp2
            go_round
            case rel => exact ⟨k + 1, by omega, by omega, by go_num, z, rfl, Hn.out.symm⟩
            case measure => simp [intOf]; omega
      · have Hk := Lib.hid (show lastPart l l.length = z by rw [Hz.out, show k = l.length by omega])
        by_cases hneg : z < 0
        · have Hq := Lib.hid (show txtPart l = none by rw [Hu.out, Hk.out, if_pos hneg])
          clear Hu
          go_wp2
          go_ret3
          rw [Hq.out]
          exact ⟨Below.refl _ _, rfl⟩
        · obtain ⟨i, rfl⟩ : ∃ i : Nat, z = i := ⟨z.toNat, by omega⟩
          have hi : i < l.length := by
            have := Hk.out
            rcases lastPart_spec l l.length with ⟨q, _⟩ | ⟨j, q1, q2, _⟩ <;> omega
          have Hq := Lib.hid (show txtPart l = some (l.take i, l.drop (i + 1)) by rw [Hu.out, Hk.out, if_neg (by omega), Int.toNat_natCast])
          clear Hu
          have b1 : (i : Int) + 1 ≤ l.length := by omega
          go_wp2
          go_quiet (fail)
          go_wp2
          go_ret3
          rw [Hq.out]
          exact ⟨below_drewN (Below.refl _ _) _, by simp [part3]⟩

end Go.Proofs.YtlloaalaldomkaaDoor
