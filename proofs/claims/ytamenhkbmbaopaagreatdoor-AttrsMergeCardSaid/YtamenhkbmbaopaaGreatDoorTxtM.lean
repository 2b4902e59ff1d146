/-
  Contract of text.Part.
-/
import Derived.Test.YtamenhkbmbaopaaGreatDoorTxt
namespace Go.Proofs.YtamenhkbmbaopaaGreatDoor
open Go.ChangeShapes Go.WideShapes Go.ChangeAt Go.RowKit

/-- What txtPart says, as three results. -/
def part3 (o : Option (List UInt8 × List UInt8)) : Value :=
  .tuple #[.string ⟨(match o with | some (p, _) => p | none => []).toArray⟩, .string ⟨(match o with | some (_, b) => b | none => []).toArray⟩, .bool o.isSome]

theorem tPart_any (l : List UInt8) (w : World) (hl : l.length ≤ 9223372036854775807) :
    Calls Tryz.prog 30 #[.string ⟨l.toArray⟩] w fun e w' => Below w.heap.size w w' ∧ e = .returned (part3 (txtPart l)) := by
  by_cases h1 : l.length ≤ 100
  · have Hq := Lib.hid (show txtPart l = some ([], l) by unfold txtPart; rw [if_pos h1])
    go_enter Tryz.func30, Tryz.ntmps30
    go_wp2
    go_ret3
    rw [Hq.out]
    exact ⟨Below.refl _ _, rfl⟩
  · have h2 : 100 < l.length := by omega
    obtain ⟨k1, k2, k3, k4⟩ := lastIndex_part l h2
    have Hc := Lib.hid (Tryz.strings_LastIndex ⟨(l.take (min (l.length - 1) 156)).toArray⟩ ⟨[47].toArray⟩ (by simp [ByteArray.size]; omega) w)
    have hdat : Lib.lastIndex (⟨(l.take (min (l.length - 1) 156)).toArray⟩ : ByteArray).data.toList (⟨[47].toArray⟩ : ByteArray).data.toList = Lib.lastIndex (l.take (min (l.length - 1) 156)) [47] := by simp
    rw [hdat] at Hc
    clear hdat
    generalize Lib.lastIndex (l.take (min (l.length - 1) 156)) [47] = s at *
    have Hu := Lib.hid (show txtPart l = if lastPart l l.length < 0 then none else some (l.take (lastPart l l.length).toNat, l.drop ((lastPart l l.length).toNat + 1)) by unfold txtPart; rw [if_neg h1])
    have K1 := Lib.hid k1
    have K2 := Lib.hid k2
    clear k1 k2 h1
    by_cases hok : 1 ≤ s ∧ (l.length : Int) - s - 1 ≤ 100
    · obtain ⟨i, rfl⟩ : ∃ i : Nat, s = i := ⟨s.toNat, by omega⟩
      have Hq := Lib.hid (show txtPart l = some (l.take i, l.drop (i + 1)) by
        rw [Hu.out, K1.out hok, if_neg (by omega), Int.toNat_natCast])
      clear Hu K1 K2
      obtain ⟨o1, o2⟩ := hok
      have b1 : (i : Int) + 1 ≤ l.length := by omega
      go_enter Tryz.func30, Tryz.ntmps30
      go_wp2_with fail
      rw [show (min ((l.length : Int) - 1) 156).toNat = min (l.length - 1) 156 by omega]
      refine Hc.out.mono ?_
      rintro e w' ⟨rfl, rfl⟩
      go_wp2
      go_quiet (fail)
      go_wp2
      go_ret3
      rw [Hq.out]
      exact ⟨below_drewN (Below.refl _ _) _, by simp [part3]⟩
    · have hlt := K2.out hok
      have Hq := Lib.hid (show txtPart l = none by rw [Hu.out, if_pos hlt])
      clear Hu K1 K2 hlt
      by_cases o1 : s < 1
      · clear hok
        go_enter Tryz.func30, Tryz.ntmps30
        go_wp2_with fail
        rw [show (min ((l.length : Int) - 1) 156).toNat = min (l.length - 1) 156 by omega]
        refine Hc.out.mono ?_
        rintro e w' ⟨rfl, rfl⟩
        go_wp2
        go_ret3
        rw [Hq.out]
        exact ⟨Below.refl _ _, rfl⟩
      · have o2 : 100 < (l.length : Int) - s - 1 := by omega
        clear hok
        go_enter Tryz.func30, Tryz.ntmps30
        go_wp2_with fail
        rw [show (min ((l.length : Int) - 1) 156).toNat = min (l.length - 1) 156 by omega]
        refine Hc.out.mono ?_
        rintro e w' ⟨rfl, rfl⟩
        go_wp2
        go_ret3
        rw [Hq.out]
        exact ⟨Below.refl _ _, rfl⟩
end Go.Proofs.YtamenhkbmbaopaaGreatDoor
