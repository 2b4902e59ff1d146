/-
  Contract of the statement's Spoilt.
-/
import Derived.Test.YtlloaalaldomkaaDoorHdY
import Derived.BigRegion
namespace Go.Proofs.YtlloaalaldomkaaDoor
open Go.ChangeShapes Go.WideShapes Go.ChangeAt Go.RowKit

/-- Places and texts that lie from address a on: the statement's Spots. -/
def SpotsAt (w : World) (b o n : Nat) (at_ : Nat → Nat) (s : Nat → List UInt8) : Prop :=
  ∀ i, i < n → w.cell? ⟨b, o + i * 2, none⟩ = some (.int .u16 (at_ i)) ∧ w.cell? ⟨b, o + i * 2 + 1, none⟩ = some (.string ⟨(s i).toArray⟩)
theorem SpotsAt.under {w w' : World} {b o n B : Nat} {at_ : Nat → Nat} {s : Nat → List UInt8} (h : SpotsAt w b o n at_ s) (hb : Below B w w') (hB : b < B) : SpotsAt w' b o n at_ s :=
  fun i hi => ⟨by rw [hb.cell (p := ⟨b, o + i * 2, none⟩) hB]; exact (h i hi).1, by rw [hb.cell (p := ⟨b, o + i * 2 + 1, none⟩) hB]; exact (h i hi).2⟩

set_option maxRecDepth 100000 in
set_option maxHeartbeats 1000000 in
theorem spoilt_any (B : List UInt8) (hB : B.length = 512) (b o n cap0 : Nat) (at_ : Nat → Nat) (s : Nat → List UInt8) (sl : Bool) (w : World) (hat0 : ∀ i, at_ i ≤ 65535) (hn : n ≤ 20) (hs : SpotsAt w b o n at_ s) (hbw : b < w.heap.size) :
    Calls Tryd.prog 10 #[.string ⟨B.toArray⟩, .slice (some ⟨b, o, none⟩) n cap0, .bool sl] w fun e w' => Below w.heap.size w w' ∧ ∃ x : List UInt8, e = .returned (.string ⟨x.toArray⟩) := by
  obtain ⟨cap, w1, hcv, hcap, hat, hb1⟩ := bytes_at B w
  rw [hB] at hcv hcap
  have Hs := Lib.hid (hs.under hb1 hbw)
  have HA := Lib.hid hat
  have Hb1 := Lib.hid hb1
  have Hat0 := Lib.hid hat0
  have HB := Lib.hid hB
  clear hs hat hb1 hat0 hB
  go_enter Tryd.func10, Tryd.ntmps10
  go_wp2_with fail
  clear hcv
  go_loopw [14] (fun i wr => ∃ k : Nat, k ≤ n ∧ i = .int .i64 k ∧ Below w.heap.size w wr ∧ ∃ L : List UInt8, L.length = 512 ∧ BytesAt wr w.heap.size L) (fun i _ => n - (intOf i).toNat)
  case atStart => exact ⟨0, Nat.zero_le _, rfl, Hb1.out, B, HB.out, HA.out⟩
  case round =>
    obtain ⟨k, hk, rfl, hb, L, hL, hA⟩ := hrel
    have Hb := Lib.hid hb
    have HL := Lib.hid hL
    have HA2 := Lib.hid hA
    have hzr : w.heap.size < wr.heap.size := hA.1
    clear hb hL hA
    by_cases hlt : k < n
    · have hsw : SpotsAt wr b o n at_ s := by
        have h0 : SpotsAt w b o n at_ s := fun i hi => by
          have := Hs.out i hi
          rw [Hb1.out.cell (p := ⟨b, o + i * 2, none⟩) hbw, Hb1.out.cell (p := ⟨b, o + i * 2 + 1, none⟩) hbw] at this
          exact this
        exact h0.under Hb.out hbw
      obtain ⟨c1, c2⟩ := hsw k hlt
      have ha := Hat0.out k
      clear hsw
      generalize at_ k = a at *
      generalize s k = x at *
      go_wp2_with fail
      have d1 := (Holds.new wr 56 [.int .u16 a, .string ⟨x.toArray⟩]).cell (i := 0) (by simp)
      have d2 := (Holds.new wr 56 [.int .u16 a, .string ⟨x.toArray⟩]).cell (i := 1) (by simp)
      have HA3 := Lib.hid (HA2.out.under ((Below.refl wr.heap.size wr).alloc (Nat.le_refl _) (.cells #[.int .u16 a, .string ⟨x.toArray⟩] 56)) hzr)
      have Hb3 := Lib.hid (Hb.out.alloc Hb.out.size (.cells #[.int .u16 a, .string ⟨x.toArray⟩] 56))
      change (wr.alloc (.cells #[.int .u16 a, .string ⟨x.toArray⟩] 56)).cell? ⟨wr.heap.size, 0, none⟩ = some (.int .u16 a) at d1
      change (wr.alloc (.cells #[.int .u16 a, .string ⟨x.toArray⟩] 56)).cell? ⟨wr.heap.size, 1, none⟩ = some (.string ⟨x.toArray⟩) at d2
      have hz0 : wr.heap.size < (wr.alloc (.cells #[.int .u16 a, .string ⟨x.toArray⟩] 56)).heap.size := by simp
      generalize wr.alloc (.cells #[.int .u16 a, .string ⟨x.toArray⟩] 56) = wa at *
      obtain ⟨m, hm⟩ : ∃ m : Nat, m = a % 512 := ⟨_, rfl⟩
      have hm5 : m < 512 := by omega
      have hrem : (a : Int).tmod 512 = (m : Int) := by rw [Int.tmod_eq_emod_of_nonneg (by omega)]; omega
      have hwr : IntKind.i64.wrap (a : Int) = (a : Int) := IntWalk.i64_in _ (by omega)
      have hcp : ∀ j, (Builtin.copy_ #[39, 9] 3 #[.slice (some ⟨w.heap.size, m, none⟩) (512 - m) (cap - m), .string ⟨x.toArray⟩]).run Tryd.prog (wa.drewN j) = .ok (goInt ((min x.length (512 - m) : Nat) : Int)) ((wa.drewN j).setCells w.heap.size m (byteCells (x.take (512 - m)))) := fun j =>
        run_copy_at (w := wa.drewN j) (L := L) HA3.out m (512 - m) (cap - m) x (by rw [HL.out]; omega)
      have hcp0 := hcp 0
      change (Builtin.copy_ #[39, 9] 3 #[.slice (some ⟨w.heap.size, m, none⟩) (512 - m) (cap - m), .string ⟨x.toArray⟩]).run Tryd.prog wa = .ok (goInt ((min x.length (512 - m) : Nat) : Int)) (wa.setCells w.heap.size m (byteCells (x.take (512 - m)))) at hcp0
      have hcp1 : (Builtin.copy_ #[39, 9] 3 #[.slice (some ⟨w.heap.size, m, none⟩) (512 - m) (cap - m), .string ⟨x.toArray⟩]).run Tryd.prog wa.drew = .ok (goInt ((min x.length (512 - m) : Nat) : Int)) (wa.drew.setCells w.heap.size m (byteCells (x.take (512 - m)))) :=
        run_copy_at (w := wa.drew) (L := L) HA3.out m (512 - m) (cap - m) x (by rw [HL.out]; omega)
      have hsb : (512 - (m : Int)).toNat = 512 - m := by omega
      clear c1 c2 hm ha
      go_region
      have htl : m + (x.take (512 - m)).length ≤ L.length := by rw [List.length_take, HL.out]; omega
      have hA5 := (show BytesAt wa.drew w.heap.size L from HA3.out).copied (o := m) (x.take (512 - m)) htl
      have hl5 : (over L m (x.take (512 - m))).length = 512 := by rw [over_length _ _ _ htl, HL.out]
      have hb5 := below_setCells w.heap.size (Nat.le_refl _) (byteCells (x.take (512 - m))) m wa.drew (show Below w.heap.size w wa.drew from Below.drew Hb3.out)
      clear hcp hcp0 hcp1 hrem hwr hsb htl
      have HA5 := Lib.hid hA5
      have Hl5 := Lib.hid hl5
      have Hb5 := Lib.hid hb5
      clear hA5 hl5 hb5
      go_wp2
      go_roundw
      case rel => exact ⟨k + 1, by omega, by go_num, Hb5.out, _, Hl5.out, HA5.out⟩
      case measure => simp [intOf]; omega
    · have HA4 := HA2.out.conv (cap := cap) HL.out
      cases sl
      · go_wp2
        go_ret
        exact ⟨Hb.out, L, rfl⟩
      · have Hse := Lib.hid (fun w => refSeal_any L w HL.out)
        go_wp2_with fail
        refine (Hse.out _).mono ?_
        rintro e w3 ⟨hb3, rfl⟩
        have Hb3 := Lib.hid (Hb.out.trans (hb3.mono Hb.out.size))
        clear hb3
        go_wp2
        go_ret
        exact ⟨Hb3.out, sealOf L, rfl⟩

theorem spoilt_nil (B : List UInt8) (hB : B.length = 512) (ad : Option Addr) (cap0 : Nat) (sl : Bool) (w : World) :
    Calls Tryd.prog 10 #[.string ⟨B.toArray⟩, .slice ad 0 cap0, .bool sl] w fun e w' => Below w.heap.size w w' ∧ ∃ x : List UInt8, e = .returned (.string ⟨x.toArray⟩) := by
  obtain ⟨cap, w1, hcv, hcap, hat, hb1⟩ := bytes_at B w
  rw [hB] at hcv hcap
  have HA := Lib.hid hat
  have Hb1 := Lib.hid hb1
  have HB := Lib.hid hB
  clear hat hb1 hB
  go_enter Tryd.func10, Tryd.ntmps10
  go_wp2_with fail
  clear hcv
  go_loopw [14] (fun i wr => i = .int .i64 0 ∧ wr = w1) (fun _ _ => 0)
  case atStart => exact ⟨rfl, rfl⟩
  case round =>
    obtain ⟨rfl, rfl⟩ := hrel
    have HA4 := HA.out.conv (cap := cap) HB.out
    cases sl
    · go_wp2
      go_ret
      exact ⟨Hb1.out, B, rfl⟩
    · have Hse := Lib.hid (fun w => refSeal_any B w HB.out)
      go_wp2_with fail
      refine (Hse.out _).mono ?_
      rintro e w3 ⟨hb3, rfl⟩
      have Hb3 := Lib.hid (Hb1.out.trans (hb3.mono Hb1.out.size))
      clear hb3
      go_wp2
      go_ret
      exact ⟨Hb3.out, sealOf B, rfl⟩
end Go.Proofs.YtlloaalaldomkaaDoor
