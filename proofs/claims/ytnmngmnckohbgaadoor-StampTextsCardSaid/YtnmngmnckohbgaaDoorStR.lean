/-
  Contracts of the document's own answer for layer 4: texts.
-/
import Derived.Test.YtnmngmnckohbgaaDoorSt
import Derived.Test.YtnmngmnckohbgaaDoorStW
import Derived.Deep.CutBlock
import Derived.Deep.DeepCutAuto
namespace Go.Proofs.YtnmngmnckohbgaaDoor
open Go.ChangeShapes Go.WideShapes Go.ChangeAt Go.RowKit

theorem digit_any (b : Int) (w : World) :
    Calls Tryd.prog 23 #[.int .u8 b] w fun e w' => w = w' ∧ e = .returned (.bool (decide (48 ≤ b ∧ b ≤ 57))) := by
  by_cases h : 48 ≤ b
  · have d1 : decide ((48 : Int) ≤ b) = true := decide_eq_true h
    have Hq := Lib.hid (show decide (b ≤ 57) = decide (48 ≤ b ∧ b ≤ 57) by rw [decide_eq_decide]; omega)
    clear h
    go_enter Tryd.func23, Tryd.ntmps23
    go_wp2
    go_ret
    rw [← Hq.out]
    exact ⟨rfl, rfl⟩
  · have d1 : decide ((48 : Int) ≤ b) = false := decide_eq_false h
    have Hq := Lib.hid (show decide (48 ≤ b ∧ b ≤ 57) = false from decide_eq_false (fun e => h e.1))
    clear h
    go_enter Tryd.func23, Tryd.ntmps23
    go_wp2
    go_ret
    rw [Hq.out]
    exact ⟨rfl, rfl⟩

theorem digit_of10 (k : Nat) (h : k < 10) : (List.drop k [48, 49, 50, 51, 52, 53, 54, 55, 56, 57]).take 1 = [(UInt8.ofNat (48 + k))] := by
  have : k = 0 ∨ k = 1 ∨ k = 2 ∨ k = 3 ∨ k = 4 ∨ k = 5 ∨ k = 6 ∨ k = 7 ∨ k = 8 ∨ k = 9 := by omega
  rcases this with h | h | h | h | h | h | h | h | h | h <;> subst h <;> rfl

theorem digits_q (u : Nat) : ∀ w : World, u ≤ 9007199254740991 →
    Calls Tryd.prog 25 #[.int .i64 u] w fun e w' => e = .returned (.string ⟨(Lib.decDigits u).toArray⟩) ∧ ∃ m, w' = w.drewN m := by
  induction u using Nat.strongRecOn with
  | _ u ih =>
    intro w hu
    have hsl : ∀ (x : Nat), x < 10 → ∀ W : World, (Instr.slice 9 (.string ⟨#[48, 49, 50, 51, 52, 53, 54, 55, 56, 57]⟩) (some (.int .i64 (x : Int))) (some (.int .i64 ((x : Int) + 1))) none).run Tryd.prog W = .ok (.string ⟨[UInt8.ofNat (48 + x)].toArray⟩) W := by
      intro x h1 W
      rw [run_slice_string W _ _ _ _ _ _ Tryd.underlying9 (by omega) (by omega) (by simp [ByteArray.size]; omega)]
      have he := str_extract [48, 49, 50, 51, 52, 53, 54, 55, 56, 57] (x : Int).toNat ((x : Int) + 1).toNat
      rw [show ((x : Int) + 1).toNat - (x : Int).toNat = 1 by omega, Int.toNat_natCast, digit_of10 _ h1] at he
      exact congrArg (fun s => Result.ok (Value.string s) W) he
    by_cases h : u < 10
    · have Hq := Lib.hid (show Lib.decDigits u = [UInt8.ofNat (48 + u)] by rw [Lib.decDigits, dif_pos h])
      have hs1 := hsl u h
      have hu2 : (u : Int) < 10 := by omega
      clear hsl ih
      go_enter Tryd.func25, Tryd.ntmps25
      go_wp2
      go_ret
      rw [Hq.out]
      exact ⟨by simp, 0, rfl⟩
    · have Hq := Lib.hid (show Lib.decDigits u = Lib.decDigits (u / 10) ++ [UInt8.ofNat (48 + u % 10)] by rw [Lib.decDigits, dif_neg h])
      have hs1 := hsl (u % 10) (by omega)
      have Hih := Lib.hid (fun w1 => ih (u / 10) (by omega) w1 (by omega))
      have hlen := decDigits_length16 (u / 10) (by omega)
      have t1 : (u : Int).tdiv 10 = ((u / 10 : Nat) : Int) := by rw [Int.tdiv_eq_ediv_of_nonneg (by omega)]; omega
      have t2 : (u : Int).tmod 10 = ((u % 10 : Nat) : Int) := by rw [Int.tmod_eq_emod_of_nonneg (by omega)]; omega
      have t3 : IntKind.i64.wrap (((u % 10 : Nat) : Int) + 1) = ((u % 10 : Nat) : Int) + 1 := IntWalk.i64_in _ (by omega)
      have t4 : IntKind.i64.wrap ((u / 10 : Nat) : Int) = ((u / 10 : Nat) : Int) := IntWalk.i64_in _ (by omega)
      have hu2 : ¬ (u : Int) < 10 := by omega
      clear hsl ih
      generalize Lib.decDigits (u / 10) = p at *
      generalize hd : u / 10 = d at *
      generalize hr : u % 10 = r at *
      clear hd hr
      go_enter Tryd.func25, Tryd.ntmps25
      go_wp2_with fail
      go_quiet ((go_at_call 25; exact Calls.quiet_of (Hih.out _)))
      go_wp2
      go_ret
      rw [Hq.out]
      exact ⟨by simp, _, rfl⟩
theorem digits_any (v : Int) (w : World) (h0 : 0 ≤ v) (h1 : v ≤ 9007199254740991) :
    Calls Tryd.prog 25 #[.int .i64 v] w fun e w' => Below w.heap.size w w' ∧ e = .returned (.string ⟨(Lib.decDigits v.toNat).toArray⟩) := by
  obtain ⟨u, rfl⟩ := Int.eq_ofNat_of_zero_le h0
  exact (digits_q u w (by omega)).mono fun e w' ⟨he, m, hw⟩ => ⟨by rw [hw]; exact below_drewN (Below.refl _ _) m, he⟩

/-- The place's worth, of so many digits that are left. -/
def pw : Nat → Int
  | 0 => 0
  | k + 1 => 10 ^ k
theorem pw_succ (k : Nat) : pw (k + 1) = 10 ^ k := rfl
theorem pw_tenth (k : Nat) (h : k ≤ 9) : (pw (k + 1)).tdiv 10 = pw k ∧ 1 ≤ pw (k + 1) ∧ pw (k + 1) ≤ 1000000000 := by
  have : k = 0 ∨ k = 1 ∨ k = 2 ∨ k = 3 ∨ k = 4 ∨ k = 5 ∨ k = 6 ∨ k = 7 ∨ k = 8 ∨ k = 9 := by omega
  rcases this with h | h | h | h | h | h | h | h | h | h <;> subst h <;> decide
theorem pw_cast (k : Nat) : pw (k + 1) = (((10 : Nat) ^ k : Nat) : Int) := by rw [pw_succ]; simp
theorem pw_parts (k : Nat) (v : Nat) (h : v < 10 ^ (k + 1)) :
    (v : Int).tdiv (pw (k + 1)) = ((v / 10 ^ k : Nat) : Int) ∧ (v : Int).tmod (pw (k + 1)) = ((v % 10 ^ k : Nat) : Int) ∧ v / 10 ^ k < 10 ∧ v % 10 ^ k < 10 ^ k := by
  have hp : 0 < 10 ^ k := Nat.pow_pos (by decide)
  rw [Nat.pow_succ] at h
  rw [pw_cast, Int.tdiv_eq_ediv_of_nonneg (by omega), Int.tmod_eq_emod_of_nonneg (by omega)]
  exact ⟨by simp, by simp, Nat.div_lt_of_lt_mul h, Nat.mod_lt _ hp⟩

theorem fracN_succ (k v : Nat) : fracN (k + 1) v = if v = 0 then [] else UInt8.ofNat (48 + v / 10 ^ k) :: fracN k (v % 10 ^ k) := rfl
theorem lt_nine (m : Int) (h0 : 0 ≤ m) (h1 : m ≤ 999999999) : m.toNat < 10 ^ 9 := by
  have : (10 : Nat) ^ 9 = 1000000000 := by decide
  omega

theorem refText_any (s n : Int) (w : World) (h : stRight s n = true) :
    Calls Tryd.prog 13 #[.int .i64 s, .int .i64 n] w fun e w' => Below w.heap.size w w' ∧ e = .returned (.string ⟨(stText s n).toArray⟩) := by
  have hbd := stRight_true h
  obtain ⟨b1, b2, b3, b4⟩ := hbd
  clear h
  by_cases hs : s < 0
  · by_cases h0 : n = 0
    · have Hq := Lib.hid (show stText s n = 45 :: dec2 (-s) (0) by unfold stText; rw [if_pos hs]; unfold stOpp; rw [if_pos h0])
      have Hq2 := Lib.hid (show stText s n = 45 :: Lib.decDigits (-s).toNat by rw [Hq.out]; unfold dec2; rw [if_pos rfl, List.append_nil])
      have Hd := Lib.hid (fun w1 => digits_any (-s) w1 (by omega) (by omega))
      have hlen := decDigits_length16 (-s).toNat (by omega)
      generalize Lib.decDigits (-s).toNat = x at *
      subst h0
      go_enter Tryd.func13, Tryd.ntmps13
      go_wp2_with fail
      refine (Hd.out _).mono ?_
      rintro e w1 ⟨hb, rfl⟩
      have Hb := Lib.hid hb
      clear hb
      go_wp2
      go_ret
      rw [Hq2.out]
      exact ⟨Hb.out, by simp⟩
    · have Hq := Lib.hid (show stText s n = 45 :: dec2 (-s - 1) (1000000000 - n) by unfold stText; rw [if_pos hs]; unfold stOpp; rw [if_neg h0])
      have Hq2 := Lib.hid (show stText s n = 45 :: (Lib.decDigits (-s - 1).toNat ++ 46 :: fracN 9 (1000000000 - n).toNat) by rw [Hq.out]; unfold dec2; rw [if_neg (by omega), trim_digN 9 _ (lt_nine _ (by omega) (by omega))])
      have Hd := Lib.hid (fun w1 => digits_any (-s - 1) w1 (by omega) (by omega))
      have hlen := decDigits_length16 (-s - 1).toNat (by omega)
      generalize Lib.decDigits (-s - 1).toNat = x at *
      have e0 : (n == 0) = false := by simpa using h0
      have e9 : (1000000000 - n == 0) = false := by rw [beq_eq_false_iff_ne]; omega
      have h0n : 0 < n := by omega
      clear h0
      go_enter Tryd.func13, Tryd.ntmps13
      go_wp2_with fail
      refine (Hd.out _).mono ?_
      rintro e w1 ⟨hb, rfl⟩
      have Hb := Lib.hid hb
      clear hb
      go_wp2_with fail
      obtain ⟨V, hV⟩ : ∃ V : Nat, (V : Int) = 1000000000 - n := ⟨(1000000000 - n).toNat, by omega⟩
      have hVb : V < 10 ^ 9 := by have e := lt_nine (V : Int) (by omega) (by omega); rw [Int.toNat_natCast] at e; exact e
      have HV := Lib.hid (show (1000000000 - n).toNat = V by omega)
      have HVi := Lib.hid hV
      clear hV
      go_loopw [1, 5, 6] (fun nn t p wr => Below w.heap.size w wr ∧ ∃ (k v : Nat) (l : List UInt8), k ≤ 9 ∧ v < 10 ^ k ∧ nn = .int .i64 (v : Int) ∧ p = .int .i64 (pw k) ∧ t = .string ⟨l.toArray⟩ ∧ l.length + k ≤ 100 ∧ l ++ fracN k v = 45 :: (x ++ 46 :: fracN 9 V)) (fun _ _ p _ => (intOf p).toNat)
      case atStart => exact ⟨Hb.out, 9, V, _, Nat.le_refl _, hVb, by rw [HVi.out], rfl, rfl, by simp; omega, by simp⟩
      case round =>
        obtain ⟨hb, k, v, l, hk, hv, rfl, rfl, rfl, hl, hs2⟩ := hrel
        clear Hb
        have Hb := Lib.hid hb
        clear hb
        have Hs2 := Lib.hid hs2
        have Hv := Lib.hid hv
        clear hs2 hv
        by_cases hv0 : 0 < v
        · obtain ⟨k, rfl⟩ : ∃ j, k = j + 1 := ⟨k - 1, by rcases k with _ | k; have := Hv.out; simp at this; omega; rfl⟩
          obtain ⟨q1, q2, q3, q4⟩ := pw_parts k v Hv.out
          obtain ⟨r1, r2, r3⟩ := pw_tenth k (by omega)
          have Hn := Lib.hid (show fracN (k + 1) v = UInt8.ofNat (48 + v / 10 ^ k) :: fracN k (v % 10 ^ k) by rw [fracN_succ, if_neg (by omega)])
          have e1 : (pw (k + 1) == 0) = false := by rw [beq_eq_false_iff_ne]; omega
          have hvi : 0 < (v : Int) := by omega
          have Hq4 := Lib.hid q4
          have hvb : (v : Int) ≤ 9999999999 := by
            have h1 := Hv.out
            have h2 : 10 ^ (k + 1) ≤ 10 ^ 10 := Nat.pow_le_pow_right (by decide) (by omega)
            have h3 : (10 : Nat) ^ 10 = 10000000000 := by decide
            omega
          clear q4
          generalize v / 10 ^ k = d at *
          generalize v % 10 ^ k = m at *
          have Hd1 := Lib.hid (fun w1 => digits_any (d : Int) w1 (by omega) (by omega))
          have Hd2 : Lib.decDigits (d : Int).toNat = [UInt8.ofNat (48 + d)] := by rw [Int.toNat_natCast, Lib.decDigits, dif_pos q3]
          rw [Hd2] at Hd1
          clear Hd2
          have hpk : pw k < pw (k + 1) ∧ 0 ≤ pw k := by rw [← r1, Int.tdiv_eq_ediv_of_nonneg (by omega)]; omega
          generalize pw (k + 1) = P at *
          go_wp2_with fail
          refine (Hd1.out _).mono ?_
          rintro e w2 ⟨hb2, rfl⟩
          have Hb2 := Lib.hid (Hb.out.trans (hb2.mono Hb.out.size))
          clear hb2
          go_wp2
          go_roundw
          case rel => exact ⟨Hb2.out, k, m, _, by omega, Hq4.out, rfl, rfl, rfl, by simp; omega, by rw [← Hs2.out, Hn.out]; simp⟩
          case measure => simp [intOf]; omega
        · have Hz := Lib.hid (show fracN k v = [] by rw [show v = 0 by omega]; cases k <;> rfl)
          go_wp2
          go_ret
          rw [Hq2.out, HV.out, ← Hs2.out, Hz.out]
          exact ⟨Hb.out, by simp⟩
  · by_cases h0 : n = 0
    · have Hq := Lib.hid (show stText s n = dec2 s n from if_neg hs)
      have Hq2 := Lib.hid (show stText s n = Lib.decDigits (s).toNat by rw [Hq.out]; unfold dec2; rw [if_pos h0, List.append_nil])
      have Hd := Lib.hid (fun w1 => digits_any (s) w1 (by omega) (by omega))
      have hlen := decDigits_length16 (s).toNat (by omega)
      generalize Lib.decDigits (s).toNat = x at *
      subst h0
      go_enter Tryd.func13, Tryd.ntmps13
      go_wp2_with fail
      refine (Hd.out _).mono ?_
      rintro e w1 ⟨hb, rfl⟩
      have Hb := Lib.hid hb
      clear hb
      go_wp2
      go_ret
      rw [Hq2.out]
      exact ⟨Hb.out, by simp⟩
    · have Hq := Lib.hid (show stText s n = dec2 s n from if_neg hs)
      have Hq2 := Lib.hid (show stText s n = (Lib.decDigits (s).toNat ++ 46 :: fracN 9 (n).toNat) by rw [Hq.out]; unfold dec2; rw [if_neg (by omega), trim_digN 9 _ (lt_nine _ (by omega) (by omega))])
      have Hd := Lib.hid (fun w1 => digits_any (s) w1 (by omega) (by omega))
      have hlen := decDigits_length16 (s).toNat (by omega)
      generalize Lib.decDigits (s).toNat = x at *
      have e0 : (n == 0) = false := by simpa using h0
      have h0n : 0 < n := by omega
      clear h0
      go_enter Tryd.func13, Tryd.ntmps13
      go_wp2_with fail
      refine (Hd.out _).mono ?_
      rintro e w1 ⟨hb, rfl⟩
      have Hb := Lib.hid hb
      clear hb
      go_wp2_with fail
      obtain ⟨V, hV⟩ : ∃ V : Nat, (V : Int) = n := ⟨(n).toNat, by omega⟩
      have hVb : V < 10 ^ 9 := by have e := lt_nine (V : Int) (by omega) (by omega); rw [Int.toNat_natCast] at e; exact e
      have HV := Lib.hid (show (n).toNat = V by omega)
      have HVi := Lib.hid hV
      clear hV
      go_loopw [1, 5, 6] (fun nn t p wr => Below w.heap.size w wr ∧ ∃ (k v : Nat) (l : List UInt8), k ≤ 9 ∧ v < 10 ^ k ∧ nn = .int .i64 (v : Int) ∧ p = .int .i64 (pw k) ∧ t = .string ⟨l.toArray⟩ ∧ l.length + k ≤ 100 ∧ l ++ fracN k v = (x ++ 46 :: fracN 9 V)) (fun _ _ p _ => (intOf p).toNat)
      case atStart => exact ⟨Hb.out, 9, V, _, Nat.le_refl _, hVb, by rw [HVi.out], rfl, rfl, by simp; omega, by simp⟩
      case round =>
        obtain ⟨hb, k, v, l, hk, hv, rfl, rfl, rfl, hl, hs2⟩ := hrel
        clear Hb
        have Hb := Lib.hid hb
        clear hb
        have Hs2 := Lib.hid hs2
        have Hv := Lib.hid hv
        clear hs2 hv
        by_cases hv0 : 0 < v
        · obtain ⟨k, rfl⟩ : ∃ j, k = j + 1 := ⟨k - 1, by rcases k with _ | k; have := Hv.out; simp at this; omega; rfl⟩
          obtain ⟨q1, q2, q3, q4⟩ := pw_parts k v Hv.out
          obtain ⟨r1, r2, r3⟩ := pw_tenth k (by omega)
          have Hn := Lib.hid (show fracN (k + 1) v = UInt8.ofNat (48 + v / 10 ^ k) :: fracN k (v % 10 ^ k) by rw [fracN_succ, if_neg (by omega)])
          have e1 : (pw (k + 1) == 0) = false := by rw [beq_eq_false_iff_ne]; omega
          have hvi : 0 < (v : Int) := by omega
          have Hq4 := Lib.hid q4
          have hvb : (v : Int) ≤ 9999999999 := by
            have h1 := Hv.out
            have h2 : 10 ^ (k + 1) ≤ 10 ^ 10 := Nat.pow_le_pow_right (by decide) (by omega)
            have h3 : (10 : Nat) ^ 10 = 10000000000 := by decide
            omega
          clear q4
          generalize v / 10 ^ k = d at *
          generalize v % 10 ^ k = m at *
          have Hd1 := Lib.hid (fun w1 => digits_any (d : Int) w1 (by omega) (by omega))
          have Hd2 : Lib.decDigits (d : Int).toNat = [UInt8.ofNat (48 + d)] := by rw [Int.toNat_natCast, Lib.decDigits, dif_pos q3]
          rw [Hd2] at Hd1
          clear Hd2
          have hpk : pw k < pw (k + 1) ∧ 0 ≤ pw k := by rw [← r1, Int.tdiv_eq_ediv_of_nonneg (by omega)]; omega
          generalize pw (k + 1) = P at *
          go_wp2_with fail
          refine (Hd1.out _).mono ?_
          rintro e w2 ⟨hb2, rfl⟩
          have Hb2 := Lib.hid (Hb.out.trans (hb2.mono Hb.out.size))
          clear hb2
          go_wp2
          go_roundw
          case rel => exact ⟨Hb2.out, k, m, _, by omega, Hq4.out, rfl, rfl, rfl, by simp; omega, by rw [← Hs2.out, Hn.out]; simp⟩
          case measure => simp [intOf]; omega
        · have Hz := Lib.hid (show fracN k v = [] by rw [show v = 0 by omega]; cases k <;> rfl)
          go_wp2
          go_ret
          rw [Hq2.out, HV.out, ← Hs2.out, Hz.out]
          exact ⟨Hb.out, by simp⟩
end Go.Proofs.YtnmngmnckohbgaaDoor
