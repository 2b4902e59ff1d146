/-
  Texts of this seat's proof, joined: their order is that of the build.
-/
import Derived.Test.YtjmmecokfijglaaGreatDoorJB11
import Derived.Test.YtjmmecokfijglaaGreatDoorJB12
namespace Go.Proofs.YtjmmecokfijglaaGreatDoor
open Go.ChangeShapes Go.WideShapes Go.ChangeAt Go.RowKit Go.Maps

/-- A number's text: the number, and an error's number. -/
def atNum (l : List UInt8) : Int × Int := if areDig l 16 = true then (if 9007199254740991 < numD 0 l then (0, 6) else (numD 0 l, 0)) else (0, 2)
theorem atNum_form {l : List UInt8} (h : areDig l 16 = false) : atNum l = (0, 2) := by unfold atNum; rw [h]; rfl
theorem atNum_far {l : List UInt8} (h : areDig l 16 = true) (h2 : 9007199254740991 < numD 0 l) : atNum l = (0, 6) := by unfold atNum; rw [h, if_pos rfl, if_pos h2]
theorem atNum_ok {l : List UInt8} (h : areDig l 16 = true) (h2 : ¬ 9007199254740991 < numD 0 l) : atNum l = (numD 0 l, 0) := by unfold atNum; rw [h, if_pos rfl, if_neg h2]
theorem areDig_nil : areDig [] 16 = false := rfl
theorem areDig_long {l : List UInt8} (h : 16 < l.length) : areDig l 16 = false := by
  unfold areDig; rw [decide_eq_false (fun e => by have := e.2; omega)]; rfl
theorem areDig_at {l : List UInt8} {k : Nat} (hk : k < l.length) (h : isDig l[k] = false) : areDig l 16 = false := by
  have : allDig l = false := by
    rw [← List.take_append_drop k l, allDig_append, drop_at hk, show allDig (l[k] :: l.drop (k + 1)) = (isDig l[k] && allDig (l.drop (k + 1))) from rfl, h, Bool.false_and, Bool.and_false]
  unfold areDig; rw [this, Bool.and_false]
theorem areDig_all {l : List UInt8} (h0 : l ≠ []) (h1 : l.length ≤ 16) (h : allDig l = true) : areDig l 16 = true := by
  unfold areDig; rw [h, decide_eq_true ⟨h0, by omega⟩]; rfl
theorem allDig_more {l : List UInt8} {k : Nat} (hk : k < l.length) (h : allDig (l.take k) = true) (hd : isDig l[k] = true) : allDig (l.take (k + 1)) = true := by
  rw [List.take_succ_eq_append_getElem hk, allDig_append, h, show allDig [l[k]] = (isDig l[k] && true) from rfl, hd]; rfl

set_option maxRecDepth 100000 in
set_option maxHeartbeats 1000000 in
theorem atNumber_any (l : List UInt8) (w : World) (hl : l.length ≤ maxLen) :
    Calls Tryz.prog 129 #[.string ⟨l.toArray⟩] w fun e w' => w = w' ∧ e = .returned (.tuple #[.int .i64 (atNum l).1, .int .i64 (atNum l).2]) := by
  unfold maxLen at hl
  by_cases hnil : l = []
  · subst hnil
    have Hq := Lib.hid (atNum_form areDig_nil)
    go_enter Tryz.func129, Tryz.ntmps129
    go_wp2
    go_ret2
    rw [Hq.out]
    exact ⟨rfl, rfl⟩
  · have hne : l.isEmpty = false := by simpa using hnil
    have hln : 1 ≤ l.length := by cases l with | nil => exact absurd rfl hnil | cons a t => simp
    by_cases hm : 16 < l.length
    · have Hq := Lib.hid (atNum_form (areDig_long hm))
      have hm2 : 16 < (l.length : Int) := by omega
      clear hm
      go_enter Tryz.func129, Tryz.ntmps129
      go_wp2
      go_ret2
      rw [Hq.out]
      exact ⟨rfl, rfl⟩
    · have hm2 : ¬ 16 < (l.length : Int) := by omega
      have Hm := Lib.hid hm
      have Hnil := Lib.hid hnil
      clear hl hm hnil
      go_enter Tryz.func129, Tryz.ntmps129
      go_wp2
      go_loop [4, 15] (fun v i => ∃ k : Nat, k ≤ l.length ∧ i = .int .i64 k ∧ v = .int .i64 (numD 0 (l.take k)) ∧ allDig (l.take k) = true) (fun _ i => l.length - (intOf i).toNat)
      case atStart => exact ⟨0, Nat.zero_le _, rfl, rfl, rfl⟩
      case round =>
        obtain ⟨k, hk, rfl, rfl, hs⟩ := hrel
        have Hs := Lib.hid hs
        have hv := numD_bd16 (l.take k) hs (by rw [List.length_take]; have := Hm.out; omega)
        obtain ⟨hv0, hv1⟩ := hv
        clear hs
        by_cases hlt : k < l.length
        · have hb := byte_lt l[k]
          by_cases h1 : (l[k].toNat : Int) < 48
          · have Hz := Lib.hid (atNum_form (areDig_at hlt (show isDig l[k] = false by simp [isDig]; omega)))
            go_wp2
            go_ret2
            rw [Hz.out]
            exact ⟨rfl, rfl⟩
          · by_cases h2 : 57 < (l[k].toNat : Int)
            · have Hz := Lib.hid (atNum_form (areDig_at hlt (show isDig l[k] = false by simp [isDig]; omega)))
              go_wp2
              go_ret2
              rw [Hz.out]
              exact ⟨rfl, rfl⟩
            · have Hd := Lib.hid (allDig_more hlt Hs.out (isDig_mk (by omega) (by omega)))
              have Hn := Lib.hid (show numD 0 (l.take (k + 1)) = numD 0 (l.take k) * 10 + ((l[k].toNat : Int) - 48) by rw [List.take_succ_eq_append_getElem hlt, numD_append]; show numD 0 (l.take k) * 10 + ((l[k].toNat : Int) - 48) = _; omega)
              generalize numD 0 (l.take k) = X at *
              go_wp2
              go_round
              case rel => exact ⟨k + 1, by omega, by go_num, by rw [Hn.out], Hd.out⟩
              case measure => simp [intOf]; omega
        · have e : l.take k = l := List.take_of_length_le (by omega)
          rw [e] at Hs hv0 hv1 ⊢
          have Hd := Lib.hid (areDig_all Hnil.out (by have := Hm.out; omega) Hs.out)
          by_cases hf : 9007199254740991 < numD 0 l
          · have Hz := Lib.hid (atNum_far Hd.out hf)
            generalize numD 0 l = X at *
            go_wp2
            go_ret2
            rw [Hz.out]
            exact ⟨rfl, rfl⟩
          · have Hz := Lib.hid (atNum_ok Hd.out hf)
            generalize numD 0 l = X at *
            go_wp2
            go_ret2
            rw [Hz.out]
            exact ⟨rfl, rfl⟩

set_option maxRecDepth 100000 in
set_option maxHeartbeats 1000000 in
theorem refAtNumber_any (l : List UInt8) (w : World) (hl : l.length ≤ maxLen) :
    Calls Tryz.prog 31 #[.string ⟨l.toArray⟩] w fun e w' => w = w' ∧ e = .returned (.tuple #[.int .i64 (atNum l).1, .int .i64 (atNum l).2]) := by
  unfold maxLen at hl
  by_cases hnil : l = []
  · subst hnil
    have Hq := Lib.hid (atNum_form areDig_nil)
    go_enter Tryz.func31, Tryz.ntmps31
    go_wp2
    go_ret2
    rw [Hq.out]
    exact ⟨rfl, rfl⟩
  · have hne : l.isEmpty = false := by simpa using hnil
    have hln : 1 ≤ l.length := by cases l with | nil => exact absurd rfl hnil | cons a t => simp
    by_cases hm : 16 < l.length
    · have Hq := Lib.hid (atNum_form (areDig_long hm))
      have hm2 : 16 < (l.length : Int) := by omega
      clear hm
      go_enter Tryz.func31, Tryz.ntmps31
      go_wp2
      go_ret2
      rw [Hq.out]
      exact ⟨rfl, rfl⟩
    · have hm2 : ¬ 16 < (l.length : Int) := by omega
      have Hm := Lib.hid hm
      have Hnil := Lib.hid hnil
      clear hl hm hnil
      go_enter Tryz.func31, Tryz.ntmps31
      go_wp2
      go_loop [4, 5] (fun v i => ∃ k : Nat, k ≤ l.length ∧ i = .int .i64 k ∧ v = .int .i64 (numD 0 (l.take k)) ∧ allDig (l.take k) = true) (fun _ i => l.length - (intOf i).toNat)
      case atStart => exact ⟨0, Nat.zero_le _, rfl, rfl, rfl⟩
      case round =>
        obtain ⟨k, hk, rfl, rfl, hs⟩ := hrel
        have Hs := Lib.hid hs
        have hv := numD_bd16 (l.take k) hs (by rw [List.length_take]; have := Hm.out; omega)
        obtain ⟨hv0, hv1⟩ := hv
        clear hs
        by_cases hlt : k < l.length
        · have hb := byte_lt l[k]
          by_cases h1 : (l[k].toNat : Int) < 48
          · have Hz := Lib.hid (atNum_form (areDig_at hlt (show isDig l[k] = false by simp [isDig]; omega)))
            go_wp2
            go_ret2
            rw [Hz.out]
            exact ⟨rfl, rfl⟩
          · by_cases h2 : 57 < (l[k].toNat : Int)
            · have Hz := Lib.hid (atNum_form (areDig_at hlt (show isDig l[k] = false by simp [isDig]; omega)))
              go_wp2
              go_ret2
              rw [Hz.out]
              exact ⟨rfl, rfl⟩
            · have Hd := Lib.hid (allDig_more hlt Hs.out (isDig_mk (by omega) (by omega)))
              have Hn := Lib.hid (show numD 0 (l.take (k + 1)) = 10 * numD 0 (l.take k) + (l[k].toNat : Int) - 48 by rw [List.take_succ_eq_append_getElem hlt, numD_append]; show numD 0 (l.take k) * 10 + ((l[k].toNat : Int) - 48) = _; omega)
              generalize numD 0 (l.take k) = X at *
              go_wp2
              go_round
              case rel => exact ⟨k + 1, by omega, by go_num, by rw [Hn.out], Hd.out⟩
              case measure => simp [intOf]; omega
        · have e : l.take k = l := List.take_of_length_le (by omega)
          rw [e] at Hs hv0 hv1 ⊢
          have Hd := Lib.hid (areDig_all Hnil.out (by have := Hm.out; omega) Hs.out)
          by_cases hf : 9007199254740991 < numD 0 l
          · have Hz := Lib.hid (atNum_far Hd.out hf)
            generalize numD 0 l = X at *
            go_wp2
            go_ret2
            rw [Hz.out]
            exact ⟨rfl, rfl⟩
          · have Hz := Lib.hid (atNum_ok Hd.out hf)
            generalize numD 0 l = X at *
            go_wp2
            go_ret2
            rw [Hz.out]
            exact ⟨rfl, rfl⟩

def isKnown (k : List UInt8) : Bool := decide (k = [103, 105, 100] ∨ k = [103, 110, 97, 109, 101] ∨ k = [108, 105, 110, 107, 112, 97, 116, 104] ∨ k = [109, 116, 105, 109, 101] ∨ k = [112, 97, 116, 104] ∨ k = [115, 105, 122, 101] ∨ k = [117, 105, 100] ∨ k = [117, 110, 97, 109, 101])
set_option maxRecDepth 100000 in
theorem refKnown_any (k : List UInt8) (w : World) :
    Calls Tryz.prog 30 #[.string ⟨k.toArray⟩] w fun e w' => w = w' ∧ e = .returned (.bool (isKnown k)) := by
  by_cases e0 : k = [103, 105, 100]
  · subst e0
    have Hq := Lib.hid (show isKnown [103, 105, 100] = true by decide)
    go_enter Tryz.func30, Tryz.ntmps30
    go_wp2
    go_ret
    rw [Hq.out]
    exact ⟨rfl, rfl⟩
  by_cases e1 : k = [103, 110, 97, 109, 101]
  · subst e1
    have Hq := Lib.hid (show isKnown [103, 110, 97, 109, 101] = true by decide)
    go_enter Tryz.func30, Tryz.ntmps30
    go_wp2
    go_ret
    rw [Hq.out]
    exact ⟨rfl, rfl⟩
  by_cases e2 : k = [108, 105, 110, 107, 112, 97, 116, 104]
  · subst e2
    have Hq := Lib.hid (show isKnown [108, 105, 110, 107, 112, 97, 116, 104] = true by decide)
    go_enter Tryz.func30, Tryz.ntmps30
    go_wp2
    go_ret
    rw [Hq.out]
    exact ⟨rfl, rfl⟩
  by_cases e3 : k = [109, 116, 105, 109, 101]
  · subst e3
    have Hq := Lib.hid (show isKnown [109, 116, 105, 109, 101] = true by decide)
    go_enter Tryz.func30, Tryz.ntmps30
    go_wp2
    go_ret
    rw [Hq.out]
    exact ⟨rfl, rfl⟩
  by_cases e4 : k = [112, 97, 116, 104]
  · subst e4
    have Hq := Lib.hid (show isKnown [112, 97, 116, 104] = true by decide)
    go_enter Tryz.func30, Tryz.ntmps30
    go_wp2
    go_ret
    rw [Hq.out]
    exact ⟨rfl, rfl⟩
  by_cases e5 : k = [115, 105, 122, 101]
  · subst e5
    have Hq := Lib.hid (show isKnown [115, 105, 122, 101] = true by decide)
    go_enter Tryz.func30, Tryz.ntmps30
    go_wp2
    go_ret
    rw [Hq.out]
    exact ⟨rfl, rfl⟩
  by_cases e6 : k = [117, 105, 100]
  · subst e6
    have Hq := Lib.hid (show isKnown [117, 105, 100] = true by decide)
    go_enter Tryz.func30, Tryz.ntmps30
    go_wp2
    go_ret
    rw [Hq.out]
    exact ⟨rfl, rfl⟩
  by_cases e7 : k = [117, 110, 97, 109, 101]
  · subst e7
    have Hq := Lib.hid (show isKnown [117, 110, 97, 109, 101] = true by decide)
    go_enter Tryz.func30, Tryz.ntmps30
    go_wp2
    go_ret
    rw [Hq.out]
    exact ⟨rfl, rfl⟩
  have q0 : (k == [103, 105, 100]) = false := by simpa using e0
  have q1 : (k == [103, 110, 97, 109, 101]) = false := by simpa using e1
  have q2 : (k == [108, 105, 110, 107, 112, 97, 116, 104]) = false := by simpa using e2
  have q3 : (k == [109, 116, 105, 109, 101]) = false := by simpa using e3
  have q4 : (k == [112, 97, 116, 104]) = false := by simpa using e4
  have q5 : (k == [115, 105, 122, 101]) = false := by simpa using e5
  have q6 : (k == [117, 105, 100]) = false := by simpa using e6
  have q7 : (k == [117, 110, 97, 109, 101]) = false := by simpa using e7
  have Hq := Lib.hid (show isKnown k = false from decide_eq_false (by rintro (h | h | h | h | h | h | h | h) <;> contradiction))
  clear e0 e1 e2 e3 e4 e5 e6 e7
  go_enter Tryz.func30, Tryz.ntmps30
  go_wp2
  go_ret
  rw [Hq.out]
  exact ⟨rfl, rfl⟩

theorem refTReadA_any (l : List UInt8) (w : World) (hl : l.length ≤ 9223372036854775807) :
    Calls Tryz.prog 33 #[.string ⟨l.toArray⟩] w fun e w' => w = w' ∧ e = .returned (.string ⟨(txtRead l).toArray⟩) := by
  have hall : ∀ k, k ≤ l.length → ((l.take k ++ txtRead (l.drop k)) = txtRead l) → k < l.length → ∀ (hk : k < l.length), l[k] ≠ 0 → (l.take (k + 1) ++ txtRead (l.drop (k + 1))) = txtRead l := by
    intro k _ h _ hk hne
    rw [drop_at hk, txtRead_cons, if_neg hne] at h
    rw [← h, ← List.take_append_getElem hk, List.append_assoc]; rfl
  go_enter Tryz.func33, Tryz.ntmps33
  have Hall := Lib.hid hall
  clear hall
  go_wp2
  go_loop [3] (fun i => ∃ k : Nat, k ≤ l.length ∧ i = .int .i64 k ∧ (l.take k ++ txtRead (l.drop k)) = txtRead l) (fun i => l.length - (intOf i).toNat)
  case atStart => exact ⟨0, Nat.zero_le _, rfl, by simp⟩
  case round =>
    obtain ⟨k, hk, rfl, hs⟩ := hrel
    have Hs := Lib.hid hs
    clear hs
    by_cases hlt : k < l.length
    · by_cases h0 : (l[k].toNat : Int) = 0
      · have Hz := Lib.hid (show txtRead l = l.take k by
          rw [← Hs.out, drop_at hlt, txtRead_cons, if_pos (UInt8.toNat_inj.1 (by have : (0 : UInt8).toNat = 0 := rfl; omega)), List.append_nil])
        have e1 : ((l[k].toNat : Int) == 0) = true := by simpa using h0
        have e2 : ((l[k].toNat : Int) != 0) = false := by simpa using h0
        clear h0
        go_wp2
        go_ret
        rw [Hz.out]
        exact ⟨rfl, by simp⟩
      · have Hn := Lib.hid (Hall.out k hk Hs.out hlt hlt (fun e => h0 (by rw [e]; rfl)))
        have e1 : ((l[k].toNat : Int) == 0) = false := by simpa using h0
        have e2 : ((l[k].toNat : Int) != 0) = true := by simpa using h0
        clear h0
        go_wp2
        go_round
        case rel => exact ⟨k + 1, by omega, by go_num, Hn.out⟩
        case measure => simp [intOf]; omega
    · have Hz := Lib.hid (show txtRead l = l.take k by
        rw [← Hs.out, List.drop_of_length_le (by omega)]; simp [txtRead])
      go_wp2
      go_ret
      rw [Hz.out]
      exact ⟨rfl, by simp⟩

set_option maxRecDepth 100000 in
theorem setGid_any (cs : List Value) (x : List UInt8) (u : Int) (hv : cs[5]? = some (.int .i64 u)) (hl : x.length ≤ maxLen) (b c : Nat) (w : World) (hh : Holds w b 78 cs) (hc : Holds w c 154 [.func (.func 73) #[] #[]]) :
    Calls Tryz.prog 128 #[.pointer (some ⟨b, 0, none⟩), .string ⟨x.toArray⟩, .pointer (some ⟨c, 0, none⟩)] w fun e w' =>
      w.grownBy w' (some b) ∧ Holds w' b 78 (cs.set 5 (.int .i64 (atNum x).1)) ∧ e = .returned (.int .i64 (atNum x).2) := by
  have Hnum := Lib.hid (fun w1 => atNumber_any x w1 hl)
  have Hh := Lib.hid hh
  have Hv := Lib.hid hv
  have c0 := hc.at (i := 0) (v := .func (.func 73) #[] #[]) rfl
  clear hh hv hc hl
  generalize atNum x = R at *
  obtain ⟨r, q⟩ := R
  go_enter Tryz.func128, Tryz.ntmps128
  go_wp2_with (fail)
  refine (Hnum.out _).mono ?_
  rintro e w0 ⟨rfl, rfl⟩
  go_wp2_with (fail)
  refine (known1_any b w).mono ?_
  rintro e w1 ⟨⟨m, rfl⟩, rfl⟩
  have Hh1 := Lib.hid (Hh.out.drewN m)
  have G1 := Lib.hid (grown_drewN w m (some b))
  generalize w.drewN m = w1 at *
  have k1 := Hh1.out.at Hv.out
  have f1 := Hh1.out.frozen 5
  clear c0
  go_wp2
  go_ret
  exact ⟨grown_trans G1.out (grown_setCell w1 ⟨b, 5, none⟩ _), Hh1.out.put 5 _, rfl⟩

set_option maxRecDepth 100000 in
theorem setSize_any (cs : List Value) (x : List UInt8) (u : Int) (hv : cs[14]? = some (.int .i64 u)) (hl : x.length ≤ maxLen) (b c : Nat) (w : World) (hh : Holds w b 78 cs) (hc : Holds w c 154 [.func (.func 79) #[] #[]]) :
    Calls Tryz.prog 128 #[.pointer (some ⟨b, 0, none⟩), .string ⟨x.toArray⟩, .pointer (some ⟨c, 0, none⟩)] w fun e w' =>
      w.grownBy w' (some b) ∧ Holds w' b 78 (cs.set 14 (.int .i64 (atNum x).1)) ∧ e = .returned (.int .i64 (atNum x).2) := by
  have Hnum := Lib.hid (fun w1 => atNumber_any x w1 hl)
  have Hh := Lib.hid hh
  have Hv := Lib.hid hv
  have c0 := hc.at (i := 0) (v := .func (.func 79) #[] #[]) rfl
  clear hh hv hc hl
  generalize atNum x = R at *
  obtain ⟨r, q⟩ := R
  go_enter Tryz.func128, Tryz.ntmps128
  go_wp2_with (fail)
  refine (Hnum.out _).mono ?_
  rintro e w0 ⟨rfl, rfl⟩
  go_wp2_with (fail)
  refine (known5_any b w).mono ?_
  rintro e w1 ⟨⟨m, rfl⟩, rfl⟩
  have Hh1 := Lib.hid (Hh.out.drewN m)
  have G1 := Lib.hid (grown_drewN w m (some b))
  generalize w.drewN m = w1 at *
  have k1 := Hh1.out.at Hv.out
  have f1 := Hh1.out.frozen 14
  clear c0
  go_wp2
  go_ret
  exact ⟨grown_trans G1.out (grown_setCell w1 ⟨b, 14, none⟩ _), Hh1.out.put 14 _, rfl⟩

set_option maxRecDepth 100000 in
theorem setUid_any (cs : List Value) (x : List UInt8) (u : Int) (hv : cs[4]? = some (.int .i64 u)) (hl : x.length ≤ maxLen) (b c : Nat) (w : World) (hh : Holds w b 78 cs) (hc : Holds w c 154 [.func (.func 80) #[] #[]]) :
    Calls Tryz.prog 128 #[.pointer (some ⟨b, 0, none⟩), .string ⟨x.toArray⟩, .pointer (some ⟨c, 0, none⟩)] w fun e w' =>
      w.grownBy w' (some b) ∧ Holds w' b 78 (cs.set 4 (.int .i64 (atNum x).1)) ∧ e = .returned (.int .i64 (atNum x).2) := by
  have Hnum := Lib.hid (fun w1 => atNumber_any x w1 hl)
  have Hh := Lib.hid hh
  have Hv := Lib.hid hv
  have c0 := hc.at (i := 0) (v := .func (.func 80) #[] #[]) rfl
  clear hh hv hc hl
  generalize atNum x = R at *
  obtain ⟨r, q⟩ := R
  go_enter Tryz.func128, Tryz.ntmps128
  go_wp2_with (fail)
  refine (Hnum.out _).mono ?_
  rintro e w0 ⟨rfl, rfl⟩
  go_wp2_with (fail)
  refine (known6_any b w).mono ?_
  rintro e w1 ⟨⟨m, rfl⟩, rfl⟩
  have Hh1 := Lib.hid (Hh.out.drewN m)
  have G1 := Lib.hid (grown_drewN w m (some b))
  generalize w.drewN m = w1 at *
  have k1 := Hh1.out.at Hv.out
  have f1 := Hh1.out.frozen 4
  clear c0
  go_wp2
  go_ret
  exact ⟨grown_trans G1.out (grown_setCell w1 ⟨b, 4, none⟩ _), Hh1.out.put 4 _, rfl⟩

set_option maxRecDepth 100000 in
theorem setGname_any (cs : List Value) (x u : List UInt8) (hv : cs[7]? = some (.string ⟨u.toArray⟩)) (b c : Nat) (w : World) (hh : Holds w b 78 cs) (hc : Holds w c 156 [.func (.func 75) #[] #[]]) :
    Calls Tryz.prog 134 #[.pointer (some ⟨b, 0, none⟩), .string ⟨x.toArray⟩, .pointer (some ⟨c, 0, none⟩)] w fun e w' =>
      w.grownBy w' (some b) ∧ Holds w' b 78 (if 0 ∈ x then cs else cs.set 7 (.string ⟨x.toArray⟩)) ∧ e = .returned (.int .i64 (if 0 ∈ x then 2 else 0)) := by
  have Hc := Lib.hid (fun w => contains_nul x w)
  have Hh := Lib.hid hh
  have Hv := Lib.hid hv
  have c0 := hc.at (i := 0) (v := .func (.func 75) #[] #[]) rfl
  clear hh hv hc
  by_cases h0 : 0 ∈ x
  · rw [decide_eq_true h0] at Hc
    rw [if_pos h0, if_pos h0]
    clear h0
    go_enter Tryz.func134, Tryz.ntmps134
    go_wp2_with (fail)
    refine (Hc.out _).mono ?_
    rintro e w0 ⟨rfl, rfl⟩
    go_wp2
    go_ret
    exact ⟨grown_below (Below.refl _ _) _, Hh.out, rfl⟩
  · rw [decide_eq_false h0] at Hc
    rw [if_neg h0, if_neg h0]
    clear h0
    go_enter Tryz.func134, Tryz.ntmps134
    go_wp2_with (fail)
    refine (Hc.out _).mono ?_
    rintro e w0 ⟨rfl, rfl⟩
    go_wp2_with (fail)
    refine (known2_any b w).mono ?_
    rintro e w1 ⟨⟨m, rfl⟩, rfl⟩
    have Hh1 := Lib.hid (Hh.out.drewN m)
    have G1 := Lib.hid (grown_drewN w m (some b))
    generalize w.drewN m = w1 at *
    have k1 := Hh1.out.at Hv.out
    have f1 := Hh1.out.frozen 7
    clear c0
    go_wp2
    go_ret
    exact ⟨grown_trans G1.out (grown_setCell w1 ⟨b, 7, none⟩ _), Hh1.out.put 7 _, rfl⟩

set_option maxRecDepth 100000 in
theorem setLink_any (cs : List Value) (x u : List UInt8) (hv : cs[1]? = some (.string ⟨u.toArray⟩)) (b c : Nat) (w : World) (hh : Holds w b 78 cs) (hc : Holds w c 156 [.func (.func 76) #[] #[]]) :
    Calls Tryz.prog 134 #[.pointer (some ⟨b, 0, none⟩), .string ⟨x.toArray⟩, .pointer (some ⟨c, 0, none⟩)] w fun e w' =>
      w.grownBy w' (some b) ∧ Holds w' b 78 (if 0 ∈ x then cs else cs.set 1 (.string ⟨x.toArray⟩)) ∧ e = .returned (.int .i64 (if 0 ∈ x then 2 else 0)) := by
  have Hc := Lib.hid (fun w => contains_nul x w)
  have Hh := Lib.hid hh
  have Hv := Lib.hid hv
  have c0 := hc.at (i := 0) (v := .func (.func 76) #[] #[]) rfl
  clear hh hv hc
  by_cases h0 : 0 ∈ x
  · rw [decide_eq_true h0] at Hc
    rw [if_pos h0, if_pos h0]
    clear h0
    go_enter Tryz.func134, Tryz.ntmps134
    go_wp2_with (fail)
    refine (Hc.out _).mono ?_
    rintro e w0 ⟨rfl, rfl⟩
    go_wp2
    go_ret
    exact ⟨grown_below (Below.refl _ _) _, Hh.out, rfl⟩
  · rw [decide_eq_false h0] at Hc
    rw [if_neg h0, if_neg h0]
    clear h0
    go_enter Tryz.func134, Tryz.ntmps134
    go_wp2_with (fail)
    refine (Hc.out _).mono ?_
    rintro e w0 ⟨rfl, rfl⟩
    go_wp2_with (fail)
    refine (known3_any b w).mono ?_
    rintro e w1 ⟨⟨m, rfl⟩, rfl⟩
    have Hh1 := Lib.hid (Hh.out.drewN m)
    have G1 := Lib.hid (grown_drewN w m (some b))
    generalize w.drewN m = w1 at *
    have k1 := Hh1.out.at Hv.out
    have f1 := Hh1.out.frozen 1
    clear c0
    go_wp2
    go_ret
    exact ⟨grown_trans G1.out (grown_setCell w1 ⟨b, 1, none⟩ _), Hh1.out.put 1 _, rfl⟩

set_option maxRecDepth 100000 in
theorem setPath_any (cs : List Value) (x u : List UInt8) (hv : cs[0]? = some (.string ⟨u.toArray⟩)) (b c : Nat) (w : World) (hh : Holds w b 78 cs) (hc : Holds w c 156 [.func (.func 78) #[] #[]]) :
    Calls Tryz.prog 134 #[.pointer (some ⟨b, 0, none⟩), .string ⟨x.toArray⟩, .pointer (some ⟨c, 0, none⟩)] w fun e w' =>
      w.grownBy w' (some b) ∧ Holds w' b 78 (if 0 ∈ x then cs else cs.set 0 (.string ⟨x.toArray⟩)) ∧ e = .returned (.int .i64 (if 0 ∈ x then 2 else 0)) := by
  have Hc := Lib.hid (fun w => contains_nul x w)
  have Hh := Lib.hid hh
  have Hv := Lib.hid hv
  have c0 := hc.at (i := 0) (v := .func (.func 78) #[] #[]) rfl
  clear hh hv hc
  by_cases h0 : 0 ∈ x
  · rw [decide_eq_true h0] at Hc
    rw [if_pos h0, if_pos h0]
    clear h0
    go_enter Tryz.func134, Tryz.ntmps134
    go_wp2_with (fail)
    refine (Hc.out _).mono ?_
    rintro e w0 ⟨rfl, rfl⟩
    go_wp2
    go_ret
    exact ⟨grown_below (Below.refl _ _) _, Hh.out, rfl⟩
  · rw [decide_eq_false h0] at Hc
    rw [if_neg h0, if_neg h0]
    clear h0
    go_enter Tryz.func134, Tryz.ntmps134
    go_wp2_with (fail)
    refine (Hc.out _).mono ?_
    rintro e w0 ⟨rfl, rfl⟩
    go_wp2_with (fail)
    refine (known4_any b w).mono ?_
    rintro e w1 ⟨⟨m, rfl⟩, rfl⟩
    have Hh1 := Lib.hid (Hh.out.drewN m)
    have G1 := Lib.hid (grown_drewN w m (some b))
    generalize w.drewN m = w1 at *
    have k1 := Hh1.out.at Hv.out
    have f1 := Hh1.out.frozen 0
    clear c0
    go_wp2
    go_ret
    exact ⟨grown_trans G1.out (grown_setCell w1 ⟨b, 0, none⟩ _), Hh1.out.put 0 _, rfl⟩

set_option maxRecDepth 100000 in
theorem setUname_any (cs : List Value) (x u : List UInt8) (hv : cs[6]? = some (.string ⟨u.toArray⟩)) (b c : Nat) (w : World) (hh : Holds w b 78 cs) (hc : Holds w c 156 [.func (.func 81) #[] #[]]) :
    Calls Tryz.prog 134 #[.pointer (some ⟨b, 0, none⟩), .string ⟨x.toArray⟩, .pointer (some ⟨c, 0, none⟩)] w fun e w' =>
      w.grownBy w' (some b) ∧ Holds w' b 78 (if 0 ∈ x then cs else cs.set 6 (.string ⟨x.toArray⟩)) ∧ e = .returned (.int .i64 (if 0 ∈ x then 2 else 0)) := by
  have Hc := Lib.hid (fun w => contains_nul x w)
  have Hh := Lib.hid hh
  have Hv := Lib.hid hv
  have c0 := hc.at (i := 0) (v := .func (.func 81) #[] #[]) rfl
  clear hh hv hc
  by_cases h0 : 0 ∈ x
  · rw [decide_eq_true h0] at Hc
    rw [if_pos h0, if_pos h0]
    clear h0
    go_enter Tryz.func134, Tryz.ntmps134
    go_wp2_with (fail)
    refine (Hc.out _).mono ?_
    rintro e w0 ⟨rfl, rfl⟩
    go_wp2
    go_ret
    exact ⟨grown_below (Below.refl _ _) _, Hh.out, rfl⟩
  · rw [decide_eq_false h0] at Hc
    rw [if_neg h0, if_neg h0]
    clear h0
    go_enter Tryz.func134, Tryz.ntmps134
    go_wp2_with (fail)
    refine (Hc.out _).mono ?_
    rintro e w0 ⟨rfl, rfl⟩
    go_wp2_with (fail)
    refine (known7_any b w).mono ?_
    rintro e w1 ⟨⟨m, rfl⟩, rfl⟩
    have Hh1 := Lib.hid (Hh.out.drewN m)
    have G1 := Lib.hid (grown_drewN w m (some b))
    generalize w.drewN m = w1 at *
    have k1 := Hh1.out.at Hv.out
    have f1 := Hh1.out.frozen 6
    clear c0
    go_wp2
    go_ret
    exact ⟨grown_trans G1.out (grown_setCell w1 ⟨b, 6, none⟩ _), Hh1.out.put 6 _, rfl⟩

set_option maxRecDepth 100000 in
set_option maxHeartbeats 1000000 in
theorem setTime_any (cs : List Value) (x : List UInt8) (s n : Int) (hs : cs[10]? = some (.int .i64 s)) (hn : cs[11]? = some (.int .i64 n)) (hl : x.length ≤ maxLen) (b : Nat) (w : World) (hh : Holds w b 78 cs) :
    Calls Tryz.prog 139 #[.pointer (some ⟨b, 0, none⟩), .string ⟨x.toArray⟩] w fun e w' =>
      w.grownBy w' (some b) ∧ Holds w' b 78 ((cs.set 10 (.int .i64 (stParse x).1.1)).set 11 (.int .i64 (stParse x).1.2)) ∧ e = .returned (.int .i64 (stParse x).2) := by
  have Hp := Lib.hid (stParse_any x w hl)
  have Hh := Lib.hid hh
  have Hs := Lib.hid hs
  have Hn := Lib.hid hn
  clear hh hs hn hl
  generalize stParse x = R at *
  obtain ⟨⟨r, q⟩, f⟩ := R
  go_enter Tryz.func139, Tryz.ntmps139
  go_wp2_with (fail)
  refine Hp.out.mono ?_
  rintro e w1 ⟨hb, rfl⟩
  have Hh1 := Lib.hid (Hh.out.under hb Hh.out.lt)
  have Hb := Lib.hid hb
  have Hh2 := Lib.hid (Hh1.out.behind (.cells #[.int .i64 r, .int .i64 q] 32))
  have Hb2 := Lib.hid (hb.alloc hb.size (.cells #[.int .i64 r, .int .i64 q] 32))
  have k1 := Hh2.out.at Hs.out
  have k2 := Hh2.out.at Hn.out
  have f1 := Hh2.out.frozen 10
  have f2 := Hh2.out.frozen 11
  have k3 := (Hh2.out.put 10 (.int .i64 r)).at (i := 11) (v := .int .i64 n) (by rw [List.getElem?_set_ne (by decide)]; exact Hn.out)
  have f3 := (Hh2.out.put 10 (.int .i64 r)).frozen 11
  clear hb
  go_wp2
  go_ret
  exact ⟨grown_trans (grown_trans (grown_below Hb2.out _) (grown_setCell _ ⟨b, 10, none⟩ _)) (grown_setCell _ ⟨b, 11, none⟩ _), (Hh2.out.put 10 _).put 11 _, rfl⟩
end Go.Proofs.YtjmmecokfijglaaGreatDoor
