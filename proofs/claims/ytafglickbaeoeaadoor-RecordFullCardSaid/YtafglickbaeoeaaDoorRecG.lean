/-
  Contract of the document's own Parse of records.
-/
import Derived.Test.YtafglickbaeoeaaDoorRecF
import Derived.Deep.AppendLies
import Derived.Deep.RegionLaw
namespace Go.Proofs.YtafglickbaeoeaaDoor
open Go.ChangeShapes Go.WideShapes Go.ChangeAt Go.RowKit

/-- What the document's loop over digits has told. -/
theorem numD_take (t : List UInt8) (j : Nat) (h : j < t.length) : numD 0 (t.take (j + 1)) = numD 0 (t.take j) * 10 + ((t[j].toNat : Int) - 48) := by
  rw [List.take_succ_eq_append_getElem h, numD_append]; rfl
theorem headDig_more {t : List UInt8} {j : Nat} (hj : j < t.length) (h : j ≤ (headDig t).length) : (48 ≤ (t[j].toNat : Int) ∧ (t[j].toNat : Int) ≤ 57) ↔ j < (headDig t).length := by
  have hg := headDig_get t j hj h
  constructor
  · intro ⟨h1, h2⟩
    rw [isDig_mk h1 h2] at hg
    exact of_decide_eq_true hg.symm
  · intro h2
    rw [decide_eq_true h2] at hg
    exact isDig_true hg

theorem at_drop {s : List UInt8} {a c : Nat} (hac : a ≤ c) (hc : c < s.length) : (s.drop a)[c - a]'(by rw [List.length_drop]; omega) = s[c] := by
  rw [List.getElem_drop]; congr 1; omega
theorem dig_at {s : List UInt8} {a c : Nat} (hac : a ≤ c) (hc : c < s.length) (h : c - a ≤ (headDig (s.drop a)).length) : (48 ≤ (s[c].toNat : Int) ∧ (s[c].toNat : Int) ≤ 57) ↔ c - a < (headDig (s.drop a)).length := by
  have := headDig_more (t := s.drop a) (j := c - a) (by rw [List.length_drop]; omega) h
  rw [at_drop hac hc] at this
  exact this
theorem num_at {s : List UInt8} {a c : Nat} (hac : a ≤ c) (hc : c < s.length) : numD 0 ((s.drop a).take (c + 1 - a)) = numD 0 ((s.drop a).take (c - a)) * 10 + ((s[c].toNat : Int) - 48) := by
  have := numD_take (s.drop a) (c - a) (by rw [List.length_drop]; omega)
  rw [at_drop hac hc] at this
  rw [show c + 1 - a = c - a + 1 by omega]
  exact this
theorem num_small {t : List UInt8} {j : Nat} (h : j ≤ (headDig t).length) (h7 : j ≤ 7) : 0 ≤ numD 0 (t.take j) ∧ numD 0 (t.take j) ≤ 9999999999999999 := by
  refine numD_bd16 _ ?_ (by rw [List.length_take]; omega)
  have : t.take j = (headDig t).take j := by rw [← headDig_take t, List.take_take, Nat.min_eq_left h]
  rw [this]
  exact allDig_take _ _ (headDig_dig t)
/-- How the document's Parse finds that no record begins there. -/
theorem not_led {s : List UInt8} {a m : Nat} (hm : m = min (headDig (s.drop a)).length 7) (ha : a < s.length)
    (h : m = 0 ∨ m = 7 ∨ s[a] = 48 ∨ a + m = s.length ∨ ∃ h : a + m < s.length, s[a + m] ≠ 32) : rFirst (s.drop a) = .bad 2 := by
  refine if_pos ?_
  by_cases hl : rLed (s.drop a) = true
  · exfalso
    obtain ⟨l1, l2, l3, l4⟩ := rLed_true hl
    have hmm : m = (headDig (s.drop a)).length := by omega
    rw [← hmm] at l4
    rcases h with h | h | h | h | ⟨h, h2⟩
    · omega
    · omega
    · apply l3
      rw [List.getElem?_drop, Nat.add_zero, List.getElem?_eq_getElem ha, h]
    · rw [List.getElem?_drop, h, List.getElem?_eq_none (Nat.le_refl _)] at l4; cases l4
    · rw [List.getElem?_drop, List.getElem?_eq_getElem h] at l4
      injection l4 with l4
      exact h2 l4
  · simpa using hl
theorem is_led {s : List UInt8} {a m : Nat} (hm : m = min (headDig (s.drop a)).length 7) (ha : a < s.length) (h1 : m ≠ 0) (h2 : m ≠ 7) (h3 : s[a] ≠ 48) (h4 : a + m < s.length) (h5 : s[a + m] = 32) :
    rLed (s.drop a) = true ∧ m = (headDig (s.drop a)).length ∧ numD 0 ((s.drop a).take m) = rNum (s.drop a) := by
  have hmm : m = (headDig (s.drop a)).length := by omega
  have hl : rLed (s.drop a) = true := decide_eq_true ⟨by omega, by omega, by rw [List.getElem?_drop, Nat.add_zero, List.getElem?_eq_getElem ha]; simpa using h3, by rw [← hmm, List.getElem?_drop, List.getElem?_eq_getElem h4, h5]⟩
  refine ⟨hl, hmm, ?_⟩
  rw [hmm, headDig_take]
  exact (rLed_num hl).2.2.1
theorem body_at {s B : List UInt8} {c e k : Nat} (hB : B = (s.drop (c + 1)).take (e - (c + 1))) (h1 : c + 1 ≤ k) (h2 : k < e) (he : e < s.length) (hA : k - (c + 1) ≤ (aheadC 61 B).length) : s[k] = 61 ↔ k - (c + 1) = (aheadC 61 B).length := by
  have hl : k - (c + 1) < B.length := by rw [hB, List.length_take, List.length_drop]; omega
  have hg := aheadC_get 61 B (k - (c + 1)) hl hA
  have e1 : B[k - (c + 1)] = s[k] := by
    have h3 : B[k - (c + 1)]? = s[k]? := by
      conv => lhs; rw [hB]
      rw [List.getElem?_take_of_lt (by omega), List.getElem?_drop]; congr 1; omega
    rw [List.getElem?_eq_getElem hl, List.getElem?_eq_getElem (by omega)] at h3
    injection h3
  rw [e1] at hg
  exact hg
theorem drop_ne {s : List UInt8} {a : Nat} (ha : a < s.length) : s.drop a ≠ [] := fun e => by
  have := congrArg List.length e
  rw [List.length_drop] at this
  simp at this
  omega
theorem OwnP.empty {w : World} : OwnP (w.alloc (.cells #[] 25)) w.heap.size (.slice (some ⟨w.heap.size, 0, none⟩) 0 0) [] :=
  ⟨rfl, .inr ⟨w.heap.size, 0, #[], rfl, Nat.le_refl _, heap_alloc_new w _, Nat.le_refl _, by unfold maxLen; omega, rfl, rfl⟩⟩

set_option maxRecDepth 100000 in
set_option maxHeartbeats 4000000 in
theorem refRecParse_any (s : List UInt8) (w : World) (hs : s.length ≤ 140737488355328) :
    Calls Tryd.prog 16 #[.string ⟨s.toArray⟩] w fun e w' => Below w.heap.size w w' ∧ ∃ v, e = .returned (.tuple #[v, .int .i64 (rParse s).2]) ∧ PairsIn w' v (rParse s).1 := by
  by_cases hbig : 65536 < s.length
  · have Hq := Lib.hid (show rParse s = ([], 12) from if_pos hbig)
    have h1 : (65536 : Int) < s.length := by omega
    clear hbig
    go_enter Tryd.func16, Tryd.ntmps16
    go_wp2
    go_ret2
    rw [Hq.out]
    exact ⟨Below.refl _ _, _, rfl, PairsIn.nil _⟩
  · have h1 : ¬ (65536 : Int) < s.length := by omega
    have HR := Lib.hid (show rGo 256 [] s = rParse s from (if_neg hbig).symm)
    generalize rParse s = R at *
    clear hbig
    obtain ⟨i0, hi, hz0, hz1, hz2⟩ := info_parts zero_pair
    go_enter Tryd.func16, Tryd.ntmps16
    go_wp2
    go_loopw [4, 5] (fun o at_ wr => ∃ (acc : List Pr) (a : Nat) (ad : Option Addr) (cap : Nat), o = .slice ad acc.length cap ∧ at_ = .int .i64 a ∧ a ≤ s.length ∧ rGo (256 - acc.length) acc (s.drop a) = R ∧ acc.length ≤ 256 ∧ OwnP wr w.heap.size (.slice ad acc.length cap) acc ∧ Below w.heap.size w wr) (fun _ at_ _ => s.length - (intOf at_).toNat)
    case atStart => exact ⟨[], 0, _, _, rfl, rfl, Nat.zero_le _, HR.out, by simp, OwnP.empty, (Below.refl _ _).alloc (Nat.le_refl _) _⟩
    case round =>
      obtain ⟨acc, a, ad, cap, rfl, rfl, ha, hgo, hacc, hown, hb⟩ := hrel
      have Hgo := Lib.hid hgo
      have Hown := Lib.hid hown
      have Hb := Lib.hid hb
      clear hgo hown hb
      by_cases hend : a = s.length
      · subst hend
        have Hq := Lib.hid (show R = (acc, 0) by rw [← Hgo.out, List.drop_length, rGo_nil])
        go_wp2
        go_ret2
        rw [Hq.out]
        exact ⟨Hb.out, _, rfl, Hown.out.pairs⟩
      · have halt : a < s.length := by omega
        have hlt : (a : Int) < s.length := by omega
        have htn := drop_ne halt
        by_cases hfull : acc.length = 256
        · have Hq := Lib.hid (show R = ([], 8) by rw [← Hgo.out, hfull, Nat.sub_self, rGo_full _ _ htn])
          rw [hfull]
          go_wp2
          go_ret2
          rw [Hq.out]
          exact ⟨Hb.out, _, rfl, PairsIn.nil _⟩
        · have hnf : ((acc.length : Int) == 256) = false := by rw [beq_eq_false_iff_ne]; omega
          obtain ⟨f, hf⟩ : ∃ f, 256 - acc.length = f + 1 := ⟨255 - acc.length, by omega⟩
          rw [hf] at Hgo
          have Hbad := Lib.hid (fun e (h : rFirst (s.drop a) = .bad e) => show R = ([], e) from Hgo.out.symm.trans (rGo_bad _ _ _ htn h))
          have Hok := Lib.hid (fun p n (h : rFirst (s.drop a) = .ok p n) => show rGo f (acc ++ [p]) ((s.drop a).drop n) = R from (rGo_ok _ _ _ htn h).symm.trans Hgo.out)
          clear htn hend hfull Hgo
          obtain ⟨m, hm⟩ : ∃ m, m = min (headDig (s.drop a)).length 7 := ⟨_, rfl⟩
          have Hm := Lib.hid hm
          have hm7 : m ≤ 7 := by omega
          have hml : a + m ≤ s.length := by have := headDig_le (s.drop a); rw [List.length_drop] at this; omega
          clear hm
          go_upto_block 2 with (fail)
          go_cut [6, 7] (fun i v wx => (i = .int .i64 ((a + m : Nat) : Int) ∧ v = .int .i64 (numD 0 ((s.drop a).take m))) ∧ wx = wr)
          case first =>
            go_wp2_with (fail)
            go_loop [6, 7] (fun i v => ∃ c : Nat, a ≤ c ∧ c ≤ s.length ∧ c - a ≤ (headDig (s.drop a)).length ∧ c - a ≤ 7 ∧ i = .int .i64 c ∧ v = .int .i64 (numD 0 ((s.drop a).take (c - a)))) (fun i _ => s.length - (intOf i).toNat)
            case atStart => exact ⟨a, Nat.le_refl _, by omega, by omega, by omega, rfl, by simp [numD]⟩
            case round =>
              obtain ⟨c, hac, hcl, hch, hc7, rfl, rfl⟩ := hrel
              have hnum := num_small hch hc7
              obtain ⟨hn0, hn1⟩ := hnum
              have Hch := Lib.hid hch
              clear hch
              by_cases hce : c = s.length
              · have Hmeet := Lib.hid (show c = a + m by have := Hm.out; have := Hch.out; have := headDig_le (s.drop a); rw [List.length_drop] at this; omega)
                have hcm : c - a = m := by have := Hmeet.out; omega
                rw [hcm] at hn0 hn1 ⊢
                generalize numD 0 ((s.drop a).take m) = N at *
                have hce2 : ¬ (c : Int) < s.length := by omega
                clear hce
                go_wp2
                go_meet
                case rel => exact ⟨⟨by rw [← Hmeet.out], rfl⟩, rfl⟩
              · have hclt : c < s.length := by omega
                have hclt2 : (c : Int) < s.length := by omega
                by_cases hc6 : c - a = 7
                · have Hmeet := Lib.hid (show c = a + m by have := Hm.out; have := Hch.out; omega)
                  have hcm : c - a = m := by have := Hmeet.out; omega
                  have hca7 : (c : Int) = a + 7 := by omega
                  have hca : ¬ (c : Int) < a + 7 := by omega
                  rw [hcm] at hn0 hn1 ⊢
                  generalize numD 0 ((s.drop a).take m) = N at *
                  clear hce hca7
                  go_wp2
                  go_meet
                  case rel => exact ⟨⟨by rw [← Hmeet.out], rfl⟩, rfl⟩
                · have hca : (c : Int) < a + 7 := by omega
                  have hd := dig_at hac hclt Hch.out
                  have hby := byte_lt s[c]
                  by_cases hdg : c - a < (headDig (s.drop a)).length
                  · obtain ⟨g1, g2⟩ := hd.2 hdg
                    have Hst := Lib.hid (num_at hac hclt)
                    have Hdg := Lib.hid (show c + 1 - a ≤ (headDig (s.drop a)).length by omega)
                    generalize numD 0 ((s.drop a).take (c - a)) = N at *
                    clear hd hdg hce
                    go_wp2
                    go_round
                    case rel => exact ⟨c + 1, by omega, by omega, Hdg.out, by omega, by go_num, by rw [Hst.out]; congr 1; omega⟩
                    case measure => simp [intOf]; omega
                  · have Hmeet := Lib.hid (show c = a + m by have := Hm.out; have := Hch.out; omega)
                    have hcm : c - a = m := by have := Hmeet.out; omega
                    have hnd : ¬ (48 ≤ (s[c].toNat : Int) ∧ (s[c].toNat : Int) ≤ 57) := fun h => hdg (hd.1 h)
                    rw [hcm] at hn0 hn1 ⊢
                    generalize numD 0 ((s.drop a).take m) = N at *
                    clear hd hdg hce
                    by_cases h48 : (48 : Int) ≤ s[c].toNat
                    · have h57 : ¬ (s[c].toNat : Int) ≤ 57 := fun h => hnd ⟨h48, h⟩
                      clear hnd
                      go_wp2
                      go_meet
                      case rel => exact ⟨⟨by rw [← Hmeet.out], rfl⟩, rfl⟩
                    · clear hnd
                      go_wp2
                      go_meet
                      case rel => exact ⟨⟨by rw [← Hmeet.out], rfl⟩, rfl⟩
          case rest =>
            obtain ⟨⟨rfl, rfl⟩, rfl⟩ := hcut
            have hnum := num_small (t := s.drop a) (j := m) (by have := Hm.out; omega) hm7
            obtain ⟨hn0, hn1⟩ := hnum
            have Hno := Lib.hid (fun h => Hbad.out 2 (not_led Hm.out halt h))
            have Hyes := Lib.hid (fun h1 h2 h3 h4 h5 => is_led Hm.out halt h1 h2 h3 h4 h5)
            have Hc := Lib.hid (show a + m = a + m from rfl)
            by_cases h0 : m = 0
            · have Hq := Lib.hid (Hno.out (.inl h0))
              have e1 : (((a + m : Nat) : Int) == a) = true := by rw [beq_iff_eq]; omega
              generalize numD 0 ((s.drop a).take m) = N at *
              generalize a + m = c at *
              clear h0
              go_wp2
              go_ret2
              rw [Hq.out]
              exact ⟨Hb.out, _, rfl, PairsIn.nil _⟩
            · have e1 : (((a + m : Nat) : Int) == a) = false := by rw [beq_eq_false_iff_ne]; omega
              by_cases h7 : m = 7
              · have Hq := Lib.hid (Hno.out (.inr (.inl h7)))
                have e2 : (a : Int) + 6 < ((a + m : Nat) : Int) := by omega
                generalize numD 0 ((s.drop a).take m) = N at *
                generalize a + m = c at *
                clear h0 h7
                go_wp2
                go_ret2
                rw [Hq.out]
                exact ⟨Hb.out, _, rfl, PairsIn.nil _⟩
              · have e2 : ¬ (a : Int) + 6 < ((a + m : Nat) : Int) := by omega
                have hba := byte_lt s[a]
                by_cases h48 : s[a] = 48
                · have Hq := Lib.hid (Hno.out (.inr (.inr (.inl h48))))
                  have e3 : ((s[a].toNat : Int) == 48) = true := by rw [h48]; rfl
                  generalize numD 0 ((s.drop a).take m) = N at *
                  generalize a + m = c at *
                  clear h0 h7 h48
                  go_wp2
                  go_ret2
                  rw [Hq.out]
                  exact ⟨Hb.out, _, rfl, PairsIn.nil _⟩
                · have e3 : ((s[a].toNat : Int) == 48) = false := by
                    rw [beq_eq_false_iff_ne]
                    intro e
                    exact h48 (UInt8.toNat_inj.1 (by have : (48 : UInt8).toNat = 48 := rfl; omega))
                  by_cases hce : a + m = s.length
                  · have Hq := Lib.hid (Hno.out (.inr (.inr (.inr (.inl hce)))))
                    have e4 : (((a + m : Nat) : Int) == s.length) = true := by rw [beq_iff_eq]; omega
                    generalize numD 0 ((s.drop a).take m) = N at *
                    generalize a + m = c at *
                    clear h0 h7 h48 hce
                    go_wp2
                    go_ret2
                    rw [Hq.out]
                    exact ⟨Hb.out, _, rfl, PairsIn.nil _⟩
                  · have e4 : (((a + m : Nat) : Int) == s.length) = false := by rw [beq_eq_false_iff_ne]; omega
                    have hclt : a + m < s.length := by omega
                    have hcl2 : ((a + m : Nat) : Int) < s.length := by omega
                    have hbc := byte_lt s[a + m]
                    by_cases h32 : s[a + m] = 32
                    · have e5 : ((s[a + m].toNat : Int) != 32) = false := by rw [h32]; rfl
                      obtain ⟨l1, l2, l3⟩ := Hyes.out h0 h7 h48 hclt h32
                      obtain ⟨n1, n2, n3, n4⟩ := rLed_num l1
                      have Hl2 := Lib.hid l2
                      have Hend := Lib.hid (fun he => led_end l1 he)
                      have Hq0 := Lib.hid (show rFirst (s.drop a) = if (s.drop a).length < rNum (s.drop a) then .bad 3 else if rNum (s.drop a) ≤ m + 1 ∨ (s.drop a)[rNum (s.drop a) - 1]? ≠ some 10 then .bad 2 else rBody (rIn (s.drop a)) (rNum (s.drop a)) by
                        unfold rFirst; rw [l1, if_neg (by simp), ← l2])
                      have Hin := Lib.hid (show rIn (s.drop a) = ((s.drop a).drop (m + 1)).take (rNum (s.drop a) - 1 - (m + 1)) by unfold rIn; rw [← l2])
                      rw [l3] at hn0 hn1 ⊢
                      generalize rNum (s.drop a) = n at *
                      generalize hc : a + m = c at *
                      have Hc := Lib.hid hc
                      clear h0 h7 h48 hce h32 l1 l2 l3 n2 n3 Hno Hyes hc
                      by_cases hbig : s.length - a < n
                      · have Hq := Lib.hid (Hbad.out 3 (by rw [Hq0.out, if_pos (by rw [List.length_drop]; exact hbig)]))
                        have e6 : (s.length : Int) - a < n := by omega
                        clear hbig
                        go_wp2
                        go_ret2
                        rw [Hq.out]
                        exact ⟨Hb.out, _, rfl, PairsIn.nil _⟩
                      · have e6 : ¬ (s.length : Int) - a < n := by omega
                        have Hq1 := Lib.hid (show rFirst (s.drop a) = if n ≤ m + 1 ∨ (s.drop a)[n - 1]? ≠ some 10 then .bad 2 else rBody (rIn (s.drop a)) n by rw [Hq0.out, if_neg (by rw [List.length_drop]; exact hbig)])
                        obtain ⟨e, he⟩ : ∃ e, e = a + n - 1 := ⟨_, rfl⟩
                        have hel : e < s.length := by omega
                        have hel2 : (e : Int) < s.length := by omega
                        have hee : (a : Int) + n - 1 = e := by omega
                        have Hge := Lib.hid (show (s.drop a)[n - 1]? = some s[e] by rw [List.getElem?_drop, show a + (n - 1) = e by omega, List.getElem?_eq_getElem hel])
                        have He := Lib.hid he
                        clear hbig Hq0 he
                        have hbe := byte_lt s[e]
                        by_cases hle : e ≤ c
                        · have Hq := Lib.hid (Hbad.out 2 (by have := Hc.out; have := He.out; rw [Hq1.out, if_pos (.inl (by omega))]))
                          have e7 : (e : Int) ≤ c := by omega
                          go_wp2
                          go_ret2
                          rw [Hq.out]
                          exact ⟨Hb.out, _, rfl, PairsIn.nil _⟩
                        · have e7 : ¬ (e : Int) ≤ c := by omega
                          by_cases h10 : s[e] = 10
                          · have e8 : ((s[e].toNat : Int) != 10) = false := by rw [h10]; rfl
                            have Hq2 := Lib.hid (show rFirst (s.drop a) = rBody (rIn (s.drop a)) n by rw [Hq1.out, if_neg (by have := Hc.out; have := He.out; rw [not_or]; exact ⟨by omega, by rw [Hge.out, h10]; simp⟩)])
                            clear Hq1 Hge h10
                            have hB : rIn (s.drop a) = (s.drop (c + 1)).take (e - (c + 1)) := by
                              have h1 := Hc.out
                              have h2 := He.out
                              rw [Hin.out, List.drop_drop]
                              congr 1
                              · omega
                              · congr 1; omega
                            generalize rIn (s.drop a) = body at *
                            have hBl : body.length = e - (c + 1) := by rw [hB, List.length_take, List.length_drop]; omega
                            have HB := Lib.hid hB
                            have hA := congrArg List.length (take_aheadC 61 body)
                            rw [List.length_take] at hA
                            have hD := congrArg List.length (drop_aheadC 61 body)
                            rw [List.length_drop] at hD
                            clear Hin hB
                            obtain ⟨A, hAA⟩ : ∃ A, A = (aheadC 61 body).length := ⟨_, rfl⟩
                            have HAA := Lib.hid hAA
                            have hAB : A ≤ body.length := by omega
                            clear hAA
                            go_upto_block 4 with (fail)
                            go_cut [9] (fun i wx => i = .int .i64 ((c + 1 + A : Nat) : Int) ∧ wx = wc)
                            case first =>
                              go_wp2_with (fail)
                              go_loop [9] (fun i => ∃ k : Nat, c + 1 ≤ k ∧ k ≤ e ∧ k - (c + 1) ≤ A ∧ i = .int .i64 k) (fun i => s.length - (intOf i).toNat)
                              case atStart => exact ⟨c + 1, by omega, by omega, by omega, by go_num⟩
                              case round =>
                                obtain ⟨k, hk1, hk2, hk3, rfl⟩ := hrel
                                by_cases hke : k = e
                                · have hke2 : ¬ (k : Int) < e := by omega
                                  have Hmeet := Lib.hid (show k = c + 1 + A by omega)
                                  clear hke
                                  go_wp2
                                  go_meet
                                  case rel => exact ⟨by rw [← Hmeet.out], rfl⟩
                                · have hke2 : (k : Int) < e := by omega
                                  have hkl : k < s.length := by omega
                                  have hkl2 : (k : Int) < s.length := by omega
                                  have hg := body_at HB.out hk1 (by omega) hel (by rw [← HAA.out]; exact hk3)
                                  rw [← HAA.out] at hg
                                  have hby := byte_lt s[k]
                                  by_cases h61 : s[k] = 61
                                  · have e9 : ((s[k].toNat : Int) == 61) = true := by rw [h61]; rfl
                                    have Hmeet := Lib.hid (show k = c + 1 + A by have := hg.1 h61; omega)
                                    clear hke hg h61
                                    go_wp2
                                    go_meet
                                    case rel => exact ⟨by rw [← Hmeet.out], rfl⟩
                                  · have e9 : ((s[k].toNat : Int) == 61) = false := by
                                      rw [beq_eq_false_iff_ne]
                                      intro e9
                                      exact h61 (UInt8.toNat_inj.1 (by have : (61 : UInt8).toNat = 61 := rfl; omega))
                                    have Hk3 := Lib.hid (show k + 1 - (c + 1) ≤ A by
                                      have : k - (c + 1) ≠ A := fun h => h61 (hg.2 h)
                                      omega)
                                    clear hke hg h61
                                    go_wp2
                                    go_round
                                    case rel => exact ⟨k + 1, by omega, by omega, Hk3.out, by go_num⟩
                                    case measure => simp [intOf]; omega
                            case rest =>
                              obtain ⟨rfl, rfl⟩ := hcut
                              have Hbo := Lib.hid (show rBody body n = if 61 ∈ body ∧ aheadC 61 body ≠ [] then .ok (aheadC 61 body, behindC 61 body) n else .bad 2 from rfl)
                              by_cases hAe : A = body.length
                              · have Hq := Lib.hid (Hbad.out 2 (by
                                  rw [Hq2.out, Hbo.out, if_neg (fun h => by have := aheadC_length 61 body h.1; have := HAA.out; omega)]))
                                have e10 : (((c + 1 + A : Nat) : Int) == e) = true := by rw [beq_iff_eq]; omega
                                generalize c + 1 + A = k at *
                                clear hAe
                                go_wp2
                                go_ret2
                                rw [Hq.out]
                                exact ⟨Hb.out, _, rfl, PairsIn.nil _⟩
                              · have e10 : (((c + 1 + A : Nat) : Int) == e) = false := by rw [beq_eq_false_iff_ne]; omega
                                by_cases hA0 : A = 0
                                · have Hq := Lib.hid (Hbad.out 2 (by
                                    rw [Hq2.out, Hbo.out, if_neg (fun h => h.2 (List.length_eq_zero_iff.1 (by have := HAA.out; omega)))]))
                                  have e11 : (((c + 1 + A : Nat) : Int) == (c : Int) + 1) = true := by rw [beq_iff_eq]; omega
                                  generalize c + 1 + A = k at *
                                  clear hAe hA0
                                  go_wp2
                                  go_ret2
                                  rw [Hq.out]
                                  exact ⟨Hb.out, _, rfl, PairsIn.nil _⟩
                                · have e11 : (((c + 1 + A : Nat) : Int) == (c : Int) + 1) = false := by rw [beq_eq_false_iff_ne]; omega
                                  have Hq := Lib.hid (Hok.out (aheadC 61 body, behindC 61 body) n (by
                                    rw [Hq2.out, Hbo.out, if_pos ⟨mem_aheadC.2 (by have := HAA.out; omega), fun h => by rw [h] at HAA; exact hA0 HAA.out⟩]))
                                  have hkA : c + 1 + A < e := by omega
                                  have Hka := Lib.hid (show ((s.drop (c + 1)).take A) = aheadC 61 body by
                                    rw [← take_aheadC 61 body, ← HAA.out, HB.out, List.take_take]; congr 1; omega)
                                  have Hva := Lib.hid (show (s.drop (c + 1 + A + 1)).take (e - (c + 1 + A + 1)) = behindC 61 body by
                                    rw [← drop_aheadC 61 body, ← HAA.out, HB.out, List.drop_take, List.drop_drop]
                                    congr 1
                                    · omega)
                                  have hs1 : ∀ W : World, (Instr.slice 9 (.string ⟨s.toArray⟩) (some (.int .i64 ((c : Int) + 1))) (some (.int .i64 ((c + 1 + A : Nat) : Int))) none).run Tryd.prog W = .ok (.string ⟨(aheadC 61 body).toArray⟩) W := by
                                    intro W
                                    rw [run_slice_string W _ _ _ _ _ _ Tryd.underlying9 (by omega) (by omega) (by simp [ByteArray.size]; omega)]
                                    have he := str_extract s ((c : Int) + 1).toNat ((c + 1 + A : Nat) : Int).toNat
                                    rw [show ((c : Int) + 1).toNat = c + 1 by omega, Int.toNat_natCast, show c + 1 + A - (c + 1) = A by omega, Hka.out] at he
                                    rw [show ((c : Int) + 1).toNat = c + 1 by omega, Int.toNat_natCast]
                                    exact congrArg (fun s => Result.ok (Value.string s) W) he
                                  have hs2 : ∀ W : World, (Instr.slice 9 (.string ⟨s.toArray⟩) (some (.int .i64 (((c + 1 + A : Nat) : Int) + 1))) (some (.int .i64 (e : Int))) none).run Tryd.prog W = .ok (.string ⟨(behindC 61 body).toArray⟩) W := by
                                    intro W
                                    rw [run_slice_string W _ _ _ _ _ _ Tryd.underlying9 (by omega) (by omega) (by simp [ByteArray.size]; omega)]
                                    have he := str_extract s (((c + 1 + A : Nat) : Int) + 1).toNat (e : Int).toNat
                                    rw [show (((c + 1 + A : Nat) : Int) + 1).toNat = c + 1 + A + 1 by omega, Int.toNat_natCast, Hva.out] at he
                                    rw [show (((c + 1 + A : Nat) : Int) + 1).toNat = c + 1 + A + 1 by omega, Int.toNat_natCast]
                                    exact congrArg (fun s => Result.ok (Value.string s) W) he
                                  have hw9 : IntKind.i64.wrap ((c : Int) + 1) = (c : Int) + 1 := IntWalk.i64_in _ (by omega)
                                  have hw10 : IntKind.i64.wrap (((c + 1 + A : Nat) : Int) + 1) = ((c + 1 + A : Nat) : Int) + 1 := IntWalk.i64_in _ (by omega)
                                  generalize aheadC 61 body = ka at *
                                  generalize behindC 61 body = va at *
                                  generalize c + 1 + A = k at *
                                  clear hAe hA0 Hka Hva Hbo Hq2 Hbad Hok hA hD hBl
                                  have hbase := Hb.out.size
                                  have Hown2 := Lib.hid (show OwnP (wc.alloc (.cells #[.string ⟨ka.toArray⟩, .string ⟨va.toArray⟩] 25)).drew w.heap.size (.slice ad acc.length cap) acc from World.ownsRow.alloc Hown.out _)
                                  have Hnews := Lib.hid (show ∀ j u, ([.string ⟨ka.toArray⟩, .string ⟨va.toArray⟩] : List Value)[j]? = some u → (wc.alloc (.cells #[.string ⟨ka.toArray⟩, .string ⟨va.toArray⟩] 25)).drew.cell? ((⟨wc.heap.size, 0, none⟩ : Addr).add j) = some u from cell_two_new wc _ _ _)
                                  have Hone := Lib.hid (show ∀ u ∈ ([.string ⟨ka.toArray⟩, .string ⟨va.toArray⟩] : List Value), u.oneCell' = true by
                                    intro u hu; simp only [List.mem_cons, List.mem_nil_iff, or_false] at hu; rcases hu with rfl | rfl <;> rfl)
                                  have Hsz := Lib.hid (show w.heap.size ≤ (wc.alloc (.cells #[.string ⟨ka.toArray⟩, .string ⟨va.toArray⟩] 25)).drew.heap.size by
                                    simp; omega)
                                  have hacc6 : acc.length < 256 := by omega
                                  go_wp2_with (fail)
                                  go_region_law (refine step_append_lies _ rfl (.tmp 122) (.tmp 134) 22 rfl w.heap.size 25 i0 (.agg #[.string ⟨#[]⟩, .string ⟨#[]⟩]) 2 32 Tryd.underlying22 hi hz0 hz1 hz2 rfl (by decide) (.slice ad acc.length cap) acc.length (pairCells acc) (by simp [Act.eval]) Hown2.out ⟨wc.heap.size, 0, none⟩ 1 1 [.string ⟨ka.toArray⟩, .string ⟨va.toArray⟩] (by simp [Act.eval]) rfl Hnews.out Hone.out (by decide) (by unfold maxLen; omega) (by omega) Hsz.out _ rfl ?_; intro g2 cap2 w2 hown2 hgrow2 _ _)
                                  have Hown3 := Lib.hid (show OwnP w2 w.heap.size (.slice (some ⟨g2, 0, none⟩) (acc ++ [(ka, va)]).length cap2) (acc ++ [(ka, va)]) by
                                    show w2.ownsRow w.heap.size _ 2 (.slice (some ⟨g2, 0, none⟩) (acc ++ [(ka, va)]).length cap2) (acc ++ [(ka, va)]).length (pairCells (acc ++ [(ka, va)]))
                                    rw [pairCells_append, List.length_append]
                                    exact hown2)
                                  have Hb2 := Lib.hid (show Below w.heap.size w w2 by
                                    have ha : Below w.heap.size w (wc.alloc (.cells #[.string ⟨ka.toArray⟩, .string ⟨va.toArray⟩] 25)).drew := Below.drew (Hb.out.alloc Hb.out.size _)
                                    exact ha.grown hgrow2 Hsz.out (fun k hk => (Hown2.out.lt k hk).1))
                                  clear hown2 hgrow2
                                  have han : (a : Int) + n ≤ s.length := by omega
                                  go_wp2
                                  go_roundw
                                  case rel => exact ⟨acc ++ [(ka, va)], a + n, _, _, by simp, by go_num, by omega, by rw [List.length_append, show 256 - (acc.length + [(ka, va)].length) = f by simp; omega, ← List.drop_drop]; exact Hq.out, by simp; omega, Hown3.out, Hb2.out⟩
                                  case measure => simp [intOf]; omega
                          · have e8 : ((s[e].toNat : Int) == 10) = false := by
                              rw [beq_eq_false_iff_ne]
                              intro e9
                              exact h10 (UInt8.toNat_inj.1 (by have : (10 : UInt8).toNat = 10 := rfl; omega))
                            have Hq := Lib.hid (Hbad.out 2 (by rw [Hq1.out, if_pos (.inr (by rw [Hge.out]; simpa using h10))]))
                            clear h10
                            go_wp2
                            go_ret2
                            rw [Hq.out]
                            exact ⟨Hb.out, _, rfl, PairsIn.nil _⟩
                    · have e5 : ((s[a + m].toNat : Int) == 32) = false := by
                        rw [beq_eq_false_iff_ne]
                        intro e
                        exact h32 (UInt8.toNat_inj.1 (by have : (32 : UInt8).toNat = 32 := rfl; omega))
                      have Hq := Lib.hid (Hno.out (.inr (.inr (.inr (.inr ⟨hclt, h32⟩)))))
                      generalize numD 0 ((s.drop a).take m) = N at *
                      generalize a + m = c at *
                      clear h0 h7 h48 hce h32
                      go_wp2
                      go_ret2
                      rw [Hq.out]
                      exact ⟨Hb.out, _, rfl, PairsIn.nil _⟩
end Go.Proofs.YtafglickbaeoeaaDoor
