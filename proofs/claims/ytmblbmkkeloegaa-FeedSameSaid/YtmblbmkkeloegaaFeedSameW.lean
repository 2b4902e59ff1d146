/- The walk of the law FeedSame. -/
import Derived.Test.YtmblbmkkeloegaaFedF
import Derived.Test.YtmblbmkkeloegaaRowU
import Derived.Deep.RegionHeld3
import Derived.Deep.CutBlock
import Derived.Deep.DeepCutAuto
namespace Go.Proofs.Ytmblbmkkeloegaa.feedSame
open Go.ChangeShapes Go.WideShapes Go.ChangeAt Go.RowKit Go.Conc

theorem slice_mid (l : List UInt8) (p j : Nat) (h : p + j ≤ l.length) (W : World) :
    (Instr.slice 9 (.string ⟨l.toArray⟩) (some (.int .i64 (p : Int))) (some (.int .i64 ((p : Int) + j))) none).run Try.prog W = .ok (.string ⟨((l.drop p).take j).toArray⟩) W := by
  rw [run_slice_string W _ _ _ _ _ _ Try.underlying9 (by omega) (by omega) (by simp [ByteArray.size]; omega), str_extract, Int.toNat_natCast, show ((p : Int) + j).toNat - p = j by omega]

theorem short (s : List UInt8) (c1 c2 : Option Addr) (n1 k1 n2 k2 : Nat) (h : 400 < s.length ∨ 40 < n1 ∨ 400 < n2) (hs : s.length ≤ maxLen) (h1 : n1 ≤ 9223372036854775807) (h2 : n2 ≤ 9223372036854775807) (w : World) :
    Calls Try.prog 4 #[.string ⟨s.toArray⟩, .slice c1 n1 k1, .slice c2 n2 k2] w fun e w' => Below w.heap.size w w' ∧ e = .returned (.bool true) := by
  unfold maxLen at hs
  go_enter Try.func4, Try.ntmps4
  go_wp2_with fail
  refine (feed_new w).mono ?_
  rintro e w1 ⟨f, c, ⟨_, hb1, _, _⟩, rfl⟩
  have HB := Lib.hid hb1
  clear hb1
  rcases h with h | h | h
  · have h3 : (400 : Int) < s.length := by omega
    go_wp2_with fail
    refine (awake8_any w1).mono ?_
    rintro e w2 ⟨hb2, rfl⟩
    have HB2 := Lib.hid (HB.out.trans (hb2.mono HB.out.size))
    clear hb2
    go_wp2
    go_ret
    exact ⟨HB2.out, rfl⟩
  · have h3 : (40 : Int) < n1 := by omega
    go_wp2_with fail
    all_goals
      refine (awake8_any w1).mono ?_
      rintro e w2 ⟨hb2, rfl⟩
      have HB2 := Lib.hid (HB.out.trans (hb2.mono HB.out.size))
      clear hb2
      go_wp2
      go_ret
      exact ⟨HB2.out, rfl⟩
  · have h3 : (400 : Int) < n2 := by omega
    go_wp2_with fail
    all_goals
      refine (awake8_any w1).mono ?_
      rintro e w2 ⟨hb2, rfl⟩
      have HB2 := Lib.hid (HB.out.trans (hb2.mono HB.out.size))
      clear hb2
      go_wp2
      go_ret
      exact ⟨HB2.out, rfl⟩

set_option maxHeartbeats 4000000 in
set_option maxRecDepth 100000 in
theorem long (s : List UInt8) (c1 c2 : Option Addr) (n1 k1 n2 k2 : Nat) (hs : s.length ≤ 400) (h1 : n1 ≤ 40) (h2 : n2 ≤ 400) (w : World) (hr1 : RowAt w c1 n1) (hr2 : RowAt w c2 n2) :
    Calls Try.prog 4 #[.string ⟨s.toArray⟩, .slice c1 n1 k1, .slice c2 n2 k2] w fun e w' => Below w.heap.size w w' ∧ e = .returned (.bool true) := by
  have Hr1 := Lib.hid hr1
  have Hr2 := Lib.hid hr2
  clear hr1 hr2
  have hsi : (s.length : Int) ≤ 400 := by omega
  have h1i : (n1 : Int) ≤ 40 := by omega
  have h2i : (n2 : Int) ≤ 400 := by omega
  go_enter Try.func4, Try.ntmps4
  go_wp2_with fail
  refine (feed_new w).mono ?_
  rintro e w1 ⟨f, c, ⟨hfe1, hb1, hf, hc⟩, rfl⟩
  have HB1 := Lib.hid hb1
  have HF1 := Lib.hid hfe1
  clear hb1 hfe1
  go_wp2
  go_loopw [8, 10] (fun a i wr => ∃ (p k : Nat) (M : List (List UInt8)), a = .int .i64 p ∧ i = .int .i64 k ∧ p ≤ s.length ∧ k ≤ 60 ∧ M.length ≤ k ∧ Feed wr f c M false ∧ M.flatten = s.take p ∧ Below w.heap.size w wr) (fun _ i _ => 60 - (intOf i).toNat)
  case atStart => exact ⟨0, 0, [], rfl, rfl, Nat.zero_le _, by omega, Nat.le_refl _, HF1.out, by simp, HB1.out⟩
  case round =>
    obtain ⟨p, k, M, rfl, rfl, hp, hk, hMk, hfe, hfl, hb⟩ := hrel
    have HF := Lib.hid hfe
    have HL := Lib.hid hfl
    have HB := Lib.hid hb
    clear hfe hfl hb HF1 HB1
    by_cases hlt : p < s.length ∧ k < 60
    · obtain ⟨hps, hk6⟩ := hlt
      by_cases hkn : k < n1
      · obtain ⟨b, o, rfl, x, hx0, hx1, hcx⟩ := Hr1.out.at HB.out hkn
        obtain ⟨j, hj⟩ : ∃ j : Nat, min ((s.length : Int) - p) (x % 50) = j := ⟨(min ((s.length : Int) - p) (x % 50)).toNat, by omega⟩
        have hjl : p + j ≤ s.length := by omega
        have Hcut := Lib.hid (slice_mid s p j hjl wr)
        have hdl : ((s.drop p).take j).length = j := by rw [List.length_take, List.length_drop]; omega
        obtain ⟨d, hd⟩ : ∃ d, (s.drop p).take j = d := ⟨_, rfl⟩
        rw [hd] at Hcut hdl
        obtain ⟨cap, w2, hcv, _, hat, hb2⟩ := bytes_at d wr
        have hput : (putL M false d).2 = 0 ∧ (putL M false d).1.length ≤ k + 1 ∧ (putL M false d).1.flatten = s.take (p + j) := by
          have hfl : s.take p ++ d = s.take (p + j) := by rw [← hd, List.take_add]
          unfold putL
          rw [if_neg (by omega), if_neg (by decide)]
          by_cases hd0 : d = []
          · rw [if_pos hd0]
            refine ⟨rfl, Nat.le_succ_of_le hMk, ?_⟩
            rw [HL.out, ← hfl, hd0, List.append_nil]
          · rw [if_neg hd0, if_neg (by omega)]
            refine ⟨rfl, by simp; omega, ?_⟩
            simp only [List.flatten_append, List.flatten_cons, List.flatten_nil, List.append_nil]
            rw [HL.out, hfl]
        have HP := Lib.hid (feed_put (HF.out.under hb2) d (by omega) (some ⟨wr.heap.size, 0, none⟩) cap (fun _ => hat.conv rfl))
        rw [hdl] at HP hcv
        have Hput := Lib.hid hput
        have HB2 := Lib.hid (HB.out.trans (hb2.mono HB.out.size))
        generalize putL M false d = R at *
        obtain ⟨M', er⟩ := R
        obtain rfl : er = 0 := Hput.out.1
        have hcut := Hcut.out
        clear hput hat hb2 hd
        go_wp2_with fail
        refine HP.out.mono ?_
        rintro e w3 ⟨⟨h3, hk3⟩, rfl⟩
        have H3 := Lib.hid h3
        have HB3 := Lib.hid (HB2.out.trans (hk3.below HB2.out.size hf hc))
        clear h3 hk3
        go_wp2
        go_round
        case rel => exact ⟨p + j, k + 1, M', by go_num, by go_num, by omega, by omega, Hput.out.2.1, H3.out, Hput.out.2.2, HB3.out⟩
        case measure => simp [intOf]; omega
      · obtain ⟨j, hj⟩ : ∃ j : Nat, ((s.length : Int) - p) = j := ⟨((s.length : Int) - p).toNat, by omega⟩
        have hjl : p + j ≤ s.length := by omega
        have hkn2 : (n1 : Int) ≤ k := by omega
        have Hcut := Lib.hid (slice_mid s p j hjl wr)
        have hdl : ((s.drop p).take j).length = j := by rw [List.length_take, List.length_drop]; omega
        obtain ⟨d, hd⟩ : ∃ d, (s.drop p).take j = d := ⟨_, rfl⟩
        rw [hd] at Hcut hdl
        obtain ⟨cap, w2, hcv, _, hat, hb2⟩ := bytes_at d wr
        have hput : (putL M false d).2 = 0 ∧ (putL M false d).1.length ≤ k + 1 ∧ (putL M false d).1.flatten = s.take (p + j) := by
          have hfl : s.take p ++ d = s.take (p + j) := by rw [← hd, List.take_add]
          unfold putL
          rw [if_neg (by omega), if_neg (by decide)]
          by_cases hd0 : d = []
          · rw [if_pos hd0]
            refine ⟨rfl, Nat.le_succ_of_le hMk, ?_⟩
            rw [HL.out, ← hfl, hd0, List.append_nil]
          · rw [if_neg hd0, if_neg (by omega)]
            refine ⟨rfl, by simp; omega, ?_⟩
            simp only [List.flatten_append, List.flatten_cons, List.flatten_nil, List.append_nil]
            rw [HL.out, hfl]
        have HP := Lib.hid (feed_put (HF.out.under hb2) d (by omega) (some ⟨wr.heap.size, 0, none⟩) cap (fun _ => hat.conv rfl))
        rw [hdl] at HP hcv
        have Hput := Lib.hid hput
        have HB2 := Lib.hid (HB.out.trans (hb2.mono HB.out.size))
        generalize putL M false d = R at *
        obtain ⟨M', er⟩ := R
        obtain rfl : er = 0 := Hput.out.1
        have hcut := Hcut.out
        clear hput hat hb2 hd
        go_wp2_with fail
        refine HP.out.mono ?_
        rintro e w3 ⟨⟨h3, hk3⟩, rfl⟩
        have H3 := Lib.hid h3
        have HB3 := Lib.hid (HB2.out.trans (hk3.below HB2.out.size hf hc))
        clear h3 hk3
        go_wp2
        go_round
        case rel => exact ⟨p + j, k + 1, M', by go_num, by go_num, by omega, by omega, Hput.out.2.1, H3.out, Hput.out.2.2, HB3.out⟩
        case measure => simp [intOf]; omega
    · by_cases hps : p < s.length
      · have hk6 : (60 : Int) ≤ k := by omega
        have hpl : p ≤ s.length := hp
        go_wp2
        go_loopw [9, 78] (fun g i wq => ∃ (acc : List UInt8) (q : Nat) (N : List (List UInt8)), g = .string ⟨acc.toArray⟩ ∧ i = .int .i64 q ∧ q ≤ n2 ∧ Feed wq f c N false ∧ acc ++ N.flatten = s.take p ∧ Below w.heap.size w wq) (fun _ i _ => n2 - (intOf i).toNat)
        case atStart => exact ⟨[], 0, M, rfl, rfl, Nat.zero_le _, HF.out, HL.out, HB.out⟩
        case round =>
          obtain ⟨acc, q, N, rfl, rfl, hq, hfe, hfl, hb⟩ := hrel
          have HFq := Lib.hid hfe
          have HLq := Lib.hid hfl
          have HBq := Lib.hid hb
          have hal : acc.length + N.flatten.length ≤ 400 := by
            have h9 := congrArg List.length hfl
            rw [List.length_append, List.length_take] at h9
            omega
          clear hfe hfl hb HF HL HB
          by_cases hqn : q < n2
          · have hqi : (q : Int) < n2 := by omega
            obtain ⟨b, o, rfl, x, hx0, hx1, hcx⟩ := Hr2.out.at HBq.out hqn
            obtain ⟨j, hj⟩ : ∃ j : Nat, (j : Int) = max (min (x % 20) (N.flatten.length : Nat)) 0 := ⟨(max (min (x % 20) (N.flatten.length : Nat)) 0).toNat, by omega⟩
            have HS := Lib.hid (feed_some HFq.out (x % 20) j hj)
            have HN := Lib.hid (show (acc ++ N.flatten.take j) ++ (dropL N j).flatten = s.take p by rw [dropL_flat, List.append_assoc, List.take_append_drop]; exact HLq.out)
            have htl : (N.flatten.take j).length ≤ N.flatten.length := by rw [List.length_take]; omega
            generalize N.flatten.take j = d at *
            generalize dropL N j = N2 at *
            have hsz : acc.length + d.length ≤ 400 := by omega
            clear hj
            go_wp2_with fail
            refine HS.out.mono ?_
            rintro e w3 ⟨⟨h3, hk3⟩, rfl⟩
            have H3 := Lib.hid h3
            have HB3 := Lib.hid (HBq.out.trans (hk3.below HBq.out.size hf hc))
            clear h3 hk3
            go_wp2
            go_round
            case rel => exact ⟨acc ++ d, q + 1, N2, rfl, by go_num, by omega, H3.out, HN.out, HB3.out⟩
            case measure => simp [intOf]; omega
          · have hqi : (n2 : Int) ≤ q := by omega
            have hall : N.flatten.take N.flatten.length = N.flatten := List.take_length
            have hpt : N.flatten.length ≤ p := by
              have h9 := congrArg List.length HLq.out
              rw [List.length_append, List.length_take] at h9
              omega
            have hj : ((N.flatten.length : Nat) : Int) = max (min (p : Int) (N.flatten.length : Nat)) 0 := by omega
            have hN0 : dropL N N.flatten.length = [] := by
              have hfull := dropL_full N HFq.out.good.full N.flatten.length
              exact (full_flat_pos _ hfull).1 (by rw [feed_drop_len]; omega)
            have HS := Lib.hid (fun w h => feed_some (w := w) (f := f) (c := c) (M := N) (cl := false) h p N.flatten.length hj)
            rw [hN0, hall] at HS
            have hcut : s.take p = acc ++ N.flatten := HLq.out.symm
            generalize N.flatten = d at *
            clear hall hj hN0
            go_wp2
            have hD : Feed wr.drew f c N false := ⟨HFq.out.raw, HFq.out.good⟩
            have hno : ¬ 9223372036854775807 < acc.length + d.length := by omega
            have hbD : Below w.heap.size w wr.drew := Below.drew HBq.out
            have hpi : (p : Int) ≤ s.length := by omega
            go_region_held3 (fun w' => Below w.heap.size w w')
              (first | assumption | exact hbD.trans (hkA.below hbD.size hf hc) | exact (hbD.trans (hkA.below hbD.size hf hc)).trans (hbC.mono (hbD.trans (hkA.below hbD.size hf hc)).size))
              (first
                | (go_at_call 14; refine (HS.out _ hD).mono ?_; rintro e wA ⟨⟨hA, hkA⟩, rfl⟩)
                | (go_at_call 9; refine (feed_len hA).mono ?_; rintro e wB ⟨rfl, rfl⟩)
                | (go_at_call 11; refine (feed_chunks hA).mono ?_; rintro e wB ⟨rfl, rfl⟩)
                | (go_at_call 7; refine (awake8_any _).mono ?_; rintro e wC ⟨hbC, rfl⟩))
            have hEnd : Below w.heap.size w wC := by assumption
            go_wp2
            go_ret
            exact ⟨hEnd, rfl⟩
      · have hps2 : (s.length : Int) ≤ p := by omega
        have hpl : p ≤ s.length := hp
        go_wp2
        go_loopw [9, 78] (fun g i wq => ∃ (acc : List UInt8) (q : Nat) (N : List (List UInt8)), g = .string ⟨acc.toArray⟩ ∧ i = .int .i64 q ∧ q ≤ n2 ∧ Feed wq f c N false ∧ acc ++ N.flatten = s.take p ∧ Below w.heap.size w wq) (fun _ i _ => n2 - (intOf i).toNat)
        case atStart => exact ⟨[], 0, M, rfl, rfl, Nat.zero_le _, HF.out, HL.out, HB.out⟩
        case round =>
          obtain ⟨acc, q, N, rfl, rfl, hq, hfe, hfl, hb⟩ := hrel
          have HFq := Lib.hid hfe
          have HLq := Lib.hid hfl
          have HBq := Lib.hid hb
          have hal : acc.length + N.flatten.length ≤ 400 := by
            have h9 := congrArg List.length hfl
            rw [List.length_append, List.length_take] at h9
            omega
          clear hfe hfl hb HF HL HB
          by_cases hqn : q < n2
          · have hqi : (q : Int) < n2 := by omega
            obtain ⟨b, o, rfl, x, hx0, hx1, hcx⟩ := Hr2.out.at HBq.out hqn
            obtain ⟨j, hj⟩ : ∃ j : Nat, (j : Int) = max (min (x % 20) (N.flatten.length : Nat)) 0 := ⟨(max (min (x % 20) (N.flatten.length : Nat)) 0).toNat, by omega⟩
            have HS := Lib.hid (feed_some HFq.out (x % 20) j hj)
            have HN := Lib.hid (show (acc ++ N.flatten.take j) ++ (dropL N j).flatten = s.take p by rw [dropL_flat, List.append_assoc, List.take_append_drop]; exact HLq.out)
            have htl : (N.flatten.take j).length ≤ N.flatten.length := by rw [List.length_take]; omega
            generalize N.flatten.take j = d at *
            generalize dropL N j = N2 at *
            have hsz : acc.length + d.length ≤ 400 := by omega
            clear hj
            go_wp2_with fail
            refine HS.out.mono ?_
            rintro e w3 ⟨⟨h3, hk3⟩, rfl⟩
            have H3 := Lib.hid h3
            have HB3 := Lib.hid (HBq.out.trans (hk3.below HBq.out.size hf hc))
            clear h3 hk3
            go_wp2
            go_round
            case rel => exact ⟨acc ++ d, q + 1, N2, rfl, by go_num, by omega, H3.out, HN.out, HB3.out⟩
            case measure => simp [intOf]; omega
          · have hqi : (n2 : Int) ≤ q := by omega
            have hall : N.flatten.take N.flatten.length = N.flatten := List.take_length
            have hpt : N.flatten.length ≤ p := by
              have h9 := congrArg List.length HLq.out
              rw [List.length_append, List.length_take] at h9
              omega
            have hj : ((N.flatten.length : Nat) : Int) = max (min (p : Int) (N.flatten.length : Nat)) 0 := by omega
            have hN0 : dropL N N.flatten.length = [] := by
              have hfull := dropL_full N HFq.out.good.full N.flatten.length
              exact (full_flat_pos _ hfull).1 (by rw [feed_drop_len]; omega)
            have HS := Lib.hid (fun w h => feed_some (w := w) (f := f) (c := c) (M := N) (cl := false) h p N.flatten.length hj)
            rw [hN0, hall] at HS
            have hcut : s.take p = acc ++ N.flatten := HLq.out.symm
            generalize N.flatten = d at *
            clear hall hj hN0
            go_wp2
            have hD : Feed wr.drew f c N false := ⟨HFq.out.raw, HFq.out.good⟩
            have hno : ¬ 9223372036854775807 < acc.length + d.length := by omega
            have hbD : Below w.heap.size w wr.drew := Below.drew HBq.out
            have hpi : (p : Int) ≤ s.length := by omega
            go_region_held3 (fun w' => Below w.heap.size w w')
              (first | assumption | exact hbD.trans (hkA.below hbD.size hf hc) | exact (hbD.trans (hkA.below hbD.size hf hc)).trans (hbC.mono (hbD.trans (hkA.below hbD.size hf hc)).size))
              (first
                | (go_at_call 14; refine (HS.out _ hD).mono ?_; rintro e wA ⟨⟨hA, hkA⟩, rfl⟩)
                | (go_at_call 9; refine (feed_len hA).mono ?_; rintro e wB ⟨rfl, rfl⟩)
                | (go_at_call 11; refine (feed_chunks hA).mono ?_; rintro e wB ⟨rfl, rfl⟩)
                | (go_at_call 7; refine (awake8_any _).mono ?_; rintro e wC ⟨hbC, rfl⟩))
            have hEnd : Below w.heap.size w wC := by assumption
            go_wp2
            go_ret
            exact ⟨hEnd, rfl⟩

theorem walk {w0 : World} (s : List UInt8) (c1 : Option Addr) (n1 k1 : Nat) (c2 : Option Addr) (n2 k2 : Nat) (hs : s.length ≤ maxLen) (hr1 : RowAt w0 c1 n1) (h1 : n1 ≤ maxLen) (hr2 : RowAt w0 c2 n2) (h2 : n2 ≤ maxLen) :
    Calls Try.prog 4 #[.string ⟨s.toArray⟩, .slice c1 n1 k1, .slice c2 n2 k2] w0 fun e w' => Below w0.heap.size w0 w' ∧ e = .returned (.bool true) := by
  unfold maxLen at h1 h2
  by_cases h : 400 < s.length ∨ 40 < n1 ∨ 400 < n2
  · exact short s c1 c2 n1 k1 n2 k2 h hs (by omega) (by omega) w0
  · exact long s c1 c2 n1 k1 n2 k2 (by omega) (by omega) (by omega) w0 hr1 hr2
end Go.Proofs.Ytmblbmkkeloegaa.feedSame
