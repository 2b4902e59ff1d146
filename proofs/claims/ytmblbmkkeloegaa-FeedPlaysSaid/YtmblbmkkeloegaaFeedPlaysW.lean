/- The walk of the law FeedPlays. -/
import Derived.Test.YtmblbmkkeloegaaFedV
namespace Go.Proofs.Ytmblbmkkeloegaa.feedPlays
open Go.ChangeShapes Go.WideShapes Go.ChangeAt Go.RowKit Go.Conc

/-- Calls that came in, where they lie. -/
def OpsAt (w : World) (ad : Option Addr) (n : Nat) : Prop :=
  n = 0 ∨ ∃ b o, ad = some ⟨b, o, none⟩ ∧ b < w.heap.size ∧ ∀ i, i < n → ∃ (k m : Int) (s : List UInt8), s.length ≤ maxLen ∧ w.cell? ⟨b, o + i * 3, none⟩ = some (.int .i64 k) ∧ w.cell? ⟨b, o + i * 3 + 1, none⟩ = some (.int .i64 m) ∧ w.cell? ⟨b, o + i * 3 + 2, none⟩ = some (strV s)

theorem OpsAt.at {w w' : World} {ad : Option Addr} {n : Nat} (h : OpsAt w ad n) (hb : Below w.heap.size w w') {i : Nat} (hi : i < n) :
    ∃ b o, ad = some ⟨b, o, none⟩ ∧ b < w.heap.size ∧ ∃ (k m : Int) (s : List UInt8), s.length ≤ maxLen ∧ w'.cell? ⟨b, o + i * 3, none⟩ = some (.int .i64 k) ∧ w'.cell? ⟨b, o + i * 3 + 1, none⟩ = some (.int .i64 m) ∧ w'.cell? ⟨b, o + i * 3 + 2, none⟩ = some (strV s) := by
  rcases h with h | ⟨b, o, ha, hlt, h⟩
  · omega
  · obtain ⟨k, m, s, h0, h1, h2, h3⟩ := h i hi
    exact ⟨b, o, ha, hlt, k, m, s, h0, by rw [hb.cell (p := ⟨b, o + i * 3, none⟩) hlt]; exact h1, by rw [hb.cell (p := ⟨b, o + i * 3 + 1, none⟩) hlt]; exact h2, by rw [hb.cell (p := ⟨b, o + i * 3 + 2, none⟩) hlt]; exact h3⟩

/-- What stands behind a step: the new state in a box, the old one in its own. -/
def PlayR (w : World) (f c x B : Nat) (v0 v1 : Value) (r b : Value) (wx : World) : Prop :=
  ∃ (rb : Nat) (L2 : List (List UInt8)) (cl2 : Bool) (v2 : Value), r = .pointer (some ⟨rb, 0, none⟩) ∧ b = .bool true ∧ rb ≠ x ∧ Feed wx f c L2 cl2 ∧ OwnS wx B v2 L2 ∧ Holds wx rb 27 [v2, .bool cl2] ∧ Holds wx x 27 [v0, v1] ∧ Below w.heap.size w wx

section
variable {w w3 : World} {f c x B : Nat} {v0 v1 v2 : Value} {L2 : List (List UInt8)} {cl2 : Bool}
/-- The state and the feed agree. -/
def PlayG (w : World) (f c x B : Nat) (L2 : List (List UInt8)) (cl2 : Bool) (v2 : Value) (wx : World) : Prop :=
  Feed wx f c L2 cl2 ∧ OwnS wx B v2 L2 ∧ Holds wx x 27 [v2, .bool cl2] ∧ Below w.heap.size w wx
theorem PlayG.step {w4 w5 : World} (h : PlayG w f c x B L2 cl2 v2 w4) (hb : Below w4.heap.size w4 w5) : PlayG w f c x B L2 cl2 v2 w5 :=
  ⟨h.1.under hb, h.2.1.step hb, h.2.2.1.under hb h.2.2.1.lt, h.2.2.2.trans (hb.mono h.2.2.2.size)⟩
theorem PlayG.drew {w4 : World} (h : PlayG w f c x B L2 cl2 v2 w4) : PlayG w f c x B L2 cl2 v2 w4.drew := h.step ⟨rfl, rfl, rfl, Nat.le_refl _, fun _ _ => rfl⟩
theorem PlayG.all {w4 : World} (h : PlayG w f c x B L2 cl2 v2 w4) : PlayG w f c x B L2 cl2 v2 w4 ∧ w4.cell? ⟨x, 0, none⟩ = some v2 ∧ w4.cell? ⟨x, 1, none⟩ = some (.bool cl2) :=
  ⟨h, h.2.2.1.cell (i := 0) (by simp), h.2.2.1.cell (i := 1) (by simp)⟩
theorem PlayG.set {w4 : World} {v0 v1 : Value} (hfe : Feed w4 f c L2 cl2) (how : OwnS w4 B v2 L2) (hx : Holds w4 x 27 [v0, v1]) (hb : Below w.heap.size w w4) (hxw : w.heap.size ≤ x) (hf : x ≠ f) (hc : x ≠ c) :
    PlayG w f c x B L2 cl2 v2 ((w4.setCell ⟨x, 0, none⟩ v2).setCell ⟨x, 1, none⟩ (.bool cl2)) := by
  refine ⟨(hfe.other (fun e => hf e.symm) (fun e => hc e.symm) _).other (fun e => hf e.symm) (fun e => hc e.symm) _, (how.other hx _).other (hx.put 0 v2) _, ?_, (hb.setCell (p := ⟨x, 0, none⟩) hxw _).setCell (p := ⟨x, 1, none⟩) hxw _⟩
  have := (hx.put 0 v2).put 1 (.bool cl2)
  simpa using this

theorem fin_new (hfe : Feed w3 f c L2 cl2) (how : OwnS w3 B v2 L2) (hx : Holds w3 x 27 [v0, v1]) (hb : Below w.heap.size w w3) :
    PlayR w f c x B v0 v1 (.pointer (some ⟨w3.heap.size, 0, none⟩)) (.bool true) (w3.alloc (.cells #[v2, .bool cl2] 27)) := by
  have hd : Below w3.heap.size w3 (w3.alloc (.cells #[v2, .bool cl2] 27)) := (Below.refl _ w3).alloc (Nat.le_refl _) _
  exact ⟨w3.heap.size, L2, cl2, v2, rfl, rfl, fun e => by have := hx.lt; omega, hfe.under hd, how.step hd, Holds.new w3 _ [v2, .bool cl2], hx.under hd hx.lt, hb.alloc hb.size _⟩
theorem fin_set {r : Nat} {z0 z1 : Value} (hfe : Feed w3 f c L2 cl2) (how : OwnS w3 B v2 L2) (hx : Holds w3 x 27 [v0, v1]) (hb : Below w.heap.size w w3) (hz : Holds w3 r 27 [z0, z1]) (hr : w.heap.size ≤ r) (hf : r ≠ f) (hc : r ≠ c) (hxr : r ≠ x) :
    PlayR w f c x B v0 v1 (.pointer (some ⟨r, 0, none⟩)) (.bool true) ((w3.setCell ⟨r, 0, none⟩ v2).setCell ⟨r, 1, none⟩ (.bool cl2)) := by
  refine ⟨r, L2, cl2, v2, rfl, rfl, hxr, (hfe.other (fun e => hf e.symm) (fun e => hc e.symm) _).other (fun e => hf e.symm) (fun e => hc e.symm) _, (how.other hz _).other (hz.put 0 v2) _, ?_, (hx.other (fun e => hxr e.symm) _).other (fun e => hxr e.symm) _, (hb.setCell (p := ⟨r, 0, none⟩) hr _).setCell (p := ⟨r, 1, none⟩) hr _⟩
  have := (hz.put 0 v2).put 1 (.bool cl2)
  simpa using this
end

set_option maxHeartbeats 4000000 in
set_option maxRecDepth 100000 in
theorem walk0 (ad : Option Addr) (n k : Nat) (w : World) (ho : OpsAt w ad n) (hn : n ≤ 9223372036854775807) :
    Calls Try.prog 3 #[.slice ad n k] w fun e w' => Below w.heap.size w w' ∧ e = .returned (.bool true) := by
  have HO := Lib.hid ho
  clear ho
  have hni : (n : Int) ≤ 9223372036854775807 := by omega
  go_enter Try.func3, Try.ntmps3
  go_wp2_with fail
  refine (feed_new w).mono ?_
  rintro e w1 ⟨f, c, ⟨hfe1, hb1, hf, hc⟩, rfl⟩
  have hfl := hfe1.flt
  have hcl := hfe1.clt
  have hx1 := Holds.new w1 27 [.slice none 0 0, .bool false]
  have hbx : Below w1.heap.size w1 (w1.alloc (.cells #[.slice none 0 0, .bool false] 27)) := (Below.refl _ w1).alloc (Nat.le_refl _) _
  have HX1 := Lib.hid hx1
  have HB1 := Lib.hid (hb1.trans (hbx.mono hb1.size))
  have HF1 := Lib.hid (hfe1.under hbx)
  have hsz1 := hb1.size
  clear hb1 hfe1 hx1 hbx
  go_wp2
  go_loopw [5] (fun i wr => ∃ (q : Nat) (L : List (List UInt8)) (cl : Bool) (v : Value), i = .int .i64 q ∧ q ≤ n ∧ q ≤ 100 ∧ Feed wr f c L cl ∧ OwnS wr w1.heap.size v L ∧ Holds wr w1.heap.size 27 [v, .bool cl] ∧ Below w.heap.size w wr) (fun i _ => 100 - (intOf i).toNat)
  case atStart => exact ⟨0, [], false, _, rfl, Nat.zero_le _, Nat.zero_le _, HF1.out, World.ownsRow_nil _ _ _ _, HX1.out, HB1.out⟩
  case round =>
    obtain ⟨q, L, cl, v, rfl, hq, hq1, hfe, how, hx, hb⟩ := hrel
    obtain ⟨sd, sc, rfl⟩ := how.form
    have HF := Lib.hid hfe
    have HW := Lib.hid how
    have HX := Lib.hid hx
    have HB := Lib.hid hb
    have x0 := hx.cell (i := 0) (by simp)
    have x1 := hx.cell (i := 1) (by simp)
    have hwx := hx.lt
    clear hfe how hx hb HF1 HX1 HB1
    by_cases hlt : q < n ∧ q < 100
    · obtain ⟨hqn, hq100⟩ := hlt
      obtain ⟨b, o, rfl, hbl, kk, m, s, hs, c0, c1, c2⟩ := HO.out.at HB.out hqn
      unfold maxLen at hs
      by_cases hs2 : s.length ≤ 200
      · have hs3 : (s.length : Int) ≤ 200 := by omega
        have hd : Below wr.heap.size wr wr.drew := ⟨rfl, rfl, rfl, Nat.le_refl _, fun _ _ => rfl⟩
        have hd2 : Below wr.heap.size wr (wr.alloc (.cells #[.slice none 0 0, .bool false] 27)).drew := Below.drew ((Below.refl _ wr).alloc (Nat.le_refl _) _)
        have H1 := Lib.hid (one_any (HF.out.under hd) (HW.out.step hd) (Nat.le_of_lt hwx) hfl hcl kk m s hs2)
        have H2 := Lib.hid (one_any (HF.out.under hd2) (HW.out.step hd2) (Nat.le_trans (Nat.le_of_lt hwx) hd2.size) hfl hcl kk m s hs2)
        have hz0 := Holds.new wr 27 [.slice none 0 0, .bool false]
        have hxd2 := HX.out.under hd2 hwx
        have hbwr : b < wr.heap.size := Nat.lt_of_lt_of_le hbl HB.out.size
        have C0 := hd2.cell (p := ⟨b, o + q * 3, none⟩) hbwr
        have C1 := hd2.cell (p := ⟨b, o + q * 3 + 1, none⟩) hbwr
        have C2 := hd2.cell (p := ⟨b, o + q * 3 + 2, none⟩) hbwr
        rw [c0] at C0
        rw [c1] at C1
        rw [c2] at C2
        have X0 := hxd2.cell (i := 0) (by simp)
        have X1 := hxd2.cell (i := 1) (by simp)
        have hfw : wr.heap.size ≠ f := by omega
        have hcw : wr.heap.size ≠ c := by omega
        have hfx : w1.heap.size ≠ f := by omega
        have hcx : w1.heap.size ≠ c := by omega
        go_upto_region 10 with (fail)
        have hb1 : Below w.heap.size w wr.drew := Below.drew HB.out
        have hb2 : Below w.heap.size w (wr.alloc (.cells #[.slice none 0 0, .bool false] 27)).drew := Below.drew (HB.out.alloc HB.out.size _)
        have hwr := HB.out.size
        go_cut [6, 7] (fun r b wx => PlayR w f c w1.heap.size w1.heap.size (.slice sd L.length sc) (.bool cl) r b wx)
        case first =>
          go_region_with (first
            | (go_at_call 8; refine H1.out.mono ?_; rintro e w3 ⟨L2, cl2, v2, ⟨hfe3, how3, hk3⟩, rfl⟩; obtain ⟨ad2, cap2, rfl⟩ := how3.form; have hE := Lib.hid (fin_new (w := w) hfe3 how3 (hk3.holds (show Holds wr.drew w1.heap.size _ _ from HX.out) hfx hcx) (hb1.trans (hk3.below hb1.size hf hc))))
            | (go_at_call 8; refine H2.out.mono ?_; rintro e w3 ⟨L2, cl2, v2, ⟨hfe3, how3, hk3⟩, rfl⟩; obtain ⟨ad2, cap2, rfl⟩ := how3.form; have hz3 := hk3.holds (show Holds (wr.alloc (.cells #[.slice none 0 0, .bool false] 27)).drew wr.heap.size _ _ from hz0) hfw hcw; have hE := Lib.hid (fin_set (w := w) hfe3 how3 (hk3.holds hxd2 hfx hcx) (hb2.trans (hk3.below hb2.size hf hc)) hz3 hwr hfw hcw (Nat.ne_of_gt hwx)); have y0 := hz3.cell (i := 0) (by simp); have y1 := hz3.cell (i := 1) (by simp); have u0 := hz3.frozen 0; have u1 := hz3.frozen 1))
          all_goals
            go_wp2
            go_meet
            case rel => exact hE.out
        case rest =>
          obtain ⟨rb, L2, cl2, v2, rfl, rfl, hrx, hfe2, how2, hr2, hxx, hb3⟩ := hcut
          obtain ⟨ad2, cap2, rfl⟩ := how2.form
          have r0 := hr2.cell (i := 0) (by simp)
          have r1 := hr2.cell (i := 1) (by simp)
          have xx0 := hxx.cell (i := 0) (by simp)
          have xx1 := hxx.cell (i := 1) (by simp)
          have xf0 := hxx.frozen 0
          have xf1 := hxx.frozen 1
          have hG := PlayG.set hfe2 how2 hxx hb3 hsz1 hfx hcx
          have hGd := PlayG.drew hG
          have hA := hGd.all
          have hgl := hfe2.good
          have HLen := Lib.hid (fun w' (h : PlayG w f c w1.heap.size w1.heap.size L2 cl2 (.slice ad2 L2.length cap2) w') => feed_len h.1)
          have HChu := Lib.hid (fun w' (h : PlayG w f c w1.heap.size w1.heap.size L2 cl2 (.slice ad2 L2.length cap2) w') => feed_chunks h.1)
          have HClo := Lib.hid (fun w' (h : PlayG w f c w1.heap.size w1.heap.size L2 cl2 (.slice ad2 L2.length cap2) w') => feed_closed h.1)
          have HAll := Lib.hid (fun w' (h : PlayG w f c w1.heap.size w1.heap.size L2 cl2 (.slice ad2 L2.length cap2) w') => refAll_any (cl := cl2) h.2.1 hgl.flat (by have := hgl.len; omega))
          clear hfe2 how2 hxx hb3 hr2
          go_wp2
          clear r0 r1 xx0 xx1 xf0 xf1
          go_region_held3 (fun w' => PlayG w f c w1.heap.size w1.heap.size L2 cl2 (.slice ad2 L2.length cap2) w' ∧ w'.cell? ⟨w1.heap.size, 0, none⟩ = some (.slice ad2 L2.length cap2) ∧ w'.cell? ⟨w1.heap.size, 1, none⟩ = some (.bool cl2))
            (first | assumption | exact hA | exact PlayG.all (PlayG.step (And.left (by assumption)) hbA))
            (first
              | (go_at_call 9; refine (HLen.out _ (And.left (by assumption))).mono ?_; rintro e wA ⟨rfl, rfl⟩)
              | (go_at_call 11; refine (HChu.out _ (And.left (by assumption))).mono ?_; rintro e wA ⟨rfl, rfl⟩)
              | (go_at_call 12; refine (HClo.out _ (And.left (by assumption))).mono ?_; rintro e wA ⟨rfl, rfl⟩)
              | (go_at_call 10; refine (HAll.out _ (And.left (by assumption))).mono ?_; rintro e wA ⟨hbA, rfl⟩))
          have hS : PlayG w f c w1.heap.size w1.heap.size L2 cl2 (.slice ad2 L2.length cap2) wA := And.left (by assumption)
          have HS := Lib.hid hS
          clear hS hG hGd hA
          go_wp2
          go_round
          case rel => exact ⟨q + 1, L2, cl2, _, by go_num, by omega, by omega, HS.out.1, HS.out.2.1, HS.out.2.2.1, HS.out.2.2.2⟩
          case measure => simp [intOf]; omega
      · have hs3 : (200 : Int) < s.length := by omega
        go_wp2_with fail
        refine (awake8_any wr).mono ?_
        rintro e w2 ⟨hb2, rfl⟩
        have HE := Lib.hid (HB.out.trans (hb2.mono HB.out.size))
        clear hb2
        go_wp2
        go_ret
        exact ⟨HE.out, rfl⟩
    · by_cases hqn : q < n
      · have hqi : (100 : Int) ≤ q := by omega
        go_wp2_with fail
        refine (awake8_any wr).mono ?_
        rintro e w2 ⟨hb2, rfl⟩
        have HE := Lib.hid (HB.out.trans (hb2.mono HB.out.size))
        clear hb2
        go_wp2
        go_ret
        exact ⟨HE.out, rfl⟩
      · have hqi : (n : Int) ≤ q := by omega
        go_wp2_with fail
        refine (awake8_any wr).mono ?_
        rintro e w2 ⟨hb2, rfl⟩
        have HE := Lib.hid (HB.out.trans (hb2.mono HB.out.size))
        clear hb2
        go_wp2
        go_ret
        exact ⟨HE.out, rfl⟩

theorem walk {w : World} (ad : Option Addr) (n k : Nat) (ho : OpsAt w ad n) (hn : n ≤ 9223372036854775807) :
    Calls Try.prog 3 #[.slice ad n k] w fun e w' => Below w.heap.size w w' ∧ e = .returned (.bool true) := walk0 ad n k w ho hn
end Go.Proofs.Ytmblbmkkeloegaa.feedPlays
