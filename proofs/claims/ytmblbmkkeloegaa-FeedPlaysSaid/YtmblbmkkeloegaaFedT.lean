/-
  Contracts of (*feed.Feed).Take and Some.
-/
import Derived.Test.YtmblbmkkeloegaaFed
import Derived.Test.YtmblbmkkeloegaaBuW
namespace Go.Proofs.Ytmblbmkkeloegaa
open Go.ChangeShapes Go.WideShapes Go.ChangeAt Go.RowKit Go.Conc

theorem BuIs.fkeep {B b f c : Nat} {l : List UInt8} {w w' : World} (h : BuIs B b l w) (hk : FKeep f c w w') (hf : f < B) (hc : c < B) : BuIs B b l w' := by
  have key : ∀ p, Lib.BuilderAtF 54 5 B b p (Lib.byteCells l) w → Lib.BuilderAtF 54 5 B b p (Lib.byteCells l) w' := by
    intro p h
    have hlt := h.lt
    obtain ⟨hB, v, hb, hown, hne⟩ := h
    refine ⟨hB, v, (hk.block b hlt (by omega) (by omega)).trans hb, ?_, hne⟩
    refine ⟨hown.1, hown.2.imp id ?_⟩
    rintro ⟨g, cap, cur, fz, hv, hBg, hg, rest⟩
    have hgl : g < w.heap.size := by
      rcases Nat.lt_or_ge g w.heap.size with h' | h'
      · exact h'
      · rw [Array.getElem?_eq_none h'] at hg; cases hg
    exact ⟨g, cap, cur, fz, hv, hBg, (hk.block g hgl (by omega) (by omega)).trans hg, rest⟩
  exact h.imp (key _) (key _)

section
variable {w : World} {f c : Nat} {M : List (List UInt8)} {n : Nat} {cl : Bool}

theorem take_no (h : FeedL w f c M n cl) (k : Int) (hk : k < 0 ∨ (n : Int) < k) :
    Calls Try.prog 15 #[.pointer (some ⟨f, 0, none⟩), .int .i64 k] w fun e w' => w = w' ∧ e = .returned (.tuple #[strV [], .bool false]) := by
  have c2 := h.c2
  clear h
  by_cases h0 : k < 0
  · clear hk
    go_enter Try.func15, Try.ntmps15
    go_wp2
    go_ret2
    exact ⟨rfl, rfl⟩
  · have h1 : (n : Int) < k := by omega
    clear hk
    go_enter Try.func15, Try.ntmps15
    go_wp2
    go_ret2
    exact ⟨rfl, rfl⟩

set_option maxHeartbeats 2000000 in
set_option maxRecDepth 100000 in
theorem take_any (h : FeedL w f c M n cl) (hF : Full M) (hn : M.flatten.length = n) (hn2 : n ≤ 4294967296) (k : Nat) (hk : k ≤ n) :
    Calls Try.prog 15 #[.pointer (some ⟨f, 0, none⟩), .int .i64 k] w fun e w' =>
      (FeedL w' f c (dropL M k) ((n - k : Nat) : Int) cl ∧ FKeep f c w w') ∧ e = .returned (.tuple #[strV (M.flatten.take k), .bool true]) := by
  have hki : (k : Int) ≤ n := by omega
  have hni : (n : Int) ≤ 4294967296 := by omega
  have hsub : ((n - k : Nat) : Int) = (n : Int) - k := by omega
  have c2 := h.c2
  have f2 := h.1.frozen 2
  have h1 := h.put2 ((n : Int) - k)
  have k1 := (FKeep.refl f c w).setCell 2 (.int .i64 ((n : Int) - k))
  have hsz : (w.setCell ⟨f, 2, none⟩ (.int .i64 ((n : Int) - k))).heap.size = w.heap.size := by simp [World.setCell]
  have hfl := h.flt
  have hcl := h.clt
  rw [hsub]
  obtain ⟨w1, hw1⟩ : ∃ w1, w.setCell ⟨f, 2, none⟩ (.int .i64 ((n : Int) - k)) = w1 := ⟨_, rfl⟩
  rw [hw1] at h1 k1 hsz
  have Hw1 := Lib.hid hw1
  have H1 := Lib.hid h1
  have K1 := Lib.hid k1
  have Hsz := Lib.hid hsz
  have HF := Lib.hid hF
  have Hn := Lib.hid hn
  clear h hw1 h1 k1 hsz hF hn
  go_enter Try.func15, Try.ntmps15
  go_wp2_with fail
  rw [Hw1.out]
  have hgrow := Try.Builder_Grow_fresh w.heap.size w.heap.size k (w1.alloc (.cells #[.pointer none, .slice none 0 0] 54)) (Nat.le_refl _)
    (by have := Holds.new w1 54 [.pointer none, .slice none 0 0]; rw [Hsz.out] at this; exact this) (by rw [World.size_alloc, Hsz.out]; omega) (by omega)
  refine hgrow.mono ?_
  rintro e w2 ⟨rfl, hbu, hb2⟩
  have hbw : Below w.heap.size w1 w2 := ((Below.refl _ w1).alloc (by rw [Hsz.out]; exact Nat.le_refl _) _).trans hb2
  have Hbu := Lib.hid (show BuIs w.heap.size w.heap.size [] w2 from Lib.IsBuilderF.of (.inr hbu))
  have H2 := Lib.hid (H1.out.below hbw hfl hcl)
  have K2 := Lib.hid (K1.out.trans (show FKeep f c w1 w2 from ⟨hbw.os, hbw.tape, hbw.output, hbw.size, fun j hj _ _ => hbw.block j (by rw [← Hsz.out]; exact hj)⟩))
  clear hgrow hbu hb2 hbw
  go_wp2
  go_loopw [1] (fun i wr => ∃ (r : Nat) (M2 : List (List UInt8)) (acc : List UInt8), i = .int .i64 r ∧ FeedL wr f c M2 ((n : Int) - k) cl ∧ Full M2 ∧ r ≤ M2.flatten.length ∧ M2.flatten.length ≤ n ∧ BuIs w.heap.size w.heap.size acc wr ∧
      acc ++ M2.flatten.take r = M.flatten.take k ∧ dropL M2 r = dropL M k ∧ FKeep f c w wr) (fun i _ => (intOf i).toNat)
  case atStart => exact ⟨k, M, [], rfl, H2.out, HF.out, by rw [Hn.out]; exact hk, by rw [Hn.out]; exact Nat.le_refl _, Hbu.out, rfl, rfl, K2.out⟩
  case round =>
    obtain ⟨r, M2, acc, rfl, hfe, hf2, hr, hm, hbu, hacc, hdr, hkp⟩ := hrel
    have HE := Lib.hid hfe
    have HU := Lib.hid hbu
    have HA := Lib.hid hacc
    have HD := Lib.hid hdr
    have HK := Lib.hid hkp
    clear hbu hacc hdr hkp H1 K1 H2 K2 Hbu
    by_cases hr0 : 0 < r
    · obtain ⟨x, M3, rfl⟩ : ∃ x M3, M2 = x :: M3 := by
        cases M2 with
        | nil => simp at hr; omega
        | cons x M3 => exact ⟨x, M3, rfl⟩
      have c0 : wr.cell? ⟨f, 0, none⟩ = some (strV x) := hfe.c0
      have hxn : x.length ≤ n := by rw [List.flatten_cons, List.length_append] at hm; omega
      have hx0 : 0 < x.length := hf2.head
      obtain ⟨j, hj⟩ : ∃ j, min r x.length = j := ⟨_, rfl⟩
      have hjr : j ≤ r := by omega
      have hjx : j ≤ x.length := by omega
      have hj0 : 0 < j := by omega
      have Ht := Lib.hid (take_step x M3 r)
      have Hd := Lib.hid (dropL_step x M3 r)
      have Hf := Lib.hid (stepL_full (x :: M3) hf2 j)
      have Hl := Lib.hid (flat_step x M3 j hjx)
      rw [hj] at Ht Hd
      have hcutl : (x.take j).length = j := by rw [List.length_take]; omega
      have hcut : (x.drop 0).take (j - 0) = x.take j := rfl
      have hal : acc.length ≤ 4294967296 := by
        have h9 := congrArg List.length HA.out
        rw [List.length_append, List.length_take, List.length_take] at h9
        omega
      have Hwr := Lib.hid (fun w' hw' hB => write_any w.heap.size w.heap.size acc (x.take j) w' hw' (by rw [hcutl]; omega) hB)
      have hjm : (min (r : Int) (x.length : Int)).toNat = j := by omega
      clear hfe hj
      generalize hs : x.take j = s at *
      have Hs := Lib.hid hs
      clear hs
      subst hcutl
      have Hmt := Lib.hid (show x.take (min (r : Int) (x.length : Int)).toNat = s by rw [hjm]; exact Hs.out)
      clear hjm hcut
      go_wp2
      go_quiet (fail)
      rw [Hmt.out]
      go_wp2_with fail
      refine (Hwr.out (wr.drewN nq) HU.out HK.out.size).mono ?_
      rintro e w3 ⟨rfl, hbu3, hb3, _⟩
      have h3 : FeedRaw w3 f c x M3 ((n : Int) - k) cl := FeedRaw.below (w := wr.drewN nq) HE.out hb3 hfl hcl
      have hk3 : FKeep f c w w3 := ⟨hb3.os.trans HK.out.os, hb3.tape.trans HK.out.tape, hb3.output.trans HK.out.output, Nat.le_trans HK.out.size hb3.size, fun i hi h1 h2 => (hb3.block i hi).trans (HK.out.block i hi h1 h2)⟩
      have Hdr := Lib.hid (drop_any h3 s.length hjx)
      have Hbu3 := Lib.hid hbu3
      have Hk3 := Lib.hid hk3
      clear h3 hk3 hbu3 hb3
      go_wp2_with fail
      refine Hdr.out.mono ?_
      rintro e w4 ⟨⟨h4, hk4, _⟩, rfl⟩
      have Hend := Lib.hid (And.intro h4 (And.intro (BuIs.fkeep Hbu3.out hk4 hfl hcl) (Hk3.out.trans hk4)))
      clear h4 hk4
      go_wp2
      refine ⟨⟨r - s.length, stepL (x :: M3) s.length, acc ++ s, by go_num, Hend.out.1, Hf.out, ?_, ?_, Hend.out.2.1, ?_, ?_, Hend.out.2.2⟩, ?_⟩
      · have := Hl.out; omega
      · have := Hl.out; omega
      · rw [List.append_assoc, Ht.out]; exact HA.out
      · rw [Hd.out]; exact HD.out
      · simp [intOf]; omega
    · have hr1 : r = 0 := by omega
      subst hr1
      have Hacc := Lib.hid (show acc = M.flatten.take k by have := HA.out; rwa [List.take_zero, List.append_nil] at this)
      have Hm2 := Lib.hid (show M2 = dropL M k by rw [← HD.out, dropL_zero M2 hf2])
      have Hst := Lib.hid (Try.Builder_String_any_f w.heap.size w.heap.size acc wr HU.out HK.out.size)
      clear hfe
      go_wp2_with fail
      refine Hst.out.mono ?_
      rintro e w3 ⟨rfl, _, hb3⟩
      have Hend := Lib.hid (show FeedL w3 f c M2 ((n : Int) - k) cl ∧ FKeep f c w w3 from ⟨HE.out.below hb3 hfl hcl, ⟨hb3.os.trans HK.out.os, hb3.tape.trans HK.out.tape, hb3.output.trans HK.out.output, Nat.le_trans HK.out.size hb3.size, fun i hi h1 h2 => (hb3.block i hi).trans (HK.out.block i hi h1 h2)⟩⟩)
      clear hb3
      go_wp2
      go_ret2
      rw [← Hm2.out, ← Hacc.out]
      exact ⟨Hend.out, rfl⟩

/-- Some: so many at most. -/
theorem some_any (h : FeedL w f c M n cl) (hF : Full M) (hn : M.flatten.length = n) (hn2 : n ≤ 4294967296) (m : Int) (k : Nat) (hk : (k : Int) = max (min m n) 0) :
    Calls Try.prog 14 #[.pointer (some ⟨f, 0, none⟩), .int .i64 m] w fun e w' =>
      (FeedL w' f c (dropL M k) ((n - k : Nat) : Int) cl ∧ FKeep f c w w') ∧ e = .returned (strV (M.flatten.take k)) := by
  have c2 := h.c2
  by_cases h0 : m < 0
  · obtain rfl : k = 0 := by omega
    have Ht := Lib.hid (take_no h (min m n) (.inl (by omega)))
    have Hh := Lib.hid (show FeedL w f c (dropL M 0) ((n - 0 : Nat) : Int) cl by rw [dropL_zero M hF]; exact h)
    clear h hk
    go_enter Try.func14, Try.ntmps14
    go_wp2_with fail
    refine Ht.out.mono ?_
    rintro e w' ⟨rfl, rfl⟩
    go_wp2
    go_ret
    exact ⟨⟨Hh.out, FKeep.refl _ _ _⟩, rfl⟩
  · have hkm : min m n = (k : Int) := by omega
    have Ht := Lib.hid (take_any h hF hn hn2 k (by omega))
    rw [← hkm] at Ht
    generalize (M.flatten.take k) = s at *
    generalize dropL M k = D at *
    clear h hk hn hkm
    go_enter Try.func14, Try.ntmps14
    go_wp2_with fail
    refine Ht.out.mono ?_
    rintro e w1 ⟨⟨h1, h2⟩, rfl⟩
    have Hend := Lib.hid (And.intro h1 h2)
    clear h1 h2
    go_wp2
    go_ret
    exact ⟨Hend.out, rfl⟩
end
end Go.Proofs.Ytmblbmkkeloegaa
