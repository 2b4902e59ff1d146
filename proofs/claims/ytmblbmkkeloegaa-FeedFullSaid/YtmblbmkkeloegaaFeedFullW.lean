/- The walk of the law FeedFull. -/
import Derived.Test.YtmblbmkkeloegaaFedF
import Derived.Deep.CutBlock
import Derived.Deep.DeepCutAuto
namespace Go.Proofs.Ytmblbmkkeloegaa.feedFull
open Go.ChangeShapes Go.WideShapes Go.ChangeAt Go.RowKit Go.Conc

/-- So many chunks of two bytes. -/
def many (m : Nat) : List (List UInt8) := List.replicate m [97, 98]

theorem many_put (m : Nat) : putL (many m) false [97, 98] = if 64 ≤ m then (many m, 8) else (many (m + 1), 0) := by
  unfold putL many
  rw [if_neg (by decide), if_neg (by decide), if_neg (by decide), List.length_replicate]
  by_cases h64 : 64 ≤ m
  · rw [if_pos h64, if_pos h64]
  · rw [if_neg h64, if_neg h64, ← List.replicate_succ']

theorem many_total (m : Nat) : (many m).flatten.length = 2 * m := by
  unfold many
  induction m with
  | zero => rfl
  | succ m ih => rw [List.replicate_succ, List.flatten_cons, List.length_append, ih]; simp; omega
theorem many_full (m : Nat) : Full (many m) := fun x hx => by rw [(List.mem_replicate.1 hx).2]; decide

theorem many_drop (m g : Nat) (hm : 2 ≤ m) (hg : g ≤ 4) : (dropL (many m) g).length = m - g / 2 := by
  obtain ⟨j, rfl⟩ : ∃ j, m = j + 2 := ⟨m - 2, by omega⟩
  have h0 : ∀ j, dropL (many j) 0 = many j := fun j => dropL_zero _ (many_full j)
  have hl : ∀ j, (many j).length = j := fun j => List.length_replicate
  have e : many (j + 2) = [97, 98] :: [97, 98] :: many j := rfl
  rw [e]
  have : g = 0 ∨ g = 1 ∨ g = 2 ∨ g = 3 ∨ g = 4 := by omega
  rcases this with rfl | rfl | rfl | rfl | rfl <;> simp [dropL, h0, hl]

theorem make_bytes (w : World) : ∃ w3, (Instr.makeSlice 36 (.int .i64 65537) (.int .i64 65537)).run Try.prog w = .ok (.slice (some ⟨w.heap.size, 0, none⟩) 65537 65537) w3 ∧ Below w.heap.size w w3 :=
  ⟨_, run_make_bytes (P := Try.prog) 36 5 Try.underlying36 (by kernel_rfl) 65537 (by decide) w, (Below.refl _ _).alloc (Nat.le_refl _) _⟩

set_option maxHeartbeats 4000000 in
set_option maxRecDepth 100000 in
theorem walk (n t : Int) (hn : 0 ≤ n ∧ n ≤ 255) (ht : 0 ≤ t ∧ t ≤ 255) (w : World) :
    Calls Try.prog 5 #[.int .u8 n, .int .u8 t] w fun e w' => Below w.heap.size w w' ∧ e = .returned (.bool true) := by
  obtain ⟨k, hk⟩ : ∃ k : Nat, 60 + n % 10 = (k : Int) := ⟨(60 + n % 10).toNat, by omega⟩
  have hk1 : 60 ≤ k ∧ k ≤ 69 := by omega
  go_enter Try.func5, Try.ntmps5
  go_wp2_with fail
  refine (feed_new w).mono ?_
  rintro e w1 ⟨f, c, ⟨hfe1, hb1, hf, hc⟩, rfl⟩
  have HB1 := Lib.hid hb1
  have HF1 := Lib.hid hfe1
  clear hb1 hfe1
  go_wp2
  go_loopw [22] (fun i wr => ∃ (q : Nat), i = .int .i64 q ∧ q ≤ k ∧ Feed wr f c (many (min q 64)) false ∧ Below w.heap.size w wr) (fun i _ => k - (intOf i).toNat)
  case atStart => exact ⟨0, rfl, Nat.zero_le _, HF1.out, HB1.out⟩
  case round =>
    obtain ⟨q, rfl, hq, hfe, hb⟩ := hrel
    have HF := Lib.hid hfe
    have HB := Lib.hid hb
    clear hfe hb HF1 HB1
    by_cases hqk : q < k
    · have hqk2 : (q : Int) < k := by omega
      obtain ⟨w2, hcv2, hat2, hb2⟩ := lit_at [97, 98] wr
      have HP := Lib.hid (feed_put (HF.out.under hb2) [97, 98] (by decide) (some ⟨wr.heap.size, 0, none⟩) 2 (fun _ => hat2.conv rfl))
      have HB2 := Lib.hid (HB.out.trans (hb2.mono HB.out.size))
      rw [many_put] at HP
      have hcv2 : (convert 36 36 (.slice (some ⟨wr.heap.size, 0, none⟩) 2 2)).run Try.prog (wr.alloc (.cells #[.int .u8 97, .int .u8 98] 5)) = .ok (.slice (some ⟨wr.heap.size, 0, none⟩) 2 2) w2 := hcv2
      clear hat2 hb2 HF
      by_cases hq64 : q < 64
      · rw [if_neg (by omega)] at HP
        have hq64i : (q : Int) < 64 := by omega
        go_wp2_with fail
        refine HP.out.mono ?_
        rintro e w3 ⟨⟨h3, hk3⟩, rfl⟩
        have HE := Lib.hid (show Feed w3 f c (many (min (q + 1) 64)) false ∧ Below w.heap.size w w3 from ⟨by rw [show min (q + 1) 64 = min q 64 + 1 by omega]; exact h3, HB2.out.trans (hk3.below HB2.out.size hf hc)⟩)
        clear h3 hk3 HP
        go_wp2
        go_round
        case rel => exact ⟨q + 1, by go_num, by omega, HE.out.1, HE.out.2⟩
        case measure => simp [intOf]; omega
      · rw [if_pos (by omega)] at HP
        have hq64i : (64 : Int) ≤ q := by omega
        go_wp2_with fail
        refine HP.out.mono ?_
        rintro e w3 ⟨⟨h3, hk3⟩, rfl⟩
        have HE := Lib.hid (show Feed w3 f c (many (min (q + 1) 64)) false ∧ Below w.heap.size w w3 from ⟨by rw [show min (q + 1) 64 = min q 64 by omega]; exact h3, HB2.out.trans (hk3.below HB2.out.size hf hc)⟩)
        clear h3 hk3 HP
        go_wp2
        go_round
        case rel => exact ⟨q + 1, by go_num, by omega, HE.out.1, HE.out.2⟩
        case measure => simp [intOf]; omega
    · obtain rfl : q = k := by omega
      obtain ⟨g, hg⟩ : ∃ g : Nat, t % 5 = (g : Int) := ⟨(t % 5).toNat, by omega⟩
      have hg4 : g ≤ 4 := by omega
      obtain ⟨m, hm⟩ : ∃ m, min q 64 = m := ⟨_, rfl⟩
      have hmi : min (q : Int) 64 = m := by omega
      have hmr : 60 ≤ m ∧ m ≤ 64 := by omega
      rw [hm] at HF
      have hS := feed_some HF.out g g (by rw [many_total]; omega)
      have hstl : ((many m).flatten.take g).length = g := by rw [List.length_take, many_total]; omega
      have hleft := many_drop m g (by omega) hg4
      have HS := Lib.hid hS
      obtain ⟨D, hD⟩ : ∃ D, dropL (many m) g = D := ⟨_, rfl⟩
      obtain ⟨d, hd⟩ : ∃ d, (many m).flatten.take g = d := ⟨_, rfl⟩
      rw [hD, hd] at HS
      rw [hD] at hleft
      rw [hd] at hstl
      obtain ⟨lf, hlf⟩ : ∃ lf, D.length = lf := ⟨_, rfl⟩
      have hlefti : (m : Int) - (g : Int) / 2 = (lf : Nat) := by omega
      clear hS hD hd HF hm hleft
      go_wp2_with fail
      refine HS.out.mono ?_
      rintro e w3 ⟨⟨h3, hk3⟩, rfl⟩
      have H3 := Lib.hid h3
      have HB3 := Lib.hid (HB.out.trans (hk3.below HB.out.size hf hc))
      clear h3 hk3
      go_wp2_with fail
      refine (feed_chunks H3.out).mono ?_
      rintro e w' ⟨rfl, rfl⟩
      have HP0 := Lib.hid (feed_put H3.out [] (by decide) none 0 (fun h => absurd rfl h))
      rw [show putL D false [] = (D, 0) from rfl] at HP0
      go_wp2_with fail
      refine HP0.out.mono ?_
      rintro e w3b ⟨⟨h3, hk3⟩, rfl⟩
      have H3b := Lib.hid h3
      have HB3b := Lib.hid (HB3.out.trans (hk3.below HB3.out.size hf hc))
      obtain ⟨w4, hcv4, hat4, hb4⟩ := lit_at [99] w3b
      have HP4 := Lib.hid (feed_put (h3.under hb4) [99] (by decide) (some ⟨w3b.heap.size, 0, none⟩) 1 (fun _ => hat4.conv rfl))
      have HB4 := Lib.hid (HB3b.out.trans (hb4.mono HB3b.out.size))
      have hcv4 : (convert 36 36 (.slice (some ⟨w3b.heap.size, 0, none⟩) 1 1)).run Try.prog (w3b.alloc (.cells #[.int .u8 99] 5)) = .ok (.slice (some ⟨w3b.heap.size, 0, none⟩) 1 1) w4 := hcv4
      have hput : putL D false [99] = if 64 ≤ D.length then (D, 8) else (D ++ [[99]], 0) := by
        unfold putL
        rw [if_neg (by decide), if_neg (by decide), if_neg (by decide)]
      rw [hput] at HP4
      clear h3 hk3 hat4 hb4 HP0 H3 hput
      by_cases h64 : 64 ≤ D.length
      · rw [if_pos h64] at HP4
        have h64i : (64 : Int) ≤ (lf : Nat) := by omega
        go_wp2_with fail
        refine HP4.out.mono ?_
        rintro e w5 ⟨⟨_, hk5⟩, rfl⟩
        have HB5 := Lib.hid (HB4.out.trans (hk5.below HB4.out.size hf hc))
        obtain ⟨w6, hmk, hb6⟩ := make_bytes w5
        have HB6 := Lib.hid (HB5.out.trans (hb6.mono HB5.out.size))
        have HPl := Lib.hid (put_long (w := w6) (f := f) (p := some ⟨w5.heap.size, 0, none⟩) (cap := 65537) 65537 (by decide) (by decide))
        clear hk5 hb6
        go_wp2_with fail
        refine HPl.out.mono ?_
        rintro e w' ⟨rfl, rfl⟩
        go_wp2_with fail
        refine (awake8_any w6).mono ?_
        rintro e w7 ⟨hb7, rfl⟩
        have HB7 := Lib.hid (HB6.out.trans (hb7.mono HB6.out.size))
        clear hb7
        go_wp2
        go_ret
        refine ⟨HB7.out, ?_⟩
        show Ending.returned (.bool (!decide ((lf : Int) < 64))) = _
        exact ret_bool (by simp; omega)
      · rw [if_neg h64] at HP4
        have h64i : ((lf : Nat) : Int) < 64 := by omega
        go_wp2_with fail
        refine HP4.out.mono ?_
        rintro e w5 ⟨⟨_, hk5⟩, rfl⟩
        have HB5 := Lib.hid (HB4.out.trans (hk5.below HB4.out.size hf hc))
        obtain ⟨w6, hmk, hb6⟩ := make_bytes w5
        have HB6 := Lib.hid (HB5.out.trans (hb6.mono HB5.out.size))
        have HPl := Lib.hid (put_long (w := w6) (f := f) (p := some ⟨w5.heap.size, 0, none⟩) (cap := 65537) 65537 (by decide) (by decide))
        clear hk5 hb6
        go_wp2_with fail
        refine HPl.out.mono ?_
        rintro e w' ⟨rfl, rfl⟩
        go_wp2_with fail
        refine (awake8_any w6).mono ?_
        rintro e w7 ⟨hb7, rfl⟩
        have HB7 := Lib.hid (HB6.out.trans (hb7.mono HB6.out.size))
        clear hb7
        go_wp2
        go_ret
        exact ⟨HB7.out, rfl⟩
end Go.Proofs.Ytmblbmkkeloegaa.feedFull
