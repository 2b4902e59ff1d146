/-
  A feed as a list of chunks: contracts of all its calls, and the law's example.
-/
import Derived.Test.YtmblbmkkeloegaaFedU
import Derived.Test.YtmblbmkkeloegaaFedT
import Derived.Test.YtmblbmkkeloegaaByA
namespace Go.Proofs.Ytmblbmkkeloegaa
open Go.ChangeShapes Go.WideShapes Go.ChangeAt Go.RowKit Go.Conc

/-- Chunks that may wait. -/
structure GoodL (M : List (List UInt8)) : Prop where
  full : Full M
  len : M.length ≤ 64
  each : ∀ x ∈ M, x.length ≤ 65536

theorem each_total (M : List (List UInt8)) (h : ∀ x ∈ M, x.length ≤ 65536) : M.flatten.length ≤ 65536 * M.length := by
  induction M with
  | nil => simp
  | cons x M ih =>
    have h1 := h x List.mem_cons_self
    have h2 := ih (fun y hy => h y (List.mem_cons_of_mem _ hy))
    rw [List.flatten_cons, List.length_append, List.length_cons]
    omega
theorem GoodL.total {M : List (List UInt8)} (h : GoodL M) : M.flatten.length ≤ 4194304 := by
  have := each_total M h.each
  have := h.len
  omega
theorem GoodL.nil : GoodL [] := ⟨Full.nil, by simp, fun _ h => by cases h⟩
theorem dropL_each (M : List (List UInt8)) (h : ∀ x ∈ M, x.length ≤ 65536) : ∀ n, ∀ x ∈ dropL M n, x.length ≤ 65536 := by
  induction M with
  | nil => intro n x hx; simp [dropL] at hx
  | cons c M ih =>
    have ih2 := ih (fun y hy => h y (List.mem_cons_of_mem _ hy))
    intro n x hx
    rw [dropL] at hx
    split at hx
    · rcases List.mem_cons.1 hx with rfl | hx
      · have := h c List.mem_cons_self
        rw [List.length_drop]; omega
      · exact ih2 _ x hx
    · exact ih2 _ x hx
theorem GoodL.drop {M : List (List UInt8)} (h : GoodL M) (n : Nat) : GoodL (dropL M n) :=
  ⟨dropL_full M h.full n, Nat.le_trans (dropL_length M n) h.len, dropL_each M h.each n⟩
theorem GoodL.snoc {M : List (List UInt8)} (h : GoodL M) {b : List UInt8} (h0 : 0 < b.length) (h1 : b.length ≤ 65536) (h2 : M.length < 64) : GoodL (M ++ [b]) :=
  ⟨h.full.append (Full.cons h0 Full.nil), by rw [List.length_append]; simp; omega, fun x hx => by
    rcases List.mem_append.1 hx with hx | hx
    · exact h.each x hx
    · rw [List.mem_singleton.1 hx]; exact h1⟩

/-- What a put makes of chunks that wait: they, and an error's number. -/
def putL (M : List (List UInt8)) (cl : Bool) (b : List UInt8) : List (List UInt8) × Int :=
  if 65536 < b.length then (M, 12) else if cl = true then (M, 10) else if b = [] then (M, 0) else if 64 ≤ M.length then (M, 8) else (M ++ [b], 0)

/-- A feed on which these chunks wait. -/
structure Feed (w : World) (f c : Nat) (M : List (List UInt8)) (cl : Bool) : Prop where
  raw : FeedL w f c M (M.flatten.length : Nat) cl
  good : GoodL M

section
variable {w : World} {f c : Nat} {M : List (List UInt8)} {cl : Bool}

theorem Feed.flt (h : Feed w f c M cl) : f < w.heap.size := h.raw.flt
theorem Feed.clt (h : Feed w f c M cl) : c < w.heap.size := h.raw.clt
theorem Feed.below {B : Nat} {w' : World} (h : Feed w f c M cl) (hb : Below B w w') (hf : f < B) (hc : c < B) : Feed w' f c M cl := ⟨FeedRaw.below h.raw hb hf hc, h.good⟩
theorem Feed.under {w' : World} (h : Feed w f c M cl) (hb : Below w.heap.size w w') : Feed w' f c M cl := ⟨FeedRaw.under h.raw hb, h.good⟩

theorem feed_new (w : World) :
    Calls Try.prog 6 #[] w fun e w' => ∃ f c, (Feed w' f c [] false ∧ Below w.heap.size w w' ∧ w.heap.size ≤ f ∧ w.heap.size ≤ c) ∧ e = .returned (.pointer (some ⟨f, 0, none⟩)) :=
  (new_any w).mono fun _ _ ⟨f, c, ⟨h1, h2⟩, he⟩ => ⟨f, c, ⟨⟨h1, GoodL.nil⟩, h2⟩, he⟩

theorem feed_put (h : Feed w f c M cl) (b : List UInt8) (hb : b.length ≤ 9223372036854775807) (p : Option Addr) (cap : Nat)
    (hcv : b ≠ [] → (convert 36 9 (.slice p b.length cap)).run Try.prog w = .ok (strV b) w) :
    Calls Try.prog 13 #[.pointer (some ⟨f, 0, none⟩), .slice p b.length cap] w fun e w' => (Feed w' f c (putL M cl b).1 cl ∧ FKeep f c w w') ∧ e = .returned (.int .i64 (putL M cl b).2) := by
  unfold putL
  by_cases h1 : 65536 < b.length
  · rw [if_pos h1]
    exact (put_long b.length h1 hb).mono fun e w' ⟨hw, he⟩ => ⟨hw ▸ ⟨h, FKeep.refl _ _ _⟩, he⟩
  · rw [if_neg h1]
    cases cl
    · rw [if_neg (by decide)]
      by_cases h2 : b = []
      · rw [if_pos h2]
        subst h2
        exact (put_empty h.raw).mono fun e w' ⟨hw, he⟩ => ⟨hw ▸ ⟨h, FKeep.refl _ _ _⟩, he⟩
      · rw [if_neg h2]
        have hb0 : 0 < b.length := List.length_pos_iff.2 h2
        by_cases h3 : 64 ≤ M.length
        · rw [if_pos h3]
          exact (put_full h.raw b (by omega) hb0 h3 (hcv h2)).mono fun e w' ⟨hw, he⟩ => ⟨hw ▸ ⟨h, FKeep.refl _ _ _⟩, he⟩
        · rw [if_neg h3]
          have ht := h.good.total
          refine (put_room h.raw h.good.full b (by omega) hb0 (by omega) (by omega) (by omega) (hcv h2)).mono fun e w' ⟨⟨h4, h5⟩, he⟩ => ⟨⟨⟨?_, h.good.snoc hb0 (by omega) (by omega)⟩, h5⟩, he⟩
          have e1 : (((M ++ [b]).flatten.length : Nat) : Int) = (M.flatten.length : Nat) + b.length := by simp
          rw [e1]
          exact h4
    · rw [if_pos rfl]
      exact (put_closed h.raw b.length (by omega)).mono fun e w' ⟨hw, he⟩ => ⟨hw ▸ ⟨h, FKeep.refl _ _ _⟩, he⟩

theorem feed_len (h : Feed w f c M cl) : Calls Try.prog 9 #[.pointer (some ⟨f, 0, none⟩)] w fun e w' => w = w' ∧ e = .returned (.int .i64 (M.flatten.length : Nat)) := len_any h.raw
theorem feed_closed (h : Feed w f c M cl) : Calls Try.prog 12 #[.pointer (some ⟨f, 0, none⟩)] w fun e w' => w = w' ∧ e = .returned (.bool cl) := closed_any h.raw
theorem feed_chunks (h : Feed w f c M cl) : Calls Try.prog 11 #[.pointer (some ⟨f, 0, none⟩)] w fun e w' => w = w' ∧ e = .returned (.int .i64 M.length) := chunks_any h.raw h.good.full h.good.len
theorem feed_close (h : Feed w f c M cl) : Calls Try.prog 18 #[.pointer (some ⟨f, 0, none⟩)] w fun e w' => (Feed w' f c M true ∧ FKeep f c w w') ∧ e = .returned (.int .i64 (if cl then 10 else 0)) :=
  (close_any h.raw).mono fun _ _ ⟨⟨h1, h2⟩, he⟩ => ⟨⟨⟨h1, h.good⟩, h2⟩, he⟩

theorem feed_take_no (h : Feed w f c M cl) (k : Int) (hk : k < 0 ∨ ((M.flatten.length : Nat) : Int) < k) :
    Calls Try.prog 15 #[.pointer (some ⟨f, 0, none⟩), .int .i64 k] w fun e w' => w = w' ∧ e = .returned (.tuple #[strV [], .bool false]) := take_no h.raw k hk
theorem feed_drop_len (M : List (List UInt8)) (k : Nat) : (dropL M k).flatten.length = M.flatten.length - k := by rw [dropL_flat, List.length_drop]
theorem feed_take (h : Feed w f c M cl) (k : Nat) (hk : k ≤ M.flatten.length) :
    Calls Try.prog 15 #[.pointer (some ⟨f, 0, none⟩), .int .i64 k] w fun e w' => (Feed w' f c (dropL M k) cl ∧ FKeep f c w w') ∧ e = .returned (.tuple #[strV (M.flatten.take k), .bool true]) :=
  (take_any h.raw h.good.full rfl (by have := h.good.total; omega) k hk).mono fun _ _ ⟨⟨h1, h2⟩, he⟩ => ⟨⟨⟨by rw [feed_drop_len]; exact h1, h.good.drop k⟩, h2⟩, he⟩
theorem feed_some (h : Feed w f c M cl) (m : Int) (k : Nat) (hk : (k : Int) = max (min m (M.flatten.length : Nat)) 0) :
    Calls Try.prog 14 #[.pointer (some ⟨f, 0, none⟩), .int .i64 m] w fun e w' => (Feed w' f c (dropL M k) cl ∧ FKeep f c w w') ∧ e = .returned (strV (M.flatten.take k)) :=
  (some_any h.raw h.good.full rfl (by have := h.good.total; omega) m k hk).mono fun _ _ ⟨⟨h1, h2⟩, he⟩ => ⟨⟨⟨by rw [feed_drop_len]; exact h1, h.good.drop k⟩, h2⟩, he⟩
end

set_option maxRecDepth 100000 in
set_option maxHeartbeats 1000000 in
theorem awake8_any (w : World) :
    Calls Try.prog 7 #[] w fun e w' => Below w.heap.size w w' ∧ e = .returned (.bool true) := by
  go_enter Try.func7, Try.ntmps7
  go_wp2_with fail
  refine (feed_new w).mono ?_
  rintro e w1 ⟨f, c, ⟨h1, hb1, hf, hc⟩, rfl⟩
  obtain ⟨w2, hcv2, hat2, hb2⟩ := lit_at [97, 98] w1
  have HP := Lib.hid (feed_put (h1.under hb2) [97, 98] (by decide) (some ⟨w1.heap.size, 0, none⟩) 2 (fun _ => hat2.conv rfl))
  have HB := Lib.hid (hb1.trans (hb2.mono hb1.size))
  rw [show putL [] false [97, 98] = ([[97, 98]], 0) from by decide] at HP
  have hcv2 : (convert 36 36 (.slice (some ⟨w1.heap.size, 0, none⟩) 2 2)).run Try.prog (w1.alloc (.cells #[.int .u8 97, .int .u8 98] 5)) = .ok (.slice (some ⟨w1.heap.size, 0, none⟩) 2 2) w2 := hcv2
  clear h1 hb1 hat2 hb2
  go_wp2_with fail
  refine HP.out.mono ?_
  rintro e w3 ⟨⟨h3, hk3⟩, rfl⟩
  obtain ⟨w4, hcv4, hat4, hb4⟩ := lit_at [99] w3
  have HP4 := Lib.hid (feed_put (h3.under hb4) [99] (by decide) (some ⟨w3.heap.size, 0, none⟩) 1 (fun _ => hat4.conv rfl))
  have HB4 := Lib.hid ((HB.out.trans (hk3.below HB.out.size hf hc)).trans (hb4.mono (Nat.le_trans HB.out.size hk3.size)))
  rw [show putL [[97, 98]] false [99] = ([[97, 98], [99]], 0) from by decide] at HP4
  have hcv4 : (convert 36 36 (.slice (some ⟨w3.heap.size, 0, none⟩) 1 1)).run Try.prog (w3.alloc (.cells #[.int .u8 99] 5)) = .ok (.slice (some ⟨w3.heap.size, 0, none⟩) 1 1) w4 := hcv4
  clear h3 hk3 hat4 hb4 hcv2 HP HB
  go_wp2_with fail
  refine HP4.out.mono ?_
  rintro e w5 ⟨⟨h5, hk5⟩, rfl⟩
  have HB5 := Lib.hid (HB4.out.trans (hk5.below HB4.out.size hf hc))
  have H5 := Lib.hid h5
  clear hk5 HP4 HB4 hcv4 h5
  go_wp2_with fail
  refine (feed_len H5.out).mono ?_
  rintro e w' ⟨rfl, rfl⟩
  have Ht := Lib.hid (feed_take H5.out 2 (by decide))
  have e1 : dropL [[97, 98], [99]] 2 = [[(99 : UInt8)]] := by decide
  have e2 : ([[97, 98], [99]] : List (List UInt8)).flatten.take 2 = [97, 98] := by decide
  rw [e1, e2] at Ht
  clear e1 e2
  go_wp2_with fail
  refine Ht.out.mono ?_
  rintro e w6 ⟨⟨h6, hk6⟩, rfl⟩
  have HB6 := Lib.hid (HB5.out.trans (hk6.below HB5.out.size hf hc))
  have Hn := Lib.hid (feed_take_no h6 2 (.inr (by decide)))
  have H6 := Lib.hid h6
  clear h6 hk6 Ht HB5
  go_wp2_with fail
  refine Hn.out.mono ?_
  rintro e w' ⟨rfl, rfl⟩
  have Hs := Lib.hid (feed_some H6.out 9 1 (by decide))
  have e1 : dropL [[(99 : UInt8)]] 1 = [] := by decide
  have e2 : ([[99]] : List (List UInt8)).flatten.take 1 = [99] := by decide
  rw [e1, e2] at Hs
  clear e1 e2 Hn
  go_wp2_with fail
  refine Hs.out.mono ?_
  rintro e w7 ⟨⟨_, hk7⟩, rfl⟩
  have HB7 := Lib.hid (HB6.out.trans (hk7.below HB6.out.size hf hc))
  clear hk7
  go_wp2
  go_ret
  exact ⟨HB7.out, rfl⟩
end Go.Proofs.Ytmblbmkkeloegaa
