/-
  Contract of the law's step: one call of a feed and of the document's answer for it.
-/
import Derived.Test.YtmblbmkkeloegaaFedD
import Derived.Deep.RegionHeld3
import Derived.Deep.RegionWith
namespace Go.Proofs.Ytmblbmkkeloegaa
open Go.ChangeShapes Go.WideShapes Go.ChangeAt Go.RowKit Go.Conc

theorem refPut_any {w : World} {B : Nat} {v : Value} {L : List (List UInt8)} {cl : Bool} (h : OwnS w B v L) (hB : B ≤ w.heap.size) (b : List UInt8) (hb : b.length ≤ maxLen) (hn : L.length ≤ 64) :
    Calls Try.prog 16 #[.agg #[v, .bool cl], .string ⟨b.toArray⟩] w fun e w' => Below w.heap.size w w' ∧ ∃ v', OwnS w' B v' (putL L cl b).1 ∧ e = .returned (.tuple #[.agg #[v', .bool cl], .int .i64 (putL L cl b).2]) := by
  by_cases hne : 65536 < b.length ∨ cl = true ∨ b = [] ∨ 64 ≤ L.length
  · refine (refPut_same h b hb hn hne).mono fun e w' ⟨h1, h2⟩ => ⟨h1, v, ?_, h2⟩
    have hq : (putL L cl b).1 = L := by
      unfold putL
      by_cases h1 : 65536 < b.length
      · rw [if_pos h1]
      · rw [if_neg h1]
        by_cases h2 : cl = true
        · rw [if_pos h2]
        · rw [if_neg h2]
          by_cases h3 : b = []
          · rw [if_pos h3]
          · rw [if_neg h3, if_pos (by simp [h1, h2, h3] at hne; exact hne)]
    rw [hq]
    exact h.step h1
  · have h1 : ¬ 65536 < b.length := fun h => hne (.inl h)
    have h2 : cl = false := by cases cl; rfl; exact absurd (.inr (.inl rfl)) hne
    have h3 : b ≠ [] := fun h => hne (.inr (.inr (.inl h)))
    have h4 : ¬ 64 ≤ L.length := fun h => hne (.inr (.inr (.inr h)))
    subst h2
    have hq : putL L false b = (L ++ [b], 0) := by unfold putL; rw [if_neg h1, if_neg (by decide), if_neg h3, if_neg h4]
    rw [hq]
    exact refPut_more h hB b (by omega) (by omega) h3

/-- What a cell holds. -/
def cellW (w : World) (p : Addr) : Value := (w.cell? p).getD undef

/-- The three boxes of a step: two that are read, and the result's. -/
def Boxes (w : World) (a b r : Nat) (x0 x1 y0 y1 y2 : Value) : Prop :=
  Holds w a 27 [x0, x1] ∧ Holds w b 29 [y0, y1, y2] ∧ ∃ z0 z1, Holds w r 27 [z0, z1]

section
variable {w w' : World} {a b r : Nat} {x0 x1 y0 y1 y2 : Value}
theorem Boxes.below (h : Boxes w a b r x0 x1 y0 y1 y2) (hb : Below w.heap.size w w') : Boxes w' a b r x0 x1 y0 y1 y2 :=
  ⟨h.1.under hb h.1.lt, h.2.1.under hb h.2.1.lt, h.2.2.imp fun _ h2 => h2.imp fun _ h2 => h2.under hb h2.lt⟩
theorem Boxes.fkeep {f c : Nat} (h : Boxes w a b r x0 x1 y0 y1 y2) (hk : FKeep f c w w') (hf : f < a ∧ f < b ∧ f < r) (hc : c < a ∧ c < b ∧ c < r) : Boxes w' a b r x0 x1 y0 y1 y2 :=
  ⟨hk.holds h.1 (by omega) (by omega), hk.holds h.2.1 (by omega) (by omega), h.2.2.imp fun _ h2 => h2.imp fun _ h2 => hk.holds h2 (by omega) (by omega)⟩
theorem Boxes.put0 (h : Boxes w a b r x0 x1 y0 y1 y2) (ha : a ≠ r) (hb : b ≠ r) (u : Value) : Boxes (w.setCell ⟨r, 0, none⟩ u) a b r x0 x1 y0 y1 y2 :=
  ⟨h.1.other ha _, h.2.1.other hb _, by obtain ⟨z0, z1, hz⟩ := h.2.2; exact ⟨u, z1, by simpa using hz.put 0 u⟩⟩
theorem Boxes.put1 (h : Boxes w a b r x0 x1 y0 y1 y2) (ha : a ≠ r) (hb : b ≠ r) (u : Value) : Boxes (w.setCell ⟨r, 1, none⟩ u) a b r x0 x1 y0 y1 y2 :=
  ⟨h.1.other ha _, h.2.1.other hb _, by obtain ⟨z0, z1, hz⟩ := h.2.2; exact ⟨z0, u, by simpa using hz.put 1 u⟩⟩
theorem Boxes.putA (h : Boxes w a b r x0 x1 y0 y1 y2) (ha : a ≠ r) (hb : a ≠ b) (u : Value) : Boxes (w.setCell ⟨a, 1, none⟩ u) a b r x0 u y0 y1 y2 :=
  ⟨by simpa using h.1.put 1 u, h.2.1.other (fun e => hb e.symm) _, h.2.2.imp fun _ h2 => h2.imp fun _ h2 => h2.other (fun e => ha e.symm) _⟩
theorem Boxes.all (h : Boxes w a b r x0 x1 y0 y1 y2) :
    Boxes w a b r x0 x1 y0 y1 y2 ∧ w.cell? ⟨a, 0, none⟩ = some x0 ∧ w.cell? ⟨a, 1, none⟩ = some x1 ∧ w.cell? ⟨b, 0, none⟩ = some y0 ∧ w.cell? ⟨b, 1, none⟩ = some y1 ∧ w.cell? ⟨b, 2, none⟩ = some y2 ∧
      w.cell? ⟨r, 0, none⟩ = some (cellW w ⟨r, 0, none⟩) ∧ w.cell? ⟨r, 1, none⟩ = some (cellW w ⟨r, 1, none⟩) ∧ w.frozen? ⟨r, 0, none⟩ = false ∧ w.frozen? ⟨r, 1, none⟩ = false := by
  have hh := h
  obtain ⟨h1, h2, z0, z1, h3⟩ := h
  have q0 := h3.cell (i := 0) (by simp)
  have q1 := h3.cell (i := 1) (by simp)
  exact ⟨hh, h1.cell (i := 0) (by simp), h1.cell (i := 1) (by simp), h2.cell (i := 0) (by simp), h2.cell (i := 1) (by simp), h2.cell (i := 2) (by simp), by unfold cellW; rw [q0]; rfl, by unfold cellW; rw [q1]; rfl, h3.frozen 0, h3.frozen 1⟩
theorem Boxes.res (h : Boxes w a b r x0 x1 y0 y1 y2) (u v : Value) : Holds ((w.setCell ⟨r, 0, none⟩ u).setCell ⟨r, 1, none⟩ v) r 27 [u, v] := by
  obtain ⟨z0, z1, h3⟩ := h.2.2
  have := (h3.put 0 u).put 1 v
  simpa using this
end

section
variable {w : World} {B f c : Nat} {v : Value} {L : List (List UInt8)} {cl : Bool}

/-- What one step leaves. -/
def OnePost (w : World) (B f c : Nat) (e : Ending) (w' : World) : Prop :=
  ∃ (L' : List (List UInt8)) (cl' : Bool) (v' : Value), (Feed w' f c L' cl' ∧ OwnS w' B v' L' ∧ FKeep f c w w') ∧ e = .returned (.tuple #[.agg #[v', .bool cl'], .bool true])

theorem Feed.other (h : Feed w f c L cl) {r i : Nat} (hf : f ≠ r) (hc : c ≠ r) (u : Value) : Feed (w.setCell ⟨r, i, none⟩ u) f c L cl :=
  ⟨⟨h.raw.1.other hf _, h.raw.2.imp fun _ h2 => h2.imp fun _ h2 => (Below.heap_setCell w ⟨r, i, none⟩ _ c hc).trans h2⟩, h.good⟩
theorem OwnS.other (h : OwnS w B v L) {r i : Nat} {cs : List Value} (hr : Holds w r 27 cs) (u : Value) : OwnS (w.setCell ⟨r, i, none⟩ u) B v L := by
  refine World.ownsRow.kept (row := some r) h ⟨rfl, rfl, rfl, by simp [World.setCell], fun j _ hk => Below.heap_setCell _ _ _ _ (fun e => hk (by simp [e]))⟩ (.inr ?_)
  rcases h.2 with ⟨rfl, _⟩ | ⟨g, cap, cur, rfl, _, hg, _⟩
  · simp [Value.ownBlock]
  · intro e
    have e2 : g = r := by simpa [Value.ownBlock] using e
    subst e2
    unfold Holds at hr
    rw [hr] at hg
    cases hg
theorem FKeep.set {w w' : World} {f c : Nat} (h : FKeep f c w w') {r i : Nat} (hr : w.heap.size ≤ r) (u : Value) : FKeep f c w (w'.setCell ⟨r, i, none⟩ u) :=
  ⟨h.os, h.tape, h.output, by simpa [World.setCell] using h.size, fun k hk hf hc => (Below.heap_setCell w' ⟨r, i, none⟩ u k (show k ≠ r by omega)).trans (h.block k hk hf hc)⟩

/-- The end of a step: the state and the answer are told. -/
theorem one_end {w7 : World} {b r : Nat} {q0 x0 y0 y1 y2 : Value} {a : Nat} {L1 : List (List UInt8)} {cl1 : Bool} {v1 : Value} (h7 : Feed w7 f c L1 cl1) (ho : OwnS w7 B v1 L1) (hk : FKeep f c w w7) (hx : Boxes w7 a b r q0 x0 y0 y1 y2) (hf : f < r) (hc : c < r) (hr : w.heap.size ≤ r) :
    Holds ((w7.setCell ⟨r, 0, none⟩ v1).setCell ⟨r, 1, none⟩ (.bool cl1)) r 27 [v1, .bool cl1] ∧ OnePost w B f c (.returned (.tuple #[.agg #[v1, .bool cl1], .bool true])) ((w7.setCell ⟨r, 0, none⟩ v1).setCell ⟨r, 1, none⟩ (.bool cl1)) := by
  obtain ⟨z0, z1, hz⟩ := hx.2.2
  refine ⟨hx.res v1 (.bool cl1), L1, cl1, v1, ⟨(h7.other (by omega) (by omega) _).other (by omega) (by omega) _, (ho.other hz _).other (hz.put 0 v1) _, (hk.set hr _).set hr _⟩, rfl⟩

theorem three_boxes (w : World) (x0 x1 y0 y1 y2 : Value) :
    ∃ w3, ((w.alloc (.cells #[x0, x1] 27)).alloc (.cells #[y0, y1, y2] 29)).alloc (.cells #[.slice none 0 0, .bool false] 27) = w3 ∧
      Boxes w3 w.heap.size (w.heap.size + 1) (w.heap.size + 1 + 1) x0 x1 y0 y1 y2 ∧ Below w.heap.size w w3 := by
  refine ⟨_, rfl, ⟨?_, ?_, .slice none 0 0, .bool false, ?_⟩, (((Below.refl _ w).alloc (Nat.le_refl _) _).alloc (by simp) _).alloc (by simp; omega) _⟩
  · exact ((Holds.new w _ [x0, x1]).behind _).behind _
  · have h := Holds.new (w.alloc (.cells #[x0, x1] 27)) 29 [y0, y1, y2]
    rw [World.size_alloc] at h
    exact h.behind _
  · have h := Holds.new ((w.alloc (.cells #[x0, x1] 27)).alloc (.cells #[y0, y1, y2] 29)) 27 [.slice none 0 0, .bool false]
    rw [World.size_alloc, World.size_alloc] at h
    exact h

set_option maxHeartbeats 2000000 in
set_option maxRecDepth 100000 in
theorem one_put (h : Feed w f c L cl) (ho : OwnS w B v L) (hB : B ≤ w.heap.size) (hf : f < B) (hc : c < B) (n : Int) (s : List UInt8) (hs : s.length ≤ 200) :
    Calls Try.prog 8 #[.pointer (some ⟨f, 0, none⟩), .agg #[v, .bool cl], .agg #[.int .i64 1, .int .i64 n, .string ⟨s.toArray⟩]] w (OnePost w B f c) := by
  obtain ⟨ad, cap, rfl⟩ := ho.form
  have hw3 := three_boxes w (.slice ad L.length cap) (.bool cl) (.int .i64 1) (.int .i64 n) (strV s)
  obtain ⟨w3, hw3, hx3, hb3⟩ := hw3
  obtain ⟨_, p0, p1, p2, p3, p4, p5, p6, p7, p8⟩ := hx3.all
  have HR := Lib.hid (refPut_any (cl := cl) (ho.step hb3) (Nat.le_trans hB hb3.size) s (by unfold maxLen; omega) h.good.len)
  obtain ⟨L1, e1, hq⟩ : ∃ L1 e1, putL L cl s = (L1, e1) := ⟨_, _, rfl⟩
  rw [hq] at HR
  go_enter Try.func8, Try.ntmps8
  go_wp2_with fail
  refine HR.out.mono ?_
  rintro e w4 ⟨hb4, v1, hown, rfl⟩
  obtain ⟨ad1, cap1, rfl⟩ := hown.form
  have hx4 := hx3.below hb4
  have hsz4 : w.heap.size + 3 ≤ w4.heap.size := by have := hb4.size; have := hx3.2.2; obtain ⟨_, _, hz⟩ := this; have := hz.lt; omega
  have h8 := Holds.new w4 27 [.slice ad1 L1.length cap1, .bool cl]
  have hb5 : Below w4.heap.size w4 (w4.alloc (.cells #[.slice ad1 L1.length cap1, .bool cl] 27)).drew := Below.drew ((Below.refl _ w4).alloc (Nat.le_refl _) _)
  have hfe5 := h.under (hb3.trans (hb4.mono hb3.size) |>.trans (hb5.mono (by omega)))
  have hx5 : Boxes (w4.alloc (.cells #[.slice ad1 L1.length cap1, .bool cl] 27)).drew w4.heap.size (w.heap.size + 1) (w.heap.size + 1 + 1) (.slice ad1 L1.length cap1) (.bool cl) (.int .i64 1) (.int .i64 n) (strV s) :=
    ⟨h8, hx4.2.1.under hb5 (by omega), hx4.2.2.imp fun _ h2 => h2.imp fun _ h2 => h2.under hb5 (by omega)⟩
  obtain ⟨cap6, w6, hcv, _, hat, hb6⟩ := bytes_at s (w4.alloc (.cells #[.slice ad1 L1.length cap1, .bool cl] 27)).drew
  have hsz5 : (w4.alloc (.cells #[.slice ad1 L1.length cap1, .bool cl] 27)).drew.heap.size = w4.heap.size + 1 := by show (w4.alloc _).heap.size = _; rw [World.size_alloc]
  have hx6 := hx5.below hb6
  have hfe6 := hfe5.under hb6
  have HP := Lib.hid (feed_put hfe6 s (by omega) _ cap6 (fun _ => hat.conv rfl))
  rw [hq, hsz5] at HP
  rw [hsz5] at hcv
  have Ho6 := Lib.hid ((hown.step hb5).step hb6)
  have Hb6 := Lib.hid (((hb3.trans (hb4.mono hb3.size)).trans (hb5.mono (by omega))).trans (hb6.mono (by have := hb5.size; omega)))
  have A5 := hx5.all
  have A6 := hx6.all
  have hsz6 : w4.heap.size ≤ w6.heap.size := Nat.le_trans hb5.size hb6.size
  clear hsz5 hfe5 hfe6 hat h8 hx4 hx3 hown hb4 hb3 hw3 HR hq p0 p1 p2 p3 p4 p5 p6 p7 p8
  have hfw : f < w4.heap.size ∧ f < w.heap.size + 1 ∧ f < w.heap.size + 1 + 1 := by omega
  have hcw : c < w4.heap.size ∧ c < w.heap.size + 1 ∧ c < w.heap.size + 1 + 1 := by omega
  have hn1 : w4.heap.size ≠ w.heap.size + 1 + 1 := by omega
  have hn2 : w.heap.size + 1 ≠ w.heap.size + 1 + 1 := by omega
  go_wp2
  obtain ⟨_, p0, p1, p2, p3, p4, p5, p6, p7, p8⟩ := A5
  obtain ⟨_, q0, q1, q2, q3, q4, q5, q6, q7, q8⟩ := A6
  go_region_with (go_at_call 13; refine HP.out.mono ?_; rintro e w7 ⟨⟨h7, hk7⟩, rfl⟩; obtain ⟨hx7, r0, r1, r2, r3, r4, r5, r6, r7, r8⟩ := (hx6.fkeep hk7 hfw hcw).all)
  all_goals
    have Hend := Lib.hid (one_end (B := B) h7 (Ho6.out.fkeep hk7 hf hc) ((FKeep.of_below Hb6.out).trans hk7) hx7 hfw.2.2 hcw.2.2 (by omega))
    clear hx7 h7 hk7 hx5 hx6 p0 p1 p2 p3 p4 p5 p6 p7 p8 q0 q1 q2 q3 q4 q5 q6 q7 q8 r0 r1 r2 r3 r4 r5 r6 r7 r8
    go_wp2
    exact bodyPost_ret (results_cs Try.results8 _ _ (w.heap.size + 1 + 1) _ #[.slice ad1 L1.length cap1, .bool cl] _ _ _ (by rfl) (by rfl) Hend.out.1 Try.underlying27 rfl state_size) rfl Hend.out.2

set_option maxHeartbeats 2000000 in
set_option maxRecDepth 100000 in
/-- A step of no kind. -/
theorem one_none (h : Feed w f c L cl) (ho : OwnS w B v L) (k n : Int) (s : List UInt8) (hk : ¬ (1 ≤ k ∧ k ≤ 4)) (hf : f < w.heap.size) (hc : c < w.heap.size) :
    Calls Try.prog 8 #[.pointer (some ⟨f, 0, none⟩), .agg #[v, .bool cl], .agg #[.int .i64 k, .int .i64 n, .string ⟨s.toArray⟩]] w (OnePost w B f c) := by
  obtain ⟨ad, cap, rfl⟩ := ho.form
  obtain ⟨w3, hw3, hx3, hb3⟩ := three_boxes w (.slice ad L.length cap) (.bool cl) (.int .i64 k) (.int .i64 n) (strV s)
  obtain ⟨_, p0, p1, p2, p3, p4, p5, p6, p7, p8⟩ := hx3.all
  have k1 : (k == 1) = false := by rw [beq_eq_false_iff_ne]; omega
  have k2 : (k == 2) = false := by rw [beq_eq_false_iff_ne]; omega
  have k3 : (k == 3) = false := by rw [beq_eq_false_iff_ne]; omega
  have k4 : (k == 4) = false := by rw [beq_eq_false_iff_ne]; omega
  have Hend := Lib.hid (one_end (B := B) (h.under hb3) (ho.step hb3) (FKeep.of_below hb3) hx3 (by omega) (by omega) (by omega))
  clear hk
  go_enter Try.func8, Try.ntmps8
  go_wp2
  exact bodyPost_ret (results_cs Try.results8 _ _ (w.heap.size + 1 + 1) _ #[.slice ad L.length cap, .bool cl] _ _ _ (by rfl) (by rfl) Hend.out.1 Try.underlying27 rfl state_size) rfl Hend.out.2

set_option maxHeartbeats 2000000 in
set_option maxRecDepth 100000 in
/-- A step that closes. -/
theorem one_close (h : Feed w f c L cl) (ho : OwnS w B v L) (hB : B ≤ w.heap.size) (hf : f < B) (hc : c < B) (n : Int) (s : List UInt8) :
    Calls Try.prog 8 #[.pointer (some ⟨f, 0, none⟩), .agg #[v, .bool cl], .agg #[.int .i64 4, .int .i64 n, .string ⟨s.toArray⟩]] w (OnePost w B f c) := by
  obtain ⟨ad, cap, rfl⟩ := ho.form
  obtain ⟨w3, hw3, hx3, hb3⟩ := three_boxes w (.slice ad L.length cap) (.bool cl) (.int .i64 4) (.int .i64 n) (strV s)
  obtain ⟨_, p0, p1, p2, p3, p4, p5, p6, p7, p8⟩ := hx3.all
  have HC := Lib.hid (feed_close (h.under hb3))
  cases cl
  · go_enter Try.func8, Try.ntmps8
    go_wp2_with fail
    refine HC.out.mono ?_
    rintro e w4 ⟨⟨h4, hk4⟩, rfl⟩
    have hx4 := hx3.fkeep hk4 (by omega) (by omega)
    clear p0 p1 p2 p3 p4 p5 p6 p7 p8 HC
    obtain ⟨_, p0, p1, p2, p3, p4, p5, p6, p7, p8⟩ := hx4.all
    have z1 := hx4.1.frozen 1
    have z0 := hx4.1.frozen 0
    go_wp2
    have hx5 := hx4.putA (by omega) (by omega) (.bool true)
    have Hend := Lib.hid (one_end (B := B) (h4.other (r := w.heap.size) (i := 1) (by omega) (by omega) (.bool true)) ((((ho.step hb3).fkeep hk4 hf hc)).other hx4.1 (i := 1) (.bool true)) (((FKeep.of_below hb3).trans hk4).set (r := w.heap.size) (i := 1) (Nat.le_refl _) (.bool true)) hx5 (by omega) (by omega) (by omega))
    exact bodyPost_ret (results_cs Try.results8 _ _ (w.heap.size + 1 + 1) _ #[.slice ad L.length cap, .bool true] _ _ _ (by rfl) (by rfl) Hend.out.1 Try.underlying27 rfl state_size) rfl Hend.out.2
  · go_enter Try.func8, Try.ntmps8
    go_wp2_with fail
    refine HC.out.mono ?_
    rintro e w4 ⟨⟨h4, hk4⟩, rfl⟩
    have hx4 := hx3.fkeep hk4 (by omega) (by omega)
    clear p0 p1 p2 p3 p4 p5 p6 p7 p8 HC
    obtain ⟨_, p0, p1, p2, p3, p4, p5, p6, p7, p8⟩ := hx4.all
    have Hend := Lib.hid (one_end (B := B) h4 ((ho.step hb3).fkeep hk4 hf hc) ((FKeep.of_below hb3).trans hk4) hx4 (by omega) (by omega) (by omega))
    go_wp2
    exact bodyPost_ret (results_cs Try.results8 _ _ (w.heap.size + 1 + 1) _ #[.slice ad L.length cap, .bool true] _ _ _ (by rfl) (by rfl) Hend.out.1 Try.underlying27 rfl state_size) rfl Hend.out.2
end
end Go.Proofs.Ytmblbmkkeloegaa
