/-
  Contract of the law's step: a step that takes.
-/
import Derived.Test.YtmblbmkkeloegaaFedO
namespace Go.Proofs.Ytmblbmkkeloegaa
open Go.ChangeShapes Go.WideShapes Go.ChangeAt Go.RowKit Go.Conc

section
variable {w : World} {B f c : Nat} {v : Value} {L : List (List UInt8)} {cl : Bool}

theorem GoodL.flat (h : GoodL L) : L.flatten.length ≤ 4294967296 := by have := h.total; omega

set_option maxHeartbeats 2000000 in
set_option maxRecDepth 100000 in
theorem one_take_no (h : Feed w f c L cl) (ho : OwnS w B v L) (hB : B ≤ w.heap.size) (hf : f < B) (hc : c < B) (n : Int) (hn : n < 0 ∨ ((L.flatten.length : Nat) : Int) < n) (s : List UInt8) :
    Calls Try.prog 8 #[.pointer (some ⟨f, 0, none⟩), .agg #[v, .bool cl], .agg #[.int .i64 2, .int .i64 n, .string ⟨s.toArray⟩]] w (OnePost w B f c) := by
  obtain ⟨ad, cap, rfl⟩ := ho.form
  obtain ⟨w3, hw3, hx3, hb3⟩ := three_boxes w (.slice ad L.length cap) (.bool cl) (.int .i64 2) (.int .i64 n) (strV s)
  obtain ⟨_, p0, p1, p2, p3, p4, p5, p6, p7, p8⟩ := hx3.all
  have HT := Lib.hid (feed_take_no (h.under hb3) n hn)
  have HA := Lib.hid (refAll_any (cl := cl) (ho.step hb3) h.good.flat (by have := h.good.len; omega))
  have Hb3 := Lib.hid hb3
  have hlen := h.good.flat
  have hfe := Lib.hid h
  have hol := Lib.hid ho
  clear h
  generalize L.flatten = fl at *
  rcases hn with hn | hn
  · go_enter Try.func8, Try.ntmps8
    go_wp2_with fail
    refine HT.out.mono ?_
    rintro e w' ⟨rfl, rfl⟩
    go_wp2_with fail
    refine HA.out.mono ?_
    rintro e w4 ⟨hb4, rfl⟩
    have hx4 := hx3.below hb4
    have Hend := Lib.hid (one_end (B := B) ((hfe.out.under hb3).under hb4) ((hol.out.step hb3).step hb4) (FKeep.of_below (hb3.trans (hb4.mono hb3.size))) hx4 (by omega) (by omega) (by omega))
    clear p0 p1 p2 p3 p4 p5 p6 p7 p8
    obtain ⟨_, p0, p1, p2, p3, p4, p5, p6, p7, p8⟩ := hx4.all
    go_wp2
    exact bodyPost_ret (results_cs Try.results8 _ _ (w.heap.size + 1 + 1) _ #[.slice ad L.length cap, .bool cl] _ _ _ (by rfl) (by rfl) Hend.out.1 Try.underlying27 rfl state_size) rfl Hend.out.2
  · have hn0 : ¬ n < 0 := by omega
    go_enter Try.func8, Try.ntmps8
    go_wp2_with fail
    refine HT.out.mono ?_
    rintro e w' ⟨rfl, rfl⟩
    go_wp2_with fail
    refine HA.out.mono ?_
    rintro e w4 ⟨hb4, rfl⟩
    have hx4 := hx3.below hb4
    have Hend := Lib.hid (one_end (B := B) ((hfe.out.under hb3).under hb4) ((hol.out.step hb3).step hb4) (FKeep.of_below (hb3.trans (hb4.mono hb3.size))) hx4 (by omega) (by omega) (by omega))
    clear p0 p1 p2 p3 p4 p5 p6 p7 p8
    obtain ⟨_, p0, p1, p2, p3, p4, p5, p6, p7, p8⟩ := hx4.all
    go_wp2
    exact bodyPost_ret (results_cs Try.results8 _ _ (w.heap.size + 1 + 1) _ #[.slice ad L.length cap, .bool cl] _ _ _ (by rfl) (by rfl) Hend.out.1 Try.underlying27 rfl state_size) rfl Hend.out.2

set_option maxHeartbeats 2000000 in
set_option maxRecDepth 100000 in
theorem one_take (h : Feed w f c L cl) (ho : OwnS w B v L) (hB : B ≤ w.heap.size) (hf : f < B) (hc : c < B) (n : Nat) (hn : n ≤ L.flatten.length) (s : List UInt8) :
    Calls Try.prog 8 #[.pointer (some ⟨f, 0, none⟩), .agg #[v, .bool cl], .agg #[.int .i64 2, .int .i64 n, .string ⟨s.toArray⟩]] w (OnePost w B f c) := by
  obtain ⟨ad, cap, rfl⟩ := ho.form
  obtain ⟨w3, hw3, hx3, hb3⟩ := three_boxes w (.slice ad L.length cap) (.bool cl) (.int .i64 2) (.int .i64 n) (strV s)
  obtain ⟨_, p0, p1, p2, p3, p4, p5, p6, p7, p8⟩ := hx3.all
  have HT := Lib.hid (feed_take (h.under hb3) n hn)
  have hlen := h.good.flat
  have hni : (n : Int) ≤ (L.flatten.length : Nat) := by omega
  have hfe := Lib.hid h
  have HA := Lib.hid (fun w' (ho' : OwnS w' B (.slice ad L.length cap) L) => refAll_any (cl := cl) ho' hfe.out.good.flat (by have := hfe.out.good.len; omega))
  have HD := Lib.hid (fun w' (ho' : OwnS w' B (.slice ad L.length cap) L) (hB' : B ≤ w'.heap.size) => refDrop_any (cl := cl) ho' hB' n (by omega) hfe.out.good.len hfe.out.good.each)
  clear h
  obtain ⟨D, hD⟩ : ∃ D, dropL L n = D := ⟨_, rfl⟩
  rw [hD] at HT HD
  clear hD
  generalize L.flatten = fl at *
  obtain ⟨tk, htk⟩ : ∃ tk, fl.take n = tk := ⟨_, rfl⟩
  have htk2 : fl.take n = tk := htk
  rw [htk] at HT
  go_enter Try.func8, Try.ntmps8
  go_wp2_with fail
  refine HT.out.mono ?_
  rintro e w4 ⟨⟨h4, hk4⟩, rfl⟩
  have hx4 := hx3.fkeep hk4 (by omega) (by omega)
  have ho4 := (ho.step hb3).fkeep hk4 hf hc
  clear p0 p1 p2 p3 p4 p5 p6 p7 p8
  obtain ⟨_, p0, p1, p2, p3, p4, p5, p6, p7, p8⟩ := hx4.all
  go_wp2_with fail
  refine (HA.out w4 ho4).mono ?_
  rintro e w5 ⟨hb5, rfl⟩
  have hk5 : FKeep f c w w5 := ((FKeep.of_below hb3).trans hk4).trans (FKeep.of_below hb5)
  have hx5 := hx4.below hb5
  have ho5 := ho4.step hb5
  have h5 := h4.under hb5
  clear p0 p1 p2 p3 p4 p5 p6 p7 p8
  obtain ⟨_, p0, p1, p2, p3, p4, p5, p6, p7, p8⟩ := hx5.all
  have hd : Below w5.heap.size w5 w5.drew := ⟨rfl, rfl, rfl, Nat.le_refl _, fun _ _ => rfl⟩
  have hx6 := hx5.below hd
  have ho6 := ho5.step hd
  have A6 := hx6.all
  have hsz6 : B ≤ w5.drew.heap.size := Nat.le_trans hB hk5.size
  have hfw : f < w.heap.size ∧ f < w.heap.size + 1 ∧ f < w.heap.size + 1 + 1 := by omega
  have hcw : c < w.heap.size ∧ c < w.heap.size + 1 ∧ c < w.heap.size + 1 + 1 := by omega
  have hn1 : w.heap.size ≠ w.heap.size + 1 + 1 := by omega
  have hn2 : w.heap.size + 1 ≠ w.heap.size + 1 + 1 := by omega
  go_wp2
  clear p0 p1 p2 p3 p4 p5 p6 p7 p8
  go_region_held3 (fun w' => Boxes w' w.heap.size (w.heap.size + 1) (w.heap.size + 1 + 1) (.slice ad L.length cap) (.bool cl) (.int .i64 2) (.int .i64 n) (strV s) ∧ w'.cell? ⟨w.heap.size, 0, none⟩ = some (.slice ad L.length cap) ∧ w'.cell? ⟨w.heap.size, 1, none⟩ = some (.bool cl) ∧ w'.cell? ⟨w.heap.size + 1, 0, none⟩ = some (.int .i64 2) ∧ w'.cell? ⟨w.heap.size + 1, 1, none⟩ = some (.int .i64 n) ∧ w'.cell? ⟨w.heap.size + 1, 2, none⟩ = some (strV s) ∧
      w'.cell? ⟨w.heap.size + 1 + 1, 0, none⟩ = some (cellW w' ⟨w.heap.size + 1 + 1, 0, none⟩) ∧ w'.cell? ⟨w.heap.size + 1 + 1, 1, none⟩ = some (cellW w' ⟨w.heap.size + 1 + 1, 1, none⟩) ∧ w'.frozen? ⟨w.heap.size + 1 + 1, 0, none⟩ = false ∧ w'.frozen? ⟨w.heap.size + 1 + 1, 1, none⟩ = false)
    (first | assumption | exact A6 | exact Boxes.all (hx6.below hbA) | exact Boxes.all (Boxes.put1 (Boxes.put0 (And.left (by assumption)) hn1 hn2 _) hn1 hn2 _))
    ((go_at_call 17; refine (HD.out _ ho6 hsz6).mono ?_; rintro e wA ⟨hbA, vA, hoA, rfl⟩; obtain ⟨adA, capA, rfl⟩ := hoA.form))
  have Hend := Lib.hid (one_end (B := B) ((h5.under hd).under hbA) hoA ((hk5.trans (FKeep.of_below hd)).trans (FKeep.of_below hbA)) (hx6.below hbA) (by omega) (by omega) (by omega))
  clear hx6 A6 hx5 h5 hoA ho5 ho6
  go_wp2
  exact bodyPost_ret (results_cs Try.results8 _ _ (w.heap.size + 1 + 1) _ #[.slice adA D.length capA, .bool cl] _ _ _ (by rfl) (by rfl) Hend.out.1 Try.underlying27 rfl state_size) rfl Hend.out.2

set_option maxHeartbeats 4000000 in
set_option maxRecDepth 100000 in
theorem one_some (h : Feed w f c L cl) (ho : OwnS w B v L) (hB : B ≤ w.heap.size) (hf : f < B) (hc : c < B) (m : Int) (s : List UInt8) :
    Calls Try.prog 8 #[.pointer (some ⟨f, 0, none⟩), .agg #[v, .bool cl], .agg #[.int .i64 3, .int .i64 m, .string ⟨s.toArray⟩]] w (OnePost w B f c) := by
  obtain ⟨ad, cap, rfl⟩ := ho.form
  obtain ⟨n, hn⟩ : ∃ n : Nat, (n : Int) = max (min m (L.flatten.length : Nat)) 0 := ⟨(max (min m (L.flatten.length : Nat)) 0).toNat, by omega⟩
  obtain ⟨w3, hw3, hx3, hb3⟩ := three_boxes w (.slice ad L.length cap) (.bool cl) (.int .i64 3) (.int .i64 m) (strV s)
  obtain ⟨_, p0, p1, p2, p3, p4, p5, p6, p7, p8⟩ := hx3.all
  have hlen := h.good.flat
  have hnl : (n : Int) ≤ (L.flatten.length : Nat) := by omega
  have hfe := Lib.hid h
  have HA := Lib.hid (refAll_any (cl := cl) (ho.step hb3) h.good.flat (by have := h.good.len; omega))
  have HS := Lib.hid (fun w' (h' : Feed w' f c L cl) => feed_some h' m n hn)
  have HD := Lib.hid (fun w' (ho' : OwnS w' B (.slice ad L.length cap) L) (hB' : B ≤ w'.heap.size) => refDrop_any (cl := cl) ho' hB' n (by omega) hfe.out.good.len hfe.out.good.each)
  have Hol := Lib.hid ho
  clear h
  obtain ⟨D, hD⟩ : ∃ D, dropL L n = D := ⟨_, rfl⟩
  rw [hD] at HS HD
  clear hD
  generalize L.flatten = fl at *
  obtain ⟨tk, htk⟩ : ∃ tk, fl.take n = tk := ⟨_, rfl⟩
  rw [htk] at HS
  have hmm : max (min m (fl.length : Int)) 0 = (n : Int) := hn.symm
  clear hn
  go_enter Try.func8, Try.ntmps8
  go_wp2_with fail
  refine HA.out.mono ?_
  rintro e w5 ⟨hb5, rfl⟩
  have hb35 : Below w.heap.size w w5 := hb3.trans (hb5.mono hb3.size)
  have hx5 := hx3.below hb5
  have ho5 := (Hol.out.step hb3).step hb5
  have h5 := (hfe.out.under hb3).under hb5
  clear p0 p1 p2 p3 p4 p5 p6 p7 p8
  obtain ⟨_, p0, p1, p2, p3, p4, p5, p6, p7, p8⟩ := hx5.all
  have hd : Below w5.heap.size w5 w5.drew := ⟨rfl, rfl, rfl, Nat.le_refl _, fun _ _ => rfl⟩
  have hx6 := hx5.below hd
  have ho6 := ho5.step hd
  have h6 := h5.under hd
  have A6 := hx6.all
  have hk6 : FKeep f c w w5.drew := FKeep.of_below (hb35.trans (hd.mono hb35.size))
  have hsz6 : B ≤ w5.drew.heap.size := Nat.le_trans hB hk6.size
  have hfw : f < w.heap.size ∧ f < w.heap.size + 1 ∧ f < w.heap.size + 1 + 1 := by omega
  have hcw : c < w.heap.size ∧ c < w.heap.size + 1 ∧ c < w.heap.size + 1 + 1 := by omega
  have hn1 : w.heap.size ≠ w.heap.size + 1 + 1 := by omega
  have hn2 : w.heap.size + 1 ≠ w.heap.size + 1 + 1 := by omega
  go_wp2
  clear p0 p1 p2 p3 p4 p5 p6 p7 p8
  go_region_held3 (fun w' => Boxes w' w.heap.size (w.heap.size + 1) (w.heap.size + 1 + 1) (.slice ad L.length cap) (.bool cl) (.int .i64 3) (.int .i64 m) (strV s) ∧ w'.cell? ⟨w.heap.size, 0, none⟩ = some (.slice ad L.length cap) ∧ w'.cell? ⟨w.heap.size, 1, none⟩ = some (.bool cl) ∧ w'.cell? ⟨w.heap.size + 1, 0, none⟩ = some (.int .i64 3) ∧ w'.cell? ⟨w.heap.size + 1, 1, none⟩ = some (.int .i64 m) ∧ w'.cell? ⟨w.heap.size + 1, 2, none⟩ = some (strV s) ∧
      w'.cell? ⟨w.heap.size + 1 + 1, 0, none⟩ = some (cellW w' ⟨w.heap.size + 1 + 1, 0, none⟩) ∧ w'.cell? ⟨w.heap.size + 1 + 1, 1, none⟩ = some (cellW w' ⟨w.heap.size + 1 + 1, 1, none⟩) ∧ w'.frozen? ⟨w.heap.size + 1 + 1, 0, none⟩ = false ∧ w'.frozen? ⟨w.heap.size + 1 + 1, 1, none⟩ = false)
    (first | assumption | exact A6 | exact Boxes.all ((hx6.below hbA).fkeep hkB hfw hcw) | exact Boxes.all ((hx6.fkeep hkC hfw hcw).below hbD) | exact Boxes.all (hx6.below hbA) | exact Boxes.all (hx6.fkeep hkC hfw hcw) | exact Boxes.all (Boxes.put1 (Boxes.put0 (And.left (by assumption)) hn1 hn2 _) hn1 hn2 _))
    (first
      | (go_at_call 14; refine (HS.out _ (h6.under hbA)).mono ?_; rintro e wB ⟨⟨hfB, hkB⟩, rfl⟩)
      | (go_at_call 17; refine (HD.out _ (ho6.fkeep hkC hf hc) (Nat.le_trans hsz6 hkC.size)).mono ?_; rintro e wD ⟨hbD, vD, hoD, rfl⟩; obtain ⟨adA, capA, rfl⟩ := hoD.form)
      | (go_at_call 17; refine (HD.out _ ho6 hsz6).mono ?_; rintro e wA ⟨hbA, vA, hoA, rfl⟩; obtain ⟨adA, capA, rfl⟩ := hoA.form)
      | (go_at_call 14; refine (HS.out _ h6).mono ?_; rintro e wC ⟨⟨hfC, hkC⟩, rfl⟩))
  have Hend := Lib.hid (one_end (B := B) hfB (hoA.fkeep hkB hf hc) ((hk6.trans (FKeep.of_below hbA)).trans hkB) ((hx6.below hbA).fkeep hkB hfw hcw) (by omega) (by omega) (by omega))
  clear hx6 A6 hx5 h5 h6 hoA ho5 ho6 hfB hkB
  go_wp2
  exact bodyPost_ret (results_cs Try.results8 _ _ (w.heap.size + 1 + 1) _ #[.slice adA D.length capA, .bool cl] _ _ _ (by rfl) (by rfl) Hend.out.1 Try.underlying27 rfl state_size) rfl Hend.out.2

/-- One step, of whatever kind. -/
theorem one_any (h : Feed w f c L cl) (ho : OwnS w B v L) (hB : B ≤ w.heap.size) (hf : f < B) (hc : c < B) (k n : Int) (s : List UInt8) (hs : s.length ≤ 200) :
    Calls Try.prog 8 #[.pointer (some ⟨f, 0, none⟩), .agg #[v, .bool cl], .agg #[.int .i64 k, .int .i64 n, .string ⟨s.toArray⟩]] w (OnePost w B f c) := by
  by_cases h1 : k = 1
  · subst h1; exact one_put h ho hB hf hc n s hs
  · by_cases h2 : k = 2
    · subst h2
      by_cases hn : n < 0 ∨ ((L.flatten.length : Nat) : Int) < n
      · exact one_take_no h ho hB hf hc n hn s
      · obtain ⟨m, rfl⟩ : ∃ m : Nat, n = m := ⟨n.toNat, by omega⟩
        exact one_take h ho hB hf hc m (by omega) s
    · by_cases h3 : k = 3
      · subst h3; exact one_some h ho hB hf hc n s
      · by_cases h4 : k = 4
        · subst h4; exact one_close h ho hB hf hc n s
        · exact one_none h ho k n s (by omega) (by omega) (by omega)
end
end Go.Proofs.Ytmblbmkkeloegaa
