/- The walk of the law RecordSizes. -/
import Derived.Test.YtafglickbaeoeaaDoorRecA
import Derived.BigRegion
namespace Go.Proofs.YtafglickbaeoeaaDoor.recordSizes
open Go.ChangeShapes Go.WideShapes Go.ChangeAt Go.RowKit

theorem new1 (w : World) (A : Obj) (T : TypeId) (cs : List Value) : Holds ((w.alloc A).alloc (.cells cs.toArray T)) (w.heap.size + 1) T cs := by
  have h := Holds.new (w.alloc A) T cs
  rw [show (w.alloc A).heap.size = w.heap.size + 1 by simp] at h
  exact h
theorem new2 (w : World) (A B : Obj) (T : TypeId) (cs : List Value) : Holds (((w.alloc A).alloc B).alloc (.cells cs.toArray T)) (w.heap.size + 2) T cs := by
  have h := Holds.new ((w.alloc A).alloc B) T cs
  rw [show ((w.alloc A).alloc B).heap.size = w.heap.size + 2 by simp] at h
  exact h
set_option maxRecDepth 100000 in
set_option maxHeartbeats 1000000 in
theorem walk (a c : Nat) (ha : a ≤ 65535) (hc : c ≤ 65535) (w : World) (ht : TabOk w) :
    Calls Tryd.prog 5 #[.int .u16 a, .int .u16 c] w fun e w' => Below w.heap.size w w' ∧ e = .returned (.bool true) := by
  have Ht := Lib.hid ht
  clear ht
  have ha64 : wrap64 (a : Int) = a := IntWalk.wrap64_in _ (by omega)
  have hc64 : wrap64 (c : Int) = c := IntWalk.wrap64_in _ (by omega)
  have hai : IntKind.i64.wrap (a : Int) = a := IntWalk.i64_in _ (by omega)
  have hci : IntKind.i64.wrap (c : Int) = c := IntWalk.i64_in _ (by omega)
  obtain ⟨m, hm⟩ : ∃ m, m = a % 1100 := ⟨_, rfl⟩
  obtain ⟨n, hn⟩ : ∃ n, n = c % 1100 := ⟨_, rfl⟩
  have hm1 : m < 1100 := by omega
  have hn1 : n < 1100 := by omega
  have r1 : (a : Int).tmod 1100 = (m : Int) := by rw [Int.tmod_eq_emod_of_nonneg (by omega)]; omega
  have r2 : (c : Int).tmod 1100 = (n : Int) := by rw [Int.tmod_eq_emod_of_nonneg (by omega)]; omega
  have hw1 : IntKind.i64.wrap (1 + (m : Int)) = ((1 + m : Nat) : Int) := by rw [IntWalk.i64_in _ (by omega)]; omega
  generalize h1m : 1 + m = q at *
  have hq : q ≤ 1100 := by omega
  have hmk1 := fun W => run_make_bytes (P := Tryd.prog) 41 5 Tryd.underlying41 (by kernel_rfl) q (by omega) W
  have hmk2 := fun W => run_make_bytes (P := Tryd.prog) 41 5 Tryd.underlying41 (by kernel_rfl) n (by omega) W
  have hcv : ∀ (l : List UInt8) (j : Nat), l.length = j → ∀ (W : World) (g : Nat), W.heap[g]? = some (.cells (byteCells l).toArray 5 (0, 0)) → (convert 41 9 (.slice (some ⟨g, 0, none⟩) j j)).run Tryd.prog W = .ok (.string ⟨l.toArray⟩) W :=
    fun l j hl W g hg => run_bytes_string (P := Tryd.prog) 41 5 9 Tryd.underlying41 Tryd.underlying5 Tryd.underlying9 (show Holds W g 5 (byteCells l) from hg) j hl.symm j
  have hcv1 := hcv (List.replicate q 0) q (by simp)
  have hcv2 := hcv (List.replicate n 0) n (by simp)
  have hal : ∀ (W : World) (o : Obj) (i : Nat), (W.alloc o).heap[i]? = if i = W.heap.size then some o else W.heap[i]? := by
    intro W o i
    by_cases h : i = W.heap.size
    · rw [if_pos h, h]; exact heap_alloc_new W o
    · rw [if_neg h]
      rcases Nat.lt_or_ge i W.heap.size with hl | hl
      · exact heap_alloc_old W o hl
      · rw [Array.getElem?_eq_none hl, Array.getElem?_eq_none (by simp; omega)]
  have hdr : ∀ W : World, W.drew.heap = W.heap := fun _ => rfl
  have Hq1 := Lib.hid (show (List.replicate q (0 : UInt8)).length = q by simp)
  have Hn1 := Lib.hid (show (List.replicate n (0 : UInt8)).length = n by simp)
  have HK := Lib.hid (show List.replicate q (0 : UInt8) ≠ [] ∧ 61 ∉ List.replicate q (0 : UInt8) by
    refine ⟨fun e => ?_, fun h => ?_⟩
    · have := congrArg List.length e; simp at this; omega
    · have := List.eq_of_mem_replicate h; exact absurd this (by decide))
  generalize List.replicate q (0 : UInt8) = kk at *
  generalize List.replicate n (0 : UInt8) = vv at *
  generalize (byteCells kk).toArray = kc at *
  generalize (byteCells vv).toArray = vc at *
  have z0 := hcv1 (w.alloc (Obj.cells kc 5)).drew w.heap.size (by rw [hdr, hal, if_pos (by simp)])
  have z1 := hcv2 (w.alloc (Obj.cells vc 5)).drew w.heap.size (by rw [hdr, hal, if_pos (by simp)])
  have z2 := hcv1 ((w.alloc (Obj.cells #[Value.string ⟨#[]⟩, Value.string ⟨#[]⟩] 25)).alloc (Obj.cells kc 5)).drew (w.heap.size + 1) (by rw [hdr, hal, if_pos (by simp)])
  have z3 := hcv2 ((w.alloc (Obj.cells #[Value.string ⟨#[]⟩, Value.string ⟨#[]⟩] 25)).alloc (Obj.cells vc 5)).drew (w.heap.size + 1) (by rw [hdr, hal, if_pos (by simp)])
  have z4 := hcv1 ((w.alloc (Obj.cells kc 5)).alloc (Obj.cells #[Value.string ⟨#[]⟩, Value.string ⟨#[]⟩] 25)).drew w.heap.size (by rw [hdr, hal, if_neg (by simp <;> omega), hal, if_pos (by simp)])
  have z5 := hcv1 ((w.alloc (Obj.cells kc 5)).alloc (Obj.cells vc 5)).drew w.heap.size (by rw [hdr, hal, if_neg (by simp <;> omega), hal, if_pos (by simp)])
  have z6 := hcv2 ((w.alloc (Obj.cells kc 5)).alloc (Obj.cells vc 5)).drew (w.heap.size + 1) (by rw [hdr, hal, if_pos (by simp)])
  have z7 := hcv2 ((w.alloc (Obj.cells vc 5)).alloc (Obj.cells #[Value.string ⟨#[]⟩, Value.string ⟨#[]⟩] 25)).drew w.heap.size (by rw [hdr, hal, if_neg (by simp <;> omega), hal, if_pos (by simp)])
  have z8 := hcv1 ((w.alloc (Obj.cells vc 5)).alloc (Obj.cells kc 5)).drew (w.heap.size + 1) (by rw [hdr, hal, if_pos (by simp)])
  have z9 := hcv2 ((w.alloc (Obj.cells vc 5)).alloc (Obj.cells kc 5)).drew w.heap.size (by rw [hdr, hal, if_neg (by simp <;> omega), hal, if_pos (by simp)])
  have z10 := hcv1 (((w.alloc (Obj.cells #[Value.string ⟨#[]⟩, Value.string ⟨#[]⟩] 25)).alloc (Obj.cells kc 5)).alloc (Obj.cells vc 5)).drew (w.heap.size + 1) (by rw [hdr, hal, if_neg (by simp <;> omega), hal, if_pos (by simp)])
  have z11 := hcv2 (((w.alloc (Obj.cells #[Value.string ⟨#[]⟩, Value.string ⟨#[]⟩] 25)).alloc (Obj.cells kc 5)).alloc (Obj.cells vc 5)).drew (w.heap.size + 2) (by rw [hdr, hal, if_pos (by simp)])
  have z12 := hcv1 (((w.alloc (Obj.cells #[Value.string ⟨#[]⟩, Value.string ⟨#[]⟩] 25)).alloc (Obj.cells vc 5)).alloc (Obj.cells kc 5)).drew (w.heap.size + 2) (by rw [hdr, hal, if_pos (by simp)])
  have z13 := hcv2 (((w.alloc (Obj.cells #[Value.string ⟨#[]⟩, Value.string ⟨#[]⟩] 25)).alloc (Obj.cells vc 5)).alloc (Obj.cells kc 5)).drew (w.heap.size + 1) (by rw [hdr, hal, if_neg (by simp <;> omega), hal, if_pos (by simp)])
  have z14 := hcv1 (((w.alloc (Obj.cells kc 5)).alloc (Obj.cells #[Value.string ⟨#[]⟩, Value.string ⟨#[]⟩] 25)).alloc (Obj.cells vc 5)).drew w.heap.size (by rw [hdr, hal, if_neg (by simp <;> omega), hal, if_neg (by simp <;> omega), hal, if_pos (by simp)])
  have z15 := hcv2 (((w.alloc (Obj.cells kc 5)).alloc (Obj.cells #[Value.string ⟨#[]⟩, Value.string ⟨#[]⟩] 25)).alloc (Obj.cells vc 5)).drew (w.heap.size + 2) (by rw [hdr, hal, if_pos (by simp)])
  have z16 := hcv1 (((w.alloc (Obj.cells kc 5)).alloc (Obj.cells vc 5)).alloc (Obj.cells #[Value.string ⟨#[]⟩, Value.string ⟨#[]⟩] 25)).drew w.heap.size (by rw [hdr, hal, if_neg (by simp <;> omega), hal, if_neg (by simp <;> omega), hal, if_pos (by simp)])
  have z17 := hcv2 (((w.alloc (Obj.cells kc 5)).alloc (Obj.cells vc 5)).alloc (Obj.cells #[Value.string ⟨#[]⟩, Value.string ⟨#[]⟩] 25)).drew (w.heap.size + 1) (by rw [hdr, hal, if_neg (by simp <;> omega), hal, if_pos (by simp)])
  have z18 := hcv1 (((w.alloc (Obj.cells vc 5)).alloc (Obj.cells #[Value.string ⟨#[]⟩, Value.string ⟨#[]⟩] 25)).alloc (Obj.cells kc 5)).drew (w.heap.size + 2) (by rw [hdr, hal, if_pos (by simp)])
  have z19 := hcv2 (((w.alloc (Obj.cells vc 5)).alloc (Obj.cells #[Value.string ⟨#[]⟩, Value.string ⟨#[]⟩] 25)).alloc (Obj.cells kc 5)).drew w.heap.size (by rw [hdr, hal, if_neg (by simp <;> omega), hal, if_neg (by simp <;> omega), hal, if_pos (by simp)])
  have z20 := hcv1 (((w.alloc (Obj.cells vc 5)).alloc (Obj.cells kc 5)).alloc (Obj.cells #[Value.string ⟨#[]⟩, Value.string ⟨#[]⟩] 25)).drew (w.heap.size + 1) (by rw [hdr, hal, if_neg (by simp <;> omega), hal, if_pos (by simp)])
  have z21 := hcv2 (((w.alloc (Obj.cells vc 5)).alloc (Obj.cells kc 5)).alloc (Obj.cells #[Value.string ⟨#[]⟩, Value.string ⟨#[]⟩] 25)).drew w.heap.size (by rw [hdr, hal, if_neg (by simp <;> omega), hal, if_neg (by simp <;> omega), hal, if_pos (by simp)])
  clear hcv hcv1 hcv2 hal hdr hm hn ha hc h1m
  go_enter Tryd.func5, Tryd.ntmps5
  go_wp2_with fail
  go_cut [5] (fun p wx => ∃ g : Nat, p = .pointer (some ⟨g, 0, none⟩) ∧ Holds wx g 25 [.string ⟨kk.toArray⟩, .string ⟨vv.toArray⟩] ∧ Below w.heap.size w wx)
  case first =>
    go_region
    all_goals
      go_wp2
      go_meet
      case rel =>
        refine ⟨_, rfl, ?_, ?_⟩
        · refine Holds.drew ?_
          first
            | exact Holds.behind (Holds.behind (Holds.new w _ _) _) _
            | exact Holds.behind (new1 w _ _ _) _
            | exact new2 w _ _ _ _
        · exact Below.drew ((((Below.refl _ _).alloc (Nat.le_refl _) _).alloc (by simp) _).alloc (by simp <;> omega) _)
  case rest =>
    clear hmk1 hmk2 r1 r2 hw1
    obtain ⟨g, rfl, hh, hb⟩ := hcut
    have Hsz := Lib.hid (fun w1 ht => size_any (kk, vv) w1 (by unfold prRest; have := Hq1.out; have := Hn1.out; simp only; omega) ht)
    have Hrz := Lib.hid (fun w1 => refSize_any (kk, vv) w1 (by unfold prRest; have := Hq1.out; have := Hn1.out; simp only; omega))
    have Hp := Lib.hid (fun v w1 hv ht => printIn_any [(kk, vv)] v w1 hv (by
      intro p hp
      have hp2 : p = (kk, vv) := by simpa using hp
      have := Hq1.out
      have := Hn1.out
      subst hp2; simp only; omega) ht (by simp))
    have hk : kk ≠ [] ∧ 61 ∉ kk := HK.out
    have hsz := (szOf_spec (prRest (kk, vv)) (by unfold prRest; have := Hq1.out; have := Hn1.out; simp only; omega)).2.1
    have hS : prSize (kk, vv) ≤ 3000 := by unfold prSize; unfold prRest at hsz ⊢; have := Hq1.out; have := Hn1.out; simp only at *; omega
    have hpp : prPrint [(kk, vv)] = (prTexts [(kk, vv)], 0) := by
      unfold prPrint
      have h1 : ([(kk, vv)] : List Pr).all prRight = true := by simp [prRight]; exact hk
      rw [if_neg (by simp), h1, if_neg (by simp), if_neg (by show ¬ 65536 < prSize (kk, vv) + 0; omega)]
    have htl : (prTexts [(kk, vv)]).length = prSize (kk, vv) := by
      rw [prTexts_length _ (by
        intro p hp
        have hp2 : p = (kk, vv) := by simpa using hp
        have := Hq1.out
        have := Hn1.out
        subst hp2; simp only; omega)]
      rfl
    unfold print2 at Hp
    rw [hpp] at Hp
    simp only at Hp
    unfold prVal at Hsz Hrz
    simp only at Hsz Hrz
    generalize prTexts [(kk, vv)] = txt at *
    generalize prSize (kk, vv) = S at *
    have Hh := Lib.hid hh
    have Hb := Lib.hid hb
    obtain ⟨c0, c1, f0, f1⟩ := two_holds hh
    clear hk hsz hpp hh hb
    go_wp2_with fail
    refine (Hsz.out _ (Ht.out.below Hb.out (Nat.le_refl _))).mono ?_
    rintro e w2 ⟨hb2, rfl⟩
    have Hh2 := Lib.hid (Hh.out.under hb2 Hh.out.lt)
    have Hb2 := Lib.hid (Hb.out.trans (hb2.mono Hb.out.size))
    clear hb2 c0 c1 f0 f1
    obtain ⟨c0, c1, f0, f1⟩ := two_holds Hh2.out
    go_wp2_with fail
    have Hx := Lib.hid (Holds.new w2 25 [.string ⟨kk.toArray⟩, .string ⟨vv.toArray⟩])
    have hbx : Below w2.heap.size w2 (w2.alloc (.cells #[.string ⟨kk.toArray⟩, .string ⟨vv.toArray⟩] 25)) := (Below.refl _ _).alloc (Nat.le_refl _) _
    have Hb3 := Lib.hid (Hb2.out.trans (hbx.mono Hb2.out.size))
    have Hh3 := Lib.hid (Hh2.out.under hbx Hh2.out.lt)
    clear hbx
    refine (Hp.out _ _ (PairsIn.one Hx.out) (Ht.out.below Hb3.out (Nat.le_refl _))).mono ?_
    rintro e w4 ⟨hb4, rfl⟩
    have Hh4 := Lib.hid (Hh3.out.under hb4 Hh3.out.lt)
    have Hb4 := Lib.hid (Hb3.out.trans (hb4.mono Hb3.out.size))
    clear hb4 c0 c1 f0 f1
    obtain ⟨c0, c1, f0, f1⟩ := two_holds Hh4.out
    go_wp2_with fail
    refine (Hrz.out _).mono ?_
    rintro e w5 ⟨hb5, rfl⟩
    have Hb5 := Lib.hid (Hb4.out.trans (hb5.mono Hb4.out.size))
    clear hb5 c0 c1 f0 f1
    go_wp2_with fail
    refine (awake6_any _ (Ht.out.below Hb5.out (Nat.le_refl _))).mono ?_
    rintro e w6 ⟨hb6, rfl⟩
    have Hb6 := Lib.hid (Hb5.out.trans (hb6.mono Hb5.out.size))
    clear hb6
    go_wp2
    go_ret
    exact ⟨Hb6.out, rfl⟩
theorem walkI (a c : Int) (ha : 0 ≤ a ∧ a ≤ 65535) (hc : 0 ≤ c ∧ c ≤ 65535) (w : World) (ht : TabOk w) :
    Calls Tryd.prog 5 #[.int .u16 a, .int .u16 c] w fun e w' => Below w.heap.size w w' ∧ e = .returned (.bool true) := by
  obtain ⟨x, rfl⟩ := Int.eq_ofNat_of_zero_le ha.1
  obtain ⟨y, rfl⟩ := Int.eq_ofNat_of_zero_le hc.1
  exact walk x y (by omega) (by omega) w ht
end Go.Proofs.YtafglickbaeoeaaDoor.recordSizes
