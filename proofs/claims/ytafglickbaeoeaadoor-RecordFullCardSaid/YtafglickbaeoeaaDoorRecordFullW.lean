/- The walk of the law RecordFull. -/
import Derived.Test.YtafglickbaeoeaaDoorRecI
import Derived.BigRegion
import Derived.Deep.RegionHeld3
namespace Go.Proofs.YtafglickbaeoeaaDoor.recordFull
open Go.ChangeShapes Go.WideShapes Go.ChangeAt Go.RowKit

/-- What the last test's region keeps. -/
def KeepF (W : World) (p q s t : Addr) (x y : Value) (w : World) : Prop := (w.cell? p = some x ∧ w.cell? q = some y ∧ w.cell? s = some x ∧ w.cell? t = some y) ∧ TabOk w ∧ Below W.heap.size W w
theorem KeepF.step {W : World} {p q s t : Addr} {x y : Value} {w w' : World} (k : KeepF W p q s t x y w) (hb : Below w.heap.size w w') : KeepF W p q s t x y w' := by
  obtain ⟨⟨k1, k2, k3, k4⟩, k5, k6⟩ := k
  exact ⟨⟨by rw [hb.cell (cell_lt k1)]; exact k1, by rw [hb.cell (cell_lt k2)]; exact k2, by rw [hb.cell (cell_lt k3)]; exact k3, by rw [hb.cell (cell_lt k4)]; exact k4⟩, k5.below hb (Nat.le_refl _), k6.trans (hb.mono k6.size)⟩
theorem KeepF.drew {W : World} {p q s t : Addr} {x y : Value} {w : World} (k : KeepF W p q s t x y w) : KeepF W p q s t x y w.drew := k.step ⟨rfl, rfl, rfl, Nat.le_refl _, fun _ _ => rfl⟩
theorem new1 (w : World) (A B : Obj) (T : TypeId) (cs : List Value) : Holds (((w.alloc A).alloc (.cells cs.toArray T)).alloc B) (w.heap.size + 1) T cs := by
  have h := Holds.new (w.alloc A) T cs
  rw [show (w.alloc A).heap.size = w.heap.size + 1 by simp] at h
  exact h.behind B
theorem new2 (w : World) (A B : Obj) (T : TypeId) (cs : List Value) : Holds (((w.alloc A).alloc B).alloc (.cells cs.toArray T)) (w.heap.size + 1 + 1) T cs := by
  have h := Holds.new ((w.alloc A).alloc B) T cs
  rw [show ((w.alloc A).alloc B).heap.size = w.heap.size + 1 + 1 by simp] at h
  exact h
theorem below3 {W w : World} (h : Below W.heap.size W w) (A B C : Obj) : Below W.heap.size W (((w.alloc A).alloc B).alloc C) := by
  have := h.size
  exact ((h.alloc h.size A).alloc (by simp; omega) B).alloc (by simp; omega) C
theorem big_print (r : Nat) (hr : r ≤ 3) (v : List UInt8) (hs : prSize ([107], v) = 65536 + r) (hv : v.length ≤ 65540) : (r ≠ 0 → prPrint [([107], v)] = ([], 12)) ∧ (r = 0 → prPrint [([107], v)] = (prTexts [([107], v)], 0) ∧ (prTexts [([107], v)]).length = 65536) := by
  have h1 : ([([107], v)] : List Pr).all prRight = true := by simp [prRight]
  have hz : prSizes [([107], v)] = 65536 + r := by show prSize _ + 0 = _; rw [hs, Nat.add_zero]
  constructor
  · intro h
    unfold prPrint
    rw [if_neg (by simp), h1, if_neg (by simp), if_pos (by rw [hz]; omega)]
  · intro h
    constructor
    · unfold prPrint
      rw [if_neg (by simp), h1, if_neg (by simp), if_neg (by rw [hz]; omega)]
    · rw [prTexts_length, hz, h]
      intro p hp
      have hp2 : p = ([107], v) := by simpa using hp
      subst hp2
      simp only [List.length_cons, List.length_nil]
      omega

set_option maxRecDepth 100000 in
set_option maxHeartbeats 4000000 in
theorem walk (a c : Nat) (ha : a ≤ 255) (hc : c ≤ 255) (w : World) (ht : TabOk w) :
    Calls Tryd.prog 6 #[.int .u8 a, .int .u8 c] w fun e w' => Below w.heap.size w w' ∧ e = .returned (.bool true) := by
  have Ht := Lib.hid ht
  clear ht
  have ha64 : wrap64 (a : Int) = a := IntWalk.wrap64_in _ (by omega)
  have hc64 : wrap64 (c : Int) = c := IntWalk.wrap64_in _ (by omega)
  have hai : IntKind.i64.wrap (a : Int) = a := IntWalk.i64_in _ (by omega)
  have hci : IntKind.i64.wrap (c : Int) = c := IntWalk.i64_in _ (by omega)
  obtain ⟨k, hk⟩ : ∃ k, k = 252 + a % 8 := ⟨_, rfl⟩
  obtain ⟨r, hr⟩ : ∃ r, r = c % 4 := ⟨_, rfl⟩
  have hr3 : r ≤ 3 := by omega
  have hk1 : 252 ≤ k := by omega
  have hk2 : k ≤ 259 := by omega
  have r1 : (a : Int).tmod 8 = (k : Int) - 252 := by rw [Int.tmod_eq_emod_of_nonneg (by omega)]; omega
  have r2 : (c : Int).tmod 4 = (r : Int) := by rw [Int.tmod_eq_emod_of_nonneg (by omega)]; omega
  have w1 : IntKind.i64.wrap (252 + ((k : Int) - 252)) = (k : Int) := by rw [IntWalk.i64_in _ (by omega)]; omega
  have hmk := run_make_pairs k (by omega)
  have Hbs := Lib.hid (fun v hv => big_size r hr3 v hv)
  obtain ⟨m, hm⟩ : ∃ m, m = 65527 + r := ⟨_, rfl⟩
  rw [← hm] at Hbs
  have hmk2 : ∀ W : World, (Instr.makeSlice 41 (.int .i64 (65527 + (r : Int))) (.int .i64 (65527 + (r : Int)))).run Tryd.prog W = .ok (.slice (some ⟨W.heap.size, 0, none⟩) m m) (W.alloc (.cells (byteCells (List.replicate m 0)).toArray 5)) := by
    intro W
    have h := run_make_bytes (P := Tryd.prog) 41 5 Tryd.underlying41 (by kernel_rfl) m (by omega) W
    rw [show ((m : Nat) : Int) = 65527 + (r : Int) by omega] at h
    exact h
  have Hm := Lib.hid hm
  clear hm
  have hcv2 : ∀ X : World, (convert 41 9 (.slice (some ⟨X.heap.size, 0, none⟩) m m)).run Tryd.prog (X.alloc (.cells (byteCells (List.replicate m 0)).toArray 5)) = .ok (.string ⟨(List.replicate m 0).toArray⟩) (X.alloc (.cells (byteCells (List.replicate m 0)).toArray 5)) :=
    fun X => run_bytes_string (P := Tryd.prog) 41 5 9 Tryd.underlying41 Tryd.underlying5 Tryd.underlying9 (Holds.new X 5 (byteCells (List.replicate m 0))) m (by simp) m
  have Hvl := Lib.hid (show (List.replicate m (0 : UInt8)).length = m by simp)
  generalize List.replicate m (0 : UInt8) = vv at *
  generalize (byteCells vv).toArray = vc at *
  have Hstep := Lib.hid (fun j (hj : j < k) => fill_step j k hj)
  have Hset := Lib.hid (fun j (hj : j < k) => pairCells_set (List.replicate j kP ++ List.replicate (k - j) (([], []) : Pr)) kP j (by simp; omega))
  clear hk hr ha hc
  go_enter Tryd.func6, Tryd.ntmps6
  go_wp2_with fail
  clear hmk r1 w1
  have hg0 : w.heap.size < (w.alloc (.cells (pairCells (List.replicate k (([], []) : Pr))).toArray 25)).heap.size := by simp
  have Hh0 := Lib.hid (Holds.new w 25 (pairCells (List.replicate k (([], []) : Pr))))
  have Hb0 := Lib.hid ((Below.refl w.heap.size w).alloc (Nat.le_refl _) (.cells (pairCells (List.replicate k (([], []) : Pr))).toArray 25))
  generalize w.alloc (.cells (pairCells (List.replicate k (([], []) : Pr))).toArray 25) = wa at *
  have Hge := Lib.hid (show w.heap.size ≤ w.heap.size from Nat.le_refl _)
  generalize hgg : w.heap.size = g at *
  have Hgg := Lib.hid hgg
  clear hgg
  go_loopw [7, 26] (fun s i wr => ∃ j : Nat, j ≤ k ∧ i = .int .i64 j ∧ s = .string ⟨(prTexts (List.replicate j kP)).toArray⟩ ∧ Holds wr g 25 (pairCells (List.replicate j kP ++ List.replicate (k - j) (([], []) : Pr))) ∧ Below g w wr) (fun _ i _ => k - (intOf i).toNat)
  case atStart => exact ⟨0, Nat.zero_le _, rfl, rfl, Hh0.out, Hb0.out⟩
  case round =>
    obtain ⟨j, hj, rfl, rfl, hh, hb⟩ := hrel
    have Hb := Lib.hid hb
    by_cases hlt : j < k
    · have hlen : (pairCells (List.replicate j kP ++ List.replicate (k - j) (([], []) : Pr))).length = k * 2 := by rw [pairCells_length]; simp; omega
      have c1 := hh.cell (i := j * 2) (by omega)
      have c2 := hh.cell (i := j * 2 + 1) (by omega)
      have f1 := hh.frozen (j * 2)
      have f2 := hh.frozen (j * 2 + 1)
      have hput := (hh.put (j * 2) (.string ⟨kP.1.toArray⟩)).put (j * 2 + 1) (.string ⟨kP.2.toArray⟩)
      rw [Hset.out j hlt, Hstep.out j hlt] at hput
      have Hh2 := Lib.hid hput
      have Hb2 := Lib.hid ((Hb.out.setCell (p := ⟨g, j * 2, none⟩) (Nat.le_refl _) (.string ⟨kP.1.toArray⟩)).setCell (p := ⟨g, j * 2 + 1, none⟩) (Nat.le_refl _) (.string ⟨kP.2.toArray⟩))
      have Htx := Lib.hid (kP_texts_succ j)
      have htl := kP_texts_length j
      generalize (pairCells (List.replicate j kP ++ List.replicate (k - j) (([], []) : Pr)))[j * 2] = o1 at *
      generalize (pairCells (List.replicate j kP ++ List.replicate (k - j) (([], []) : Pr)))[j * 2 + 1] = o2 at *
      generalize prTexts (List.replicate j kP) = tx at *
      have hadd : ¬ 9223372036854775807 < tx.length + 5 := by omega
      have hjk : (j : Int) < k := by omega
      clear hput hh hb hlen htl
      go_wp2
      go_roundw
      case rel => exact ⟨j + 1, by omega, by go_num, by rw [Htx.out], Hh2.out, Hb2.out⟩
      case measure => simp [intOf]; omega
    · have hjk : j = k := by omega
      subst hjk
      have hh2 : Holds wr g 25 (pairCells (List.replicate j kP)) := by
        have := hh
        rw [Nat.sub_self] at this
        simpa using this
      have hpi : PairsIn wr (.slice (some ⟨g, 0, none⟩) j j) (List.replicate j kP) := by
        have := Holds.pairs (cap := j) hh2
        rwa [List.length_replicate] at this
      have Hpi := Lib.hid hpi
      have P1 := Lib.hid (fun w1 hv ht => printIn_any (List.replicate j kP) (.slice (some ⟨g, 0, none⟩) j j) w1 hv (kP_fits j _ (by omega)) ht (by rw [List.length_replicate]; omega))
      have P2 := Lib.hid (fun w1 => parse_any (prTexts (List.replicate j kP)) w1 (by rw [kP_texts_length]; omega))
      have Hbw := Lib.hid (show Below w.heap.size w wr by rw [Hgg.out]; exact Hb.out)
      unfold print2 at P1
      clear hh hh2 hpi hlt hj Hh0 Hstep Hset Hb0 hg0
      have PP := Lib.hid (fun v w1 hv ht => printIn_any [([107], vv)] v w1 hv (by
        intro p hp
        have hp2 : p = ([107], vv) := by simpa using hp
        have := Hvl.out
        have := Hm.out
        subst hp2
        simp only [List.length_cons, List.length_nil]
        omega) ht (by simp))
      unfold print2 at PP
      have HBP := Lib.hid (big_print r hr3 vv (Hbs.out vv Hvl.out) (by have := Hvl.out; have := Hm.out; omega))
      by_cases h256 : 256 < j
      · rw [kP_full j h256] at P1
        rw [kP_parse_full j h256 (by omega)] at P2
        have hj6 : (256 : Int) < j := by omega
        clear h256
        simp only at P1 P2
        generalize prTexts (List.replicate j kP) = tx at *
        generalize List.replicate j kP = L at *
        go_wp2_with fail
        refine (P1.out _ Hpi.out (Ht.out.below Hbw.out (Nat.le_refl _))).mono ?_
        rintro e w2 ⟨hb2, rfl⟩
        have Hb2 := Lib.hid (Hbw.out.trans (hb2.mono Hbw.out.size))
        clear hb2
        go_wp2_with fail
        refine (P2.out _).mono ?_
        rintro e w3 ⟨hb3, v3, rfl, hv3⟩
        have Hb3 := Lib.hid (Hb2.out.trans (hb3.mono Hb2.out.size))
        obtain ⟨ad3, cap3, rfl, -⟩ := hv3
        clear hb3
        go_wp2_with fail
        have Hx := Lib.hid (new2 w3 (.cells vc 5) (.cells #[.string ⟨#[107]⟩, .string ⟨vv.toArray⟩] 25) 25 [.string ⟨#[107]⟩, .string ⟨vv.toArray⟩])
        have Hp := Lib.hid (new1 w3 (.cells vc 5) (.cells #[.string ⟨#[107]⟩, .string ⟨vv.toArray⟩] 25) 25 [.string ⟨#[107]⟩, .string ⟨vv.toArray⟩])
        have Hb4 := Lib.hid (below3 Hb3.out (.cells vc 5) (.cells #[.string ⟨#[107]⟩, .string ⟨vv.toArray⟩] 25) (.cells #[.string ⟨#[107]⟩, .string ⟨vv.toArray⟩] 25))
        by_cases hr0 : r = 0
        · obtain ⟨hbp, hbl⟩ := HBP.out.2 hr0
          have Hpp := Lib.hid (parse_print hbp (fun p hp => by
            have hp2 : p = ([107], vv) := by simpa using hp
            have := Hvl.out
            have := Hm.out
            subst hp2
            simp only [List.length_cons, List.length_nil]
            omega))
          have Q1 := Lib.hid (PP.out)
          rw [hbp] at Q1
          have Q2 := Lib.hid (fun w1 => parse_any (prTexts [([107], vv)]) w1 (by omega))
          rw [Hpp.out] at Q2
          simp only at Q1 Q2
          have hpe := fun W => pair_eql ([107], vv) ([107], vv) W
          rw [decide_eq_true rfl] at hpe
          simp only at hpe
          have hbl2 : ((prTexts [([107], vv)]).length : Int) = 65536 := by omega
          generalize prTexts [([107], vv)] = txt at *
          clear hbp hbl
          subst hr0
          refine (Q1.out _ _ (PairsIn.one (k := [107]) Hx.out) (Ht.out.below Hb4.out (Nat.le_refl _))).mono ?_
          rintro e w5 ⟨hb5, rfl⟩
          have Hb5 := Lib.hid (Hb4.out.trans (hb5.mono Hb4.out.size))
          have Hp5 := Lib.hid (Hp.out.under hb5 Hp.out.lt)
          clear hb5
          go_wp2_with fail
          refine (Q2.out _).mono ?_
          rintro e w6 ⟨hb6, v6, rfl, hv6⟩
          have Hb6 := Lib.hid (Hb5.out.trans (hb6.mono Hb5.out.size))
          have Hp6 := Lib.hid (Hp5.out.under hb6 Hp5.out.lt)
          obtain ⟨ad6, cap6, rfl, hv6⟩ := hv6
          obtain ⟨b6, o6, rfl, -, hpa⟩ : ∃ b o, ad6 = some ⟨b, o, none⟩ ∧ b < w6.heap.size ∧ PairsAt w6 b o [([107], vv)] := by
            rcases hv6 with h | h
            · cases h
            · exact h
          obtain ⟨c1, c2⟩ := hpa 0 (by simp)
          simp only [Nat.zero_mul, Nat.add_zero, List.getElem_cons_zero] at c1 c2
          obtain ⟨d1, d2, -, -⟩ := two_holds Hp6.out
          clear hb6 hpa
          have hkf : KeepF w ⟨b6, o6, none⟩ ⟨b6, o6 + 1, none⟩ ⟨w3.heap.size + 1, 0, none⟩ ⟨w3.heap.size + 1, 1, none⟩ (.string ⟨#[107]⟩) (.string ⟨vv.toArray⟩) w6 := ⟨⟨c1, c2, d1, d2⟩, Ht.out.below Hb6.out (Nat.le_refl _), Hb6.out⟩
          have Haw := Lib.hid (fun w1 ht => awake6_any w1 ht)
          go_wp2_with fail
          go_region_held3 (fun w' => w'.cell? ⟨b6, o6, none⟩ = some (.string ⟨#[107]⟩) ∧ w'.cell? ⟨b6, o6 + 1, none⟩ = some (.string ⟨vv.toArray⟩) ∧ w'.cell? ⟨w3.heap.size + 1, 0, none⟩ = some (.string ⟨#[107]⟩) ∧ w'.cell? ⟨w3.heap.size + 1, 1, none⟩ = some (.string ⟨vv.toArray⟩))
            (first | assumption | exact hkf.drew.1 | exact (hkf.drew.step hbA).1)
            (first
              | (go_at_call 7; refine (Haw.out _ hkf.drew.2.1).mono ?_; rintro e wA ⟨hbA, rfl⟩))
          have Hfin := Lib.hid (hkf.drew.step hbA).2.2
          clear hkf hbA c1 c2 d1 d2
          go_wp2
          go_ret
          exact ⟨Hfin.out, rfl⟩
        · have hrp : (0 : Int) < r := by omega
          have Q1 := Lib.hid (PP.out)
          rw [HBP.out.1 hr0] at Q1
          simp only at Q1
          clear hr0
          refine (Q1.out _ _ (PairsIn.one (k := [107]) Hx.out) (Ht.out.below Hb4.out (Nat.le_refl _))).mono ?_
          rintro e w5 ⟨hb5, rfl⟩
          have Hb5 := Lib.hid (Hb4.out.trans (hb5.mono Hb4.out.size))
          clear hb5
          go_wp2_with fail
          refine (awake6_any _ (Ht.out.below Hb5.out (Nat.le_refl _))).mono ?_
          rintro e w7 ⟨hb7, rfl⟩
          have Hb7 := Lib.hid (Hb5.out.trans (hb7.mono Hb5.out.size))
          clear hb7
          go_wp2
          go_ret
          exact ⟨Hb7.out, rfl⟩
      · rw [kP_print j (by omega)] at P1
        rw [kP_parse j (by omega)] at P2
        have hj6 : ¬ (256 : Int) < j := by omega
        clear h256
        simp only at P1 P2
        have HL := Lib.hid (show (List.replicate j kP).length = j by simp)
        generalize prTexts (List.replicate j kP) = tx at *
        generalize List.replicate j kP = L at *
        go_wp2_with fail
        refine (P1.out _ Hpi.out (Ht.out.below Hbw.out (Nat.le_refl _))).mono ?_
        rintro e w2 ⟨hb2, rfl⟩
        have Hb2 := Lib.hid (Hbw.out.trans (hb2.mono Hbw.out.size))
        clear hb2
        go_wp2_with fail
        refine (P2.out _).mono ?_
        rintro e w3 ⟨hb3, v3, rfl, hv3⟩
        have Hb3 := Lib.hid (Hb2.out.trans (hb3.mono Hb2.out.size))
        obtain ⟨ad3, cap3, rfl, -⟩ := hv3
        rw [HL.out]
        clear hb3
        go_wp2_with fail
        have Hx := Lib.hid (new2 w3 (.cells vc 5) (.cells #[.string ⟨#[107]⟩, .string ⟨vv.toArray⟩] 25) 25 [.string ⟨#[107]⟩, .string ⟨vv.toArray⟩])
        have Hp := Lib.hid (new1 w3 (.cells vc 5) (.cells #[.string ⟨#[107]⟩, .string ⟨vv.toArray⟩] 25) 25 [.string ⟨#[107]⟩, .string ⟨vv.toArray⟩])
        have Hb4 := Lib.hid (below3 Hb3.out (.cells vc 5) (.cells #[.string ⟨#[107]⟩, .string ⟨vv.toArray⟩] 25) (.cells #[.string ⟨#[107]⟩, .string ⟨vv.toArray⟩] 25))
        by_cases hr0 : r = 0
        · obtain ⟨hbp, hbl⟩ := HBP.out.2 hr0
          have Hpp := Lib.hid (parse_print hbp (fun p hp => by
            have hp2 : p = ([107], vv) := by simpa using hp
            have := Hvl.out
            have := Hm.out
            subst hp2
            simp only [List.length_cons, List.length_nil]
            omega))
          have Q1 := Lib.hid (PP.out)
          rw [hbp] at Q1
          have Q2 := Lib.hid (fun w1 => parse_any (prTexts [([107], vv)]) w1 (by omega))
          rw [Hpp.out] at Q2
          simp only at Q1 Q2
          have hpe := fun W => pair_eql ([107], vv) ([107], vv) W
          rw [decide_eq_true rfl] at hpe
          simp only at hpe
          have hbl2 : ((prTexts [([107], vv)]).length : Int) = 65536 := by omega
          generalize prTexts [([107], vv)] = txt at *
          clear hbp hbl
          subst hr0
          refine (Q1.out _ _ (PairsIn.one (k := [107]) Hx.out) (Ht.out.below Hb4.out (Nat.le_refl _))).mono ?_
          rintro e w5 ⟨hb5, rfl⟩
          have Hb5 := Lib.hid (Hb4.out.trans (hb5.mono Hb4.out.size))
          have Hp5 := Lib.hid (Hp.out.under hb5 Hp.out.lt)
          clear hb5
          go_wp2_with fail
          refine (Q2.out _).mono ?_
          rintro e w6 ⟨hb6, v6, rfl, hv6⟩
          have Hb6 := Lib.hid (Hb5.out.trans (hb6.mono Hb5.out.size))
          have Hp6 := Lib.hid (Hp5.out.under hb6 Hp5.out.lt)
          obtain ⟨ad6, cap6, rfl, hv6⟩ := hv6
          obtain ⟨b6, o6, rfl, -, hpa⟩ : ∃ b o, ad6 = some ⟨b, o, none⟩ ∧ b < w6.heap.size ∧ PairsAt w6 b o [([107], vv)] := by
            rcases hv6 with h | h
            · cases h
            · exact h
          obtain ⟨c1, c2⟩ := hpa 0 (by simp)
          simp only [Nat.zero_mul, Nat.add_zero, List.getElem_cons_zero] at c1 c2
          obtain ⟨d1, d2, -, -⟩ := two_holds Hp6.out
          clear hb6 hpa
          have hkf : KeepF w ⟨b6, o6, none⟩ ⟨b6, o6 + 1, none⟩ ⟨w3.heap.size + 1, 0, none⟩ ⟨w3.heap.size + 1, 1, none⟩ (.string ⟨#[107]⟩) (.string ⟨vv.toArray⟩) w6 := ⟨⟨c1, c2, d1, d2⟩, Ht.out.below Hb6.out (Nat.le_refl _), Hb6.out⟩
          have Haw := Lib.hid (fun w1 ht => awake6_any w1 ht)
          go_wp2_with fail
          go_region_held3 (fun w' => w'.cell? ⟨b6, o6, none⟩ = some (.string ⟨#[107]⟩) ∧ w'.cell? ⟨b6, o6 + 1, none⟩ = some (.string ⟨vv.toArray⟩) ∧ w'.cell? ⟨w3.heap.size + 1, 0, none⟩ = some (.string ⟨#[107]⟩) ∧ w'.cell? ⟨w3.heap.size + 1, 1, none⟩ = some (.string ⟨vv.toArray⟩))
            (first | assumption | exact hkf.drew.1 | exact (hkf.drew.step hbA).1)
            (first
              | (go_at_call 7; refine (Haw.out _ hkf.drew.2.1).mono ?_; rintro e wA ⟨hbA, rfl⟩))
          have Hfin := Lib.hid (hkf.drew.step hbA).2.2
          clear hkf hbA c1 c2 d1 d2
          go_wp2
          go_ret
          exact ⟨Hfin.out, rfl⟩
        · have hrp : (0 : Int) < r := by omega
          have Q1 := Lib.hid (PP.out)
          rw [HBP.out.1 hr0] at Q1
          simp only at Q1
          clear hr0
          refine (Q1.out _ _ (PairsIn.one (k := [107]) Hx.out) (Ht.out.below Hb4.out (Nat.le_refl _))).mono ?_
          rintro e w5 ⟨hb5, rfl⟩
          have Hb5 := Lib.hid (Hb4.out.trans (hb5.mono Hb4.out.size))
          clear hb5
          go_wp2_with fail
          refine (awake6_any _ (Ht.out.below Hb5.out (Nat.le_refl _))).mono ?_
          rintro e w7 ⟨hb7, rfl⟩
          have Hb7 := Lib.hid (Hb5.out.trans (hb7.mono Hb5.out.size))
          clear hb7
          go_wp2
          go_ret
          exact ⟨Hb7.out, rfl⟩
theorem walkI (a c : Int) (ha : 0 ≤ a ∧ a ≤ 255) (hc : 0 ≤ c ∧ c ≤ 255) (w : World) (ht : TabOk w) :
    Calls Tryd.prog 6 #[.int .u8 a, .int .u8 c] w fun e w' => Below w.heap.size w w' ∧ e = .returned (.bool true) := by
  obtain ⟨x, rfl⟩ := Int.eq_ofNat_of_zero_le ha.1
  obtain ⟨y, rfl⟩ := Int.eq_ofNat_of_zero_le hc.1
  exact walk x y (by omega) (by omega) w ht
end Go.Proofs.YtafglickbaeoeaaDoor.recordFull
