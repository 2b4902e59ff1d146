/-
  Texts of this seat's proof, joined: their order is that of the build.
-/
import Derived.Test.YtjmmecokfijglaaGreatDoorJB05
import Derived.Deep.CutBlock
import Derived.Deep.DeepCutAuto
import Derived.Deep.RegionHeld3
import Derived.Test.YtjmmecokfijglaaGreatDoorJB01
namespace Go.Proofs.YtjmmecokfijglaaGreatDoor
open Go.ChangeShapes Go.WideShapes Go.ChangeAt Go.RowKit

theorem head_size (h : Hd) : (Tryz.prog.info? 30).map (·.size) = some h.cells.toArray.size := by
  have : (Tryz.prog.info? 30).map (·.size) = some 13 := by kernel_rfl
  rw [this]; rfl

theorem contains_nul (l : List UInt8) (w : World) :
    Calls Tryz.prog 135 #[.string ⟨l.toArray⟩, .string ⟨#[0]⟩] w fun e w' => w = w' ∧ e = .returned (.bool (decide (0 ∈ l))) := by
  refine (Tryz.strings_Contains_one ⟨l.toArray⟩ 0 w).mono ?_
  rintro e w' ⟨rfl, rfl⟩
  refine ⟨rfl, ?_⟩
  have h := indexByte_nul l
  unfold Lib.contains at h
  rw [Lib.index_one] at h
  rw [← h]

/-- A head that was boxedH, and the rows that words made of it. -/
theorem boxedH {w w1 : World} {C D : List Value} {t u : TypeId} (hb : Below (w.alloc (.cells C.toArray t)).heap.size (w.alloc (.cells C.toArray t)) w1) (hd : Holds w1 (w.alloc (.cells C.toArray t)).heap.size u D) :
    Holds w1 w.heap.size t C ∧ Holds w1 (w.heap.size + 1) u D ∧ Below w.heap.size w w1 := by
  rw [World.size_alloc] at hd
  exact ⟨(Holds.new w t C).under hb (by simp), hd, ((Below.refl w.heap.size w).alloc (Nat.le_refl _) _).trans (hb.mono (by simp))⟩

theorem hasNul_any (h : Hd) (w : World) :
    Calls Tryz.prog 86 #[h.val] w fun e w' => Below w.heap.size w w' ∧ e = .returned (.bool (hdNul h)) := by
  have Hn := Lib.hid (fun k hk => hdNul_word h k hk)
  have Hr := Lib.hid (hdNul_rest h)
  have Hcw := Lib.hid (fun k hk => cells_word h k hk)
  have Hcn := Lib.hid (cells_name h)
  unfold Hd.val
  generalize wt h = wt at *
  generalize hdNul h = R at *
  generalize h.name = nm at *
  generalize h.cells = C at *
  go_enter Tryz.func86, Tryz.ntmps86
  go_wp2_with fail
  refine (words_any w.heap.size _).mono ?_
  rintro e w1 ⟨hb1, hd1, rfl⟩
  obtain ⟨h0, h1, hb⟩ := boxedH hb1 hd1
  clear hb1 hd1
  go_wp2_with fail
  go_loopw [7] (fun i wr => ∃ k : Nat, k ≤ 3 ∧ i = .int .i64 k ∧ Holds wr w.heap.size 30 C ∧ Holds wr (w.heap.size + 1) 105 (wordCells w.heap.size) ∧ Below w.heap.size w wr ∧ ∀ j, j < k → 0 ∉ wt j) (fun i _ => 3 - (intOf i).toNat)
  case atStart => exact ⟨0, by omega, rfl, h0, h1, hb, by intro j hj; omega⟩
  case round =>
    clear h0 h1 hb
    obtain ⟨k, hk, rfl, h0, h1, hb, hno⟩ := hrel
    have H0 := Lib.hid h0
    have H1 := Lib.hid h1
    have Hb := Lib.hid hb
    have Hno := Lib.hid hno
    have hsz : w.heap.size + 1 < wr.heap.size := h1.lt
    have hsz0 : w.heap.size < wr.heap.size := by omega
    clear h0 h1 hb hno
    by_cases hlt : k < 3
    · have c1 := H1.out.at (word_row w.heap.size k hlt).1
      have c2 := H1.out.at (word_row w.heap.size k hlt).2
      have c3 := H0.out.at (Hcw.out k hlt)
      by_cases hz : 0 ∈ wt k
      · have Hq := Lib.hid (Hn.out k hlt hz)
        have Hc := Lib.hid (fun w => contains_nul (wt k) w)
        rw [decide_eq_true hz] at Hc
        clear hz
        generalize wt k = x at *
        generalize wordF k = f at *
        generalize wordI k = i at *
        go_wp2_with fail
        refine (Hc.out _).mono ?_
        rintro e w' ⟨rfl, rfl⟩
        go_wp2
        go_ret
        rw [Hq.out]
        exact ⟨Hb.out.alloc Hb.out.size _, rfl⟩
      · have Hc := Lib.hid (fun w => contains_nul (wt k) w)
        rw [decide_eq_false hz] at Hc
        have Hz := Lib.hid hz
        clear hz
        generalize hx : wt k = x at *
        have Hx := Lib.hid hx
        clear hx
        generalize wordF k = f at *
        generalize wordI k = i at *
        go_wp2_with fail
        refine (Hc.out _).mono ?_
        rintro e w' ⟨rfl, rfl⟩
        go_wp2
        go_roundw
        case rel =>
          refine ⟨k + 1, by omega, by go_num, H0.out.behind _, H1.out.behind _, Hb.out.alloc Hb.out.size _, fun j hj => ?_⟩
          rcases Nat.lt_succ_iff_lt_or_eq.1 hj with h | rfl
          · exact Hno.out j h
          · rw [Hx.out]; exact Hz.out
        case measure => simp [intOf]; omega
    · have Hq := Lib.hid (Hr.out (fun j hj => Hno.out j (by omega)))
      have c3 := H0.out.at Hcn.out
      go_wp2_with fail
      refine (contains_nul nm _).mono ?_
      rintro e w' ⟨rfl, rfl⟩
      go_wp2
      go_ret
      rw [Hq.out]
      exact ⟨Hb.out, rfl⟩

theorem place_size (s n : Int) (W : World) : (Instr.field 114 (.agg #[.int .i64 s, .int .i64 n]) 1).run Tryz.prog W = .ok (.int .i64 n) W := by kernel_rfl

/-- What a region keeps: the old blocks, and three cells that it loads. -/
def Keep3 (a : World) (p q r : Addr) (u v x : Value) (w : World) : Prop :=
  Below a.heap.size a w ∧ (w.cell? p = some u ∧ w.cell? q = some v ∧ w.cell? r = some x) ∧ p.block < a.heap.size ∧ q.block < a.heap.size ∧ r.block < a.heap.size
theorem Keep3.step {a : World} {p q r : Addr} {u v x : Value} {w w' : World} (k : Keep3 a p q r u v x w) (hb : Below w.heap.size w w') : Keep3 a p q r u v x w' := by
  obtain ⟨k1, ⟨k2, k3, k4⟩, k5, k6, k7⟩ := k
  have hz := k1.size
  exact ⟨k1.trans (hb.mono hz), ⟨by rw [hb.cell (by omega)]; exact k2, by rw [hb.cell (by omega)]; exact k3, by rw [hb.cell (by omega)]; exact k4⟩, k5, k6, k7⟩
theorem Keep3.drew {a : World} {p q r : Addr} {u v x : Value} {w : World} (k : Keep3 a p q r u v x w) : Keep3 a p q r u v x w.drew := k.step ⟨rfl, rfl, rfl, Nat.le_refl _, fun _ _ => rfl⟩
theorem Keep3.all {a : World} {p q r : Addr} {u v x : Value} {w : World} (k : Keep3 a p q r u v x w) : Keep3 a p q r u v x w ∧ w.cell? p = some u ∧ w.cell? q = some v ∧ w.cell? r = some x := ⟨k, k.2.1⟩

theorem Keep3.start {wr : World} {t : TypeId} {u v x : Value} {hb i : Nat} (hlt : hb < wr.heap.size) (c : wr.cell? ⟨hb, i, none⟩ = some x) :
    Keep3 (wr.alloc (.cells #[u, v] t)) ⟨wr.heap.size, 0, none⟩ ⟨wr.heap.size, 1, none⟩ ⟨hb, i, none⟩ u v x (wr.alloc (.cells #[u, v] t)) := by
  have h := Holds.new wr t [u, v]
  refine ⟨Below.refl _ _, ⟨h.cell (i := 0) (by simp), h.cell (i := 1) (by simp), ?_⟩, by simp, by simp, by simp; omega⟩
  rw [((Below.refl wr.heap.size wr).alloc (Nat.le_refl _) (.cells #[u, v] t)).cell (p := ⟨hb, i, none⟩) hlt]
  exact c

theorem textsFit_any (h : Hd) (w : World) (hl : h.name.length ≤ 9223372036854775807) :
    Calls Tryz.prog 87 #[h.val] w fun e w' => Below w.heap.size w w' ∧ e = .returned (.bool (hdTexts h)) := by
  have Hn := Lib.hid (fun k hk => hdTexts_word h k hk)
  have Hr := Lib.hid (hdTexts_rest h)
  have Hcw := Lib.hid (fun k hk => cells_word h k hk)
  have Hcn := Lib.hid (cells_name h)
  have Hp := Lib.hid (fun w => tPart_any h.name w hl)
  clear hl
  unfold Hd.val
  generalize wt h = wt at *
  generalize hdTexts h = R at *
  generalize h.name = nm at *
  generalize h.cells = C at *
  go_enter Tryz.func87, Tryz.ntmps87
  go_wp2_with fail
  refine (words_any w.heap.size _).mono ?_
  rintro e w1 ⟨hb1, hd1, rfl⟩
  obtain ⟨h0, h1, hb⟩ := boxedH hb1 hd1
  clear hb1 hd1
  go_wp2_with fail
  go_loopw [10] (fun i wr => ∃ k : Nat, k ≤ 3 ∧ i = .int .i64 k ∧ Holds wr w.heap.size 30 C ∧ Holds wr (w.heap.size + 1) 105 (wordCells w.heap.size) ∧ Below w.heap.size w wr ∧ ∀ j, j < k → (wt j).length ≤ plN (wordF j)) (fun i _ => 3 - (intOf i).toNat)
  case atStart => exact ⟨0, by omega, rfl, h0, h1, hb, by intro j hj; omega⟩
  case round =>
    clear h0 h1 hb
    obtain ⟨k, hk, rfl, h0, h1, hb, hno⟩ := hrel
    have H0 := Lib.hid h0
    have H1 := Lib.hid h1
    have Hb := Lib.hid hb
    have Hno := Lib.hid hno
    have hsz : w.heap.size + 1 < wr.heap.size := h1.lt
    have hsz0 : w.heap.size < wr.heap.size := by omega
    clear h0 h1 hb hno
    by_cases hlt : k < 3
    · have c1 := H1.out.at (word_row w.heap.size k hlt).1
      have c2 := H1.out.at (word_row w.heap.size k hlt).2
      have c3 := H0.out.at (Hcw.out k hlt)
      have Hpl := Lib.hid (fun w => placeOf_any (wordF k) w (by rcases lt3 hlt with rfl | rfl | rfl <;> decide))
      by_cases hz : plN (wordF k) < (wt k).length
      · have Hq := Lib.hid (Hn.out k hlt hz)
        have e1 : ((plN (wordF k) : Nat) : Int) < (((wt k).length : Nat) : Int) := by omega
        clear hz
        generalize plN (wordF k) = n at *
        generalize plS (wordF k) = s at *
        generalize wt k = x at *
        generalize wordF k = f at *
        generalize wordI k = i at *
        go_wp2_with fail
        have Ka := Lib.hid (Keep3.start (t := 105) (u := .int .i64 f) (v := .pointer (some ⟨w.heap.size, i, none⟩)) hsz0 c3)
        have H0a := Lib.hid (H0.out.behind (.cells #[.int .i64 f, .pointer (some ⟨w.heap.size, i, none⟩)] 105))
        have H1a := Lib.hid (H1.out.behind (.cells #[.int .i64 f, .pointer (some ⟨w.heap.size, i, none⟩)] 105))
        have Hba := Lib.hid (Hb.out.alloc Hb.out.size (.cells #[.int .i64 f, .pointer (some ⟨w.heap.size, i, none⟩)] 105))
        generalize wr.alloc (.cells #[.int .i64 f, .pointer (some ⟨w.heap.size, i, none⟩)] 105) = wa at *
        have hk := Ka.out
        have hfld := place_size s n
        clear c1 c2 c3 Ka H0 H1 Hb
        go_region_held3 (fun w' => Keep3 wa ⟨wr.heap.size, 0, none⟩ ⟨wr.heap.size, 1, none⟩ ⟨w.heap.size, i, none⟩ (.int .i64 f) (.pointer (some ⟨w.heap.size, i, none⟩)) (.string ⟨x.toArray⟩) w' ∧ w'.cell? ⟨wr.heap.size, 0, none⟩ = some (.int .i64 f) ∧ w'.cell? ⟨wr.heap.size, 1, none⟩ = some (.pointer (some ⟨w.heap.size, i, none⟩)) ∧ w'.cell? ⟨w.heap.size, i, none⟩ = some (.string ⟨x.toArray⟩))
          (first | assumption | exact Keep3.all (Keep3.drew hk) | exact Keep3.all (Keep3.step (Keep3.drew hk) hbA) | exact Keep3.all (Keep3.step (And.left (by assumption)) hbA))
          ((go_at_call 42; refine (Hpl.out _).mono ?_; rintro e wA ⟨hbA, rfl⟩))
        clear hfld
        have hS : Keep3 wa ⟨wr.heap.size, 0, none⟩ ⟨wr.heap.size, 1, none⟩ ⟨w.heap.size, i, none⟩ (.int .i64 f) (.pointer (some ⟨w.heap.size, i, none⟩)) (.string ⟨x.toArray⟩) wA := by first | assumption | exact And.left (by assumption)
        go_wp2
        go_ret
        rw [Hq.out]
        exact ⟨Hba.out.trans (hS.1.mono Hba.out.size), rfl⟩
      · have e1 : ¬ ((plN (wordF k) : Nat) : Int) < (((wt k).length : Nat) : Int) := by omega
        have Hz := Lib.hid (show (wt k).length ≤ plN (wordF k) by omega)
        clear hz
        generalize hn : plN (wordF k) = n at *
        have Hx := Lib.hid hn
        clear hn
        generalize plS (wordF k) = s at *
        generalize hx : wt k = x at *
        have Hx2 := Lib.hid hx
        clear hx
        generalize hf : wordF k = f at *
        have Hf := Lib.hid hf
        clear hf
        generalize wordI k = i at *
        go_wp2_with fail
        have Ka := Lib.hid (Keep3.start (t := 105) (u := .int .i64 f) (v := .pointer (some ⟨w.heap.size, i, none⟩)) hsz0 c3)
        have H0a := Lib.hid (H0.out.behind (.cells #[.int .i64 f, .pointer (some ⟨w.heap.size, i, none⟩)] 105))
        have H1a := Lib.hid (H1.out.behind (.cells #[.int .i64 f, .pointer (some ⟨w.heap.size, i, none⟩)] 105))
        have Hba := Lib.hid (Hb.out.alloc Hb.out.size (.cells #[.int .i64 f, .pointer (some ⟨w.heap.size, i, none⟩)] 105))
        generalize wr.alloc (.cells #[.int .i64 f, .pointer (some ⟨w.heap.size, i, none⟩)] 105) = wa at *
        have hk := Ka.out
        have hfld := place_size s n
        clear c1 c2 c3 Ka H0 H1 Hb
        go_region_held3 (fun w' => Keep3 wa ⟨wr.heap.size, 0, none⟩ ⟨wr.heap.size, 1, none⟩ ⟨w.heap.size, i, none⟩ (.int .i64 f) (.pointer (some ⟨w.heap.size, i, none⟩)) (.string ⟨x.toArray⟩) w' ∧ w'.cell? ⟨wr.heap.size, 0, none⟩ = some (.int .i64 f) ∧ w'.cell? ⟨wr.heap.size, 1, none⟩ = some (.pointer (some ⟨w.heap.size, i, none⟩)) ∧ w'.cell? ⟨w.heap.size, i, none⟩ = some (.string ⟨x.toArray⟩))
          (first | assumption | exact Keep3.all (Keep3.drew hk) | exact Keep3.all (Keep3.step (Keep3.drew hk) hbA) | exact Keep3.all (Keep3.step (And.left (by assumption)) hbA))
          ((go_at_call 42; refine (Hpl.out _).mono ?_; rintro e wA ⟨hbA, rfl⟩))
        clear hfld
        have hS : Keep3 wa ⟨wr.heap.size, 0, none⟩ ⟨wr.heap.size, 1, none⟩ ⟨w.heap.size, i, none⟩ (.int .i64 f) (.pointer (some ⟨w.heap.size, i, none⟩)) (.string ⟨x.toArray⟩) wA := by first | assumption | exact And.left (by assumption)
        go_wp2
        go_roundw
        case rel =>
          refine ⟨k + 1, by omega, by go_num, H0a.out.under hS.1 H0a.out.lt, H1a.out.under hS.1 H1a.out.lt, Hba.out.trans (hS.1.mono Hba.out.size), fun j hj => ?_⟩
          rcases Nat.lt_succ_iff_lt_or_eq.1 hj with h | rfl
          · exact Hno.out j h
          · rw [Hf.out, Hx2.out, Hx.out]; exact Hz.out
        case measure => simp [intOf]; omega
    · have Hq := Lib.hid (Hr.out (fun j hj => Hno.out j (by omega)))
      have c3 := H0.out.at Hcn.out
      clear Hr Hno
      go_wp2_with fail
      refine (Hp.out _).mono ?_
      rintro e w2 ⟨hb2, rfl⟩
      have Hb2 := Lib.hid (Hb.out.trans (hb2.mono Hb.out.size))
      clear hb2
      generalize txtPart nm = o at *
      rcases o with _ | ⟨p, b⟩
      all_goals
        unfold part3
        go_wp2
        go_ret
        rw [Hq.out]
        exact ⟨Hb2.out, rfl⟩

theorem numbersFit_any (h : Hd) (w : World) (hok : h.okN) :
    Calls Tryz.prog 88 #[h.val] w fun e w' => Below w.heap.size w w' ∧ e = .returned (.bool (hdNums h)) := by
  have Hn := Lib.hid (fun k hk => hdNums_no h k hk)
  have Hr := Lib.hid (hdNums_yes h)
  have Hcw := Lib.hid (fun k hk => cells_num h k hk)
  have Hoc := Lib.hid (fun k (hk : k < 7) w => octal_all (nv h k) (plN (numF k)) w (hok k hk) (by have := pl_bd (numF k) (by rcases lt7 hk with rfl | rfl | rfl | rfl | rfl | rfl | rfl <;> decide); omega))
  clear hok
  unfold Hd.val
  generalize nv h = wt at *
  generalize hdNums h = R at *
  generalize h.cells = C at *
  go_enter Tryz.func88, Tryz.ntmps88
  go_wp2_with fail
  refine (numbers_any w.heap.size _).mono ?_
  rintro e w1 ⟨hb1, hd1, rfl⟩
  obtain ⟨h0, h1, hb⟩ := boxedH hb1 hd1
  clear hb1 hd1
  go_wp2_with fail
  go_loopw [9] (fun i wr => ∃ k : Nat, k ≤ 7 ∧ i = .int .i64 k ∧ Holds wr w.heap.size 30 C ∧ Holds wr (w.heap.size + 1) 110 (numCells w.heap.size) ∧ Below w.heap.size w wr ∧ ∀ j, j < k → (octalOf (wt j) (plN (numF j))).isSome = true) (fun i _ => 7 - (intOf i).toNat)
  case atStart => exact ⟨0, by omega, rfl, h0, h1, hb, by intro j hj; omega⟩
  case round =>
    clear h0 h1 hb
    obtain ⟨k, hk, rfl, h0, h1, hb, hno⟩ := hrel
    have H0 := Lib.hid h0
    have H1 := Lib.hid h1
    have Hb := Lib.hid hb
    have Hno := Lib.hid hno
    have hsz : w.heap.size + 1 < wr.heap.size := h1.lt
    have hsz0 : w.heap.size < wr.heap.size := by omega
    clear h0 h1 hb hno
    by_cases hlt : k < 7
    · have c1 := H1.out.at (num_row w.heap.size k hlt).1
      have c2 := H1.out.at (num_row w.heap.size k hlt).2
      have c3 := H0.out.at (Hcw.out k hlt)
      have Hpl := Lib.hid (fun w => placeOf_any (numF k) w (by rcases lt7 hlt with rfl | rfl | rfl | rfl | rfl | rfl | rfl <;> decide))
      have Hoc := Lib.hid (Hoc.out k hlt)
      cases hz : (octalOf (wt k) (plN (numF k))).isSome
      · have Hq := Lib.hid (Hn.out k hlt hz)
        rw [hz] at Hoc
        clear hz Hn Hr Hno
        generalize ((octalOf (wt k) (plN (numF k))).getD []) = y at *
        generalize plN (numF k) = n at *
        generalize plS (numF k) = s at *
        generalize wt k = x at *
        generalize numF k = f at *
        generalize numI k = i at *
        go_wp2_with fail
        have Ka := Lib.hid (Keep3.start (t := 110) (u := .int .i64 f) (v := .pointer (some ⟨w.heap.size, i, none⟩)) hsz0 c3)
        have H0a := Lib.hid (H0.out.behind (.cells #[.int .i64 f, .pointer (some ⟨w.heap.size, i, none⟩)] 110))
        have H1a := Lib.hid (H1.out.behind (.cells #[.int .i64 f, .pointer (some ⟨w.heap.size, i, none⟩)] 110))
        have Hba := Lib.hid (Hb.out.alloc Hb.out.size (.cells #[.int .i64 f, .pointer (some ⟨w.heap.size, i, none⟩)] 110))
        generalize wr.alloc (.cells #[.int .i64 f, .pointer (some ⟨w.heap.size, i, none⟩)] 110) = wa at *
        have hk := Ka.out
        have hfld := place_size s n
        clear c1 c2 c3 Ka H0 H1 Hb
        go_region_held3 (fun w' => Keep3 wa ⟨wr.heap.size, 0, none⟩ ⟨wr.heap.size, 1, none⟩ ⟨w.heap.size, i, none⟩ (.int .i64 f) (.pointer (some ⟨w.heap.size, i, none⟩)) (.int .i64 x) w' ∧ w'.cell? ⟨wr.heap.size, 0, none⟩ = some (.int .i64 f) ∧ w'.cell? ⟨wr.heap.size, 1, none⟩ = some (.pointer (some ⟨w.heap.size, i, none⟩)) ∧ w'.cell? ⟨w.heap.size, i, none⟩ = some (.int .i64 x))
          (first | assumption | exact Keep3.all (Keep3.drew hk) | exact Keep3.all (Keep3.step (Keep3.drew hk) hbA) | exact Keep3.all (Keep3.step (And.left (by assumption)) hbA))
          (first
            | (go_at_call 42; refine (Hpl.out _).mono ?_; rintro e wA ⟨hbA, rfl⟩)
            | (go_at_call 41; refine (Hoc.out _).mono ?_; rintro e wA ⟨hbA, rfl⟩))
        clear hfld
        have hS : Keep3 wa ⟨wr.heap.size, 0, none⟩ ⟨wr.heap.size, 1, none⟩ ⟨w.heap.size, i, none⟩ (.int .i64 f) (.pointer (some ⟨w.heap.size, i, none⟩)) (.int .i64 x) wA := by first | assumption | exact And.left (by assumption)
        go_wp2
        go_ret
        rw [Hq.out]
        exact ⟨Hba.out.trans (hS.1.mono Hba.out.size), rfl⟩
      · have Hz := Lib.hid hz
        rw [hz] at Hoc
        have Hno' := Lib.hid (show ∀ j, j < k + 1 → (octalOf (wt j) (plN (numF j))).isSome = true by
          intro j hj
          rcases Nat.lt_succ_iff_lt_or_eq.1 hj with h | rfl
          · exact Hno.out j h
          · exact hz)
        clear hz Hn Hr Hno Hz
        generalize ((octalOf (wt k) (plN (numF k))).getD []) = y at *
        have hHn : ∃ P : Prop, P ∧ (P → ∀ j, j < k + 1 → (octalOf (wt j) (plN (numF j))).isSome = true) := ⟨True, trivial, fun _ => Hno'.out⟩
        obtain ⟨P, hP, hPP⟩ := hHn
        have HP := Lib.hid hPP
        have HP0 := Lib.hid hP
        clear hPP hP Hno'
        generalize hn : plN (numF k) = n at *
        generalize hs : plS (numF k) = s at *
        generalize hx : wt k = x at *
        generalize hf : numF k = f at *
        generalize hi : numI k = i at *
        clear hn hs hx hf hi
        go_wp2_with fail
        have Ka := Lib.hid (Keep3.start (t := 110) (u := .int .i64 f) (v := .pointer (some ⟨w.heap.size, i, none⟩)) hsz0 c3)
        have H0a := Lib.hid (H0.out.behind (.cells #[.int .i64 f, .pointer (some ⟨w.heap.size, i, none⟩)] 110))
        have H1a := Lib.hid (H1.out.behind (.cells #[.int .i64 f, .pointer (some ⟨w.heap.size, i, none⟩)] 110))
        have Hba := Lib.hid (Hb.out.alloc Hb.out.size (.cells #[.int .i64 f, .pointer (some ⟨w.heap.size, i, none⟩)] 110))
        generalize wr.alloc (.cells #[.int .i64 f, .pointer (some ⟨w.heap.size, i, none⟩)] 110) = wa at *
        have hk := Ka.out
        have hfld := place_size s n
        clear c1 c2 c3 Ka H0 H1 Hb
        go_region_held3 (fun w' => Keep3 wa ⟨wr.heap.size, 0, none⟩ ⟨wr.heap.size, 1, none⟩ ⟨w.heap.size, i, none⟩ (.int .i64 f) (.pointer (some ⟨w.heap.size, i, none⟩)) (.int .i64 x) w' ∧ w'.cell? ⟨wr.heap.size, 0, none⟩ = some (.int .i64 f) ∧ w'.cell? ⟨wr.heap.size, 1, none⟩ = some (.pointer (some ⟨w.heap.size, i, none⟩)) ∧ w'.cell? ⟨w.heap.size, i, none⟩ = some (.int .i64 x))
          (first | assumption | exact Keep3.all (Keep3.drew hk) | exact Keep3.all (Keep3.step (Keep3.drew hk) hbA) | exact Keep3.all (Keep3.step (And.left (by assumption)) hbA))
          (first
            | (go_at_call 42; refine (Hpl.out _).mono ?_; rintro e wA ⟨hbA, rfl⟩)
            | (go_at_call 41; refine (Hoc.out _).mono ?_; rintro e wA ⟨hbA, rfl⟩))
        clear hfld
        have hS : Keep3 wa ⟨wr.heap.size, 0, none⟩ ⟨wr.heap.size, 1, none⟩ ⟨w.heap.size, i, none⟩ (.int .i64 f) (.pointer (some ⟨w.heap.size, i, none⟩)) (.int .i64 x) wA := by first | assumption | exact And.left (by assumption)
        go_wp2
        go_roundw
        case rel => exact ⟨k + 1, by omega, by go_num, H0a.out.under hS.1 H0a.out.lt, H1a.out.under hS.1 H1a.out.lt, Hba.out.trans (hS.1.mono Hba.out.size), HP.out HP0.out⟩
        case measure => simp [intOf]; omega
    · have Hq := Lib.hid (Hr.out (fun j hj => Hno.out j (by omega)))
      clear Hr Hno Hn
      go_wp2
      go_ret
      rw [Hq.out]
      exact ⟨Hb.out, rfl⟩

theorem fits_any (h : Hd) (w : World) (hok : h.okN) (hl : h.name.length ≤ 9223372036854775807) :
    Calls Tryz.prog 36 #[h.val] w fun e w' => Below w.heap.size w w' ∧ e = .returned (.int .i64 (hdFits h)) := by
  have H1 := Lib.hid (fun w => hasNul_any h w)
  have H2 := Lib.hid (fun w => textsFit_any h w hl)
  have H3 := Lib.hid (fun w => numbersFit_any h w hok)
  have Hq := Lib.hid (show hdFits h = if hdNul h then 2 else if hdTexts h then (if hdNums h then 0 else 6) else 12 from rfl)
  have Hs := Lib.hid (head_size h)
  have Ho := Lib.hid (Holds.new w 30 h.cells)
  clear hok hl
  unfold Hd.val at *
  generalize hdFits h = R at *
  generalize hdNul h = b1 at *
  generalize hdTexts h = b2 at *
  generalize hdNums h = b3 at *
  generalize h.cells = C at *
  go_enter Tryz.func36, Tryz.ntmps36
  go_wp2_with (first
    | (refine wpList_load_row (by rfl) 30 _ (by rfl) w.heap.size (by rfl) _ _ _ _ Ho.out Tryz.underlying30 rfl Hs.out ?_)
    | fail)
  refine (H1.out _).mono ?_
  rintro e w1 ⟨hb1, rfl⟩
  have Hb1 := Lib.hid (((Below.refl w.heap.size w).alloc (Nat.le_refl _) _).trans (hb1.mono (by simp)))
  have Ho1 := Lib.hid (Ho.out.under hb1 Ho.out.lt)
  clear hb1 Ho
  cases b1
  · go_wp2_with (first
      | (refine wpList_load_row (by rfl) 30 _ (by rfl) w.heap.size (by rfl) _ _ _ _ Ho1.out Tryz.underlying30 rfl Hs.out ?_)
      | fail)
    refine (H2.out _).mono ?_
    rintro e w2 ⟨hb2, rfl⟩
    have Hb2 := Lib.hid (Hb1.out.trans (hb2.mono Hb1.out.size))
    have Ho2 := Lib.hid (Ho1.out.under hb2 Ho1.out.lt)
    clear hb2 Ho1
    cases b2
    · go_wp2
      go_ret
      rw [Hq.out]
      exact ⟨Hb2.out, rfl⟩
    · go_wp2_with (first
        | (refine wpList_load_row (by rfl) 30 _ (by rfl) w.heap.size (by rfl) _ _ _ _ Ho2.out Tryz.underlying30 rfl Hs.out ?_)
        | fail)
      refine (H3.out _).mono ?_
      rintro e w3 ⟨hb3, rfl⟩
      have Hb3 := Lib.hid (Hb2.out.trans (hb3.mono Hb2.out.size))
      clear hb3 Ho2
      cases b3
      all_goals
        go_wp2
        go_ret
        rw [Hq.out]
        exact ⟨Hb3.out, rfl⟩
  · go_wp2
    go_ret
    rw [Hq.out]
    exact ⟨Hb1.out, rfl⟩
end Go.Proofs.YtjmmecokfijglaaGreatDoor
namespace Go.Proofs.YtjmmecokfijglaaGreatDoor
open Go.ChangeShapes Go.WideShapes Go.ChangeAt Go.RowKit

theorem grown_setCell (w : World) (p : Addr) (u : Value) : w.grownBy (w.setCell p u) (some p.block) :=
  ⟨rfl, rfl, rfl, by simp [World.setCell], fun k _ hne => Below.heap_setCell w p u k (fun e => hne (by rw [e]))⟩
theorem grown_below {w w' : World} (hb : Below w.heap.size w w') (row : Option Nat) : w.grownBy w' row := ⟨hb.os, hb.tape, hb.output, hb.size, fun k hk _ => hb.block k hk⟩
theorem grown_trans {a b c : World} {row : Option Nat} (h : a.grownBy b row) (g : b.grownBy c row) : a.grownBy c row :=
  ⟨g.os.trans h.os, g.tape.trans h.tape, g.output.trans h.output, Nat.le_trans h.size g.size, fun k hk hne => (g.block k (Nat.lt_of_lt_of_le hk h.size) hne).trans (h.block k hk hne)⟩
/-- The cells of a head that lies behind fifteen others. -/
theorem head_at {w : World} {b : Nat} {t : TypeId} {mc : List Value} (hm : mc.length = 15) {h : Hd} (H : Holds w b t (mc ++ h.cells)) (j : Nat) (v : Value) (hj : h.cells[j]? = some v) : w.cell? ⟨b, 15 + j, none⟩ = some v := by
  refine H.at ?_
  rw [List.getElem?_append_right (by omega), hm, Nat.add_sub_cancel_left]
  exact hj
theorem head_set {mc : List Value} (hm : mc.length = 15) {h h' : Hd} {j : Nat} {v : Value} (hs : h.cells.set j v = h'.cells) : (mc ++ h.cells).set (15 + j) v = mc ++ h'.cells := by
  rw [List.set_append_right _ _ (by omega), hm, Nat.add_sub_cancel_left, hs]
def Cells13 (b : Nat) (h : Hd) (w : World) : Prop := w.cell? ⟨b, 15, none⟩ = some (.string ⟨h.name.toArray⟩) ∧ w.cell? ⟨b, 16, none⟩ = some (.string ⟨h.link.toArray⟩) ∧ w.cell? ⟨b, 17, none⟩ = some (.int .u8 h.kind) ∧ w.cell? ⟨b, 18, none⟩ = some (.int .i64 h.mode) ∧ w.cell? ⟨b, 19, none⟩ = some (.int .i64 h.uid) ∧ w.cell? ⟨b, 20, none⟩ = some (.int .i64 h.gid) ∧ w.cell? ⟨b, 21, none⟩ = some (.int .i64 h.size) ∧ w.cell? ⟨b, 22, none⟩ = some (.int .i64 h.time) ∧ w.cell? ⟨b, 23, none⟩ = some (.string ⟨h.uname.toArray⟩) ∧ w.cell? ⟨b, 24, none⟩ = some (.string ⟨h.gname.toArray⟩) ∧ w.cell? ⟨b, 25, none⟩ = some (.int .i64 h.major) ∧ w.cell? ⟨b, 26, none⟩ = some (.int .i64 h.minor) ∧ w.cell? ⟨b, 27, none⟩ = some (.int .i64 h.form)
theorem cells13 {w : World} {b : Nat} {t : TypeId} {mc : List Value} (hm : mc.length = 15) {h : Hd} (H : Holds w b t (mc ++ h.cells)) : Cells13 b h w :=
  ⟨head_at hm H 0 _ rfl, head_at hm H 1 _ rfl, head_at hm H 2 _ rfl, head_at hm H 3 _ rfl, head_at hm H 4 _ rfl, head_at hm H 5 _ rfl, head_at hm H 6 _ rfl, head_at hm H 7 _ rfl, head_at hm H 8 _ rfl, head_at hm H 9 _ rfl, head_at hm H 10 _ rfl, head_at hm H 11 _ rfl, head_at hm H 12 _ rfl⟩

/-- The head, as putIn leaves it. -/
def putEnd (h h' : Hd) : Hd := if hdFits h' = 0 then h' else h
set_option maxRecDepth 100000 in
set_option maxHeartbeats 1000000 in
theorem putInt_any (mc : List Value) (hm : mc.length = 15) (h h' : Hd) (i : Nat) (x v : Int) (hx : h.cells[i]? = some (.int .i64 x)) (hs : h.cells.set i (.int .i64 v) = h'.cells) (hs' : h'.cells.set i (.int .i64 x) = h.cells)
    (hok : h'.okN) (hl : h'.name.length ≤ 9223372036854775807) (b : Nat) (w : World) (hh : Holds w b 78 (mc ++ h.cells)) :
    Calls Tryz.prog 133 #[.pointer (some ⟨b, 15, none⟩), .pointer (some ⟨b, 15 + i, none⟩), .int .i64 v] w fun e w' =>
      w.grownBy w' (some b) ∧ Holds w' b 78 (mc ++ (putEnd h h').cells) ∧ e = .returned (.bool (hdFits h' == 0)) := by
  have Hm := Lib.hid hm
  have c0 := head_at hm hh i _ hx
  have f0 := hh.frozen (15 + i)
  have hfit := fun w1 => fits_any h' w1 hok hl
  have H1 := Lib.hid (show Holds (w.setCell ⟨b, 15 + i, none⟩ (.int .i64 v)) b 78 (mc ++ h'.cells) by rw [← head_set hm hs]; exact hh.put (15 + i) _)
  have G1 := Lib.hid (show w.grownBy (w.setCell ⟨b, 15 + i, none⟩ (.int .i64 v)) (some b) from grown_setCell w ⟨b, 15 + i, none⟩ (.int .i64 v))
  have Hs' := Lib.hid (head_set hm hs')
  have hv' := (show (mc ++ h'.cells)[15 + i]? = some (.int .i64 v) by
    rw [List.getElem?_append_right (by omega), hm, Nat.add_sub_cancel_left, ← hs, List.getElem?_set_self (List.getElem?_eq_some_iff.1 hx).1])
  have Hv' := Lib.hid hv'
  have HE := Lib.hid (show (if hdFits h' = 0 then h' else h) = putEnd h h' from rfl)
  clear hh hx hs hs' hok hl hv'
  generalize putEnd h h' = E at *
  generalize hdFits h' = R at *
  go_enter Tryz.func133, Tryz.ntmps133
  go_upto_region 3 with (fail)
  generalize w.setCell ⟨b, 15 + i, none⟩ (.int .i64 v) = w1 at *
  obtain ⟨z0, z1, z2, z3, z4, z5, z6, z7, z8, z9, z10, z11, z12⟩ := cells13 hm H1.out
  have hval : h'.val = .agg #[.string ⟨h'.name.toArray⟩, .string ⟨h'.link.toArray⟩, .int .u8 h'.kind, .int .i64 h'.mode, .int .i64 h'.uid, .int .i64 h'.gid, .int .i64 h'.size, .int .i64 h'.time, .string ⟨h'.uname.toArray⟩, .string ⟨h'.gname.toArray⟩, .int .i64 h'.major, .int .i64 h'.minor, .int .i64 h'.form] := rfl
  rw [hval] at hfit
  have Hfit := Lib.hid hfit
  clear hfit hval hm c0 f0
  go_wp2_with (fail)
  refine (Hfit.out _).mono ?_
  rintro e w2 ⟨hb2, rfl⟩
  have H2 := Lib.hid (H1.out.under hb2 H1.out.lt)
  have G2 := Lib.hid (grown_trans G1.out (grown_below hb2 (some b)))
  clear hb2 z0 z1 z2 z3 z4 z5 z6 z7 z8 z9 z10 z11 z12 Hfit H1 G1
  by_cases hR : R = 0
  · subst hR
    go_wp2
    go_ret
    rw [← HE.out]
    exact ⟨G2.out, H2.out, rfl⟩
  · have hR0 : (R == 0) = false := by simpa using hR
    have HR := Lib.hid hR
    have c2 := H2.out.at Hv'.out
    have f2 := H2.out.frozen (15 + i)
    clear hR
    go_wp2
    go_ret
    rw [← HE.out, if_neg HR.out]
    exact ⟨grown_trans G2.out (grown_setCell w2 ⟨b, 15 + i, none⟩ _), by rw [← Hs'.out]; exact H2.out.put (15 + i) _, by simp [hR0]⟩

set_option maxRecDepth 100000 in
set_option maxHeartbeats 1000000 in
theorem putText_any (mc : List Value) (hm : mc.length = 15) (h h' : Hd) (i : Nat) (x v : List UInt8) (hx : h.cells[i]? = some (.string ⟨x.toArray⟩)) (hs : h.cells.set i (.string ⟨v.toArray⟩) = h'.cells) (hs' : h'.cells.set i (.string ⟨x.toArray⟩) = h.cells)
    (hok : h'.okN) (hl : h'.name.length ≤ 9223372036854775807) (b : Nat) (w : World) (hh : Holds w b 78 (mc ++ h.cells)) :
    Calls Tryz.prog 138 #[.pointer (some ⟨b, 15, none⟩), .pointer (some ⟨b, 15 + i, none⟩), .string ⟨v.toArray⟩] w fun e w' =>
      w.grownBy w' (some b) ∧ Holds w' b 78 (mc ++ (putEnd h h').cells) ∧ e = .returned (.bool (hdFits h' == 0)) := by
  have Hm := Lib.hid hm
  have c0 := head_at hm hh i _ hx
  have f0 := hh.frozen (15 + i)
  have hfit := fun w1 => fits_any h' w1 hok hl
  have H1 := Lib.hid (show Holds (w.setCell ⟨b, 15 + i, none⟩ (.string ⟨v.toArray⟩)) b 78 (mc ++ h'.cells) by rw [← head_set hm hs]; exact hh.put (15 + i) _)
  have G1 := Lib.hid (show w.grownBy (w.setCell ⟨b, 15 + i, none⟩ (.string ⟨v.toArray⟩)) (some b) from grown_setCell w ⟨b, 15 + i, none⟩ (.string ⟨v.toArray⟩))
  have Hs' := Lib.hid (head_set hm hs')
  have hv' := (show (mc ++ h'.cells)[15 + i]? = some (.string ⟨v.toArray⟩) by
    rw [List.getElem?_append_right (by omega), hm, Nat.add_sub_cancel_left, ← hs, List.getElem?_set_self (List.getElem?_eq_some_iff.1 hx).1])
  have Hv' := Lib.hid hv'
  have HE := Lib.hid (show (if hdFits h' = 0 then h' else h) = putEnd h h' from rfl)
  clear hh hx hs hs' hok hl hv'
  generalize putEnd h h' = E at *
  generalize hdFits h' = R at *
  go_enter Tryz.func138, Tryz.ntmps138
  go_upto_region 3 with (fail)
  generalize w.setCell ⟨b, 15 + i, none⟩ (.string ⟨v.toArray⟩) = w1 at *
  obtain ⟨z0, z1, z2, z3, z4, z5, z6, z7, z8, z9, z10, z11, z12⟩ := cells13 hm H1.out
  have hval : h'.val = .agg #[.string ⟨h'.name.toArray⟩, .string ⟨h'.link.toArray⟩, .int .u8 h'.kind, .int .i64 h'.mode, .int .i64 h'.uid, .int .i64 h'.gid, .int .i64 h'.size, .int .i64 h'.time, .string ⟨h'.uname.toArray⟩, .string ⟨h'.gname.toArray⟩, .int .i64 h'.major, .int .i64 h'.minor, .int .i64 h'.form] := rfl
  rw [hval] at hfit
  have Hfit := Lib.hid hfit
  clear hfit hval hm c0 f0
  go_wp2_with (fail)
  refine (Hfit.out _).mono ?_
  rintro e w2 ⟨hb2, rfl⟩
  have H2 := Lib.hid (H1.out.under hb2 H1.out.lt)
  have G2 := Lib.hid (grown_trans G1.out (grown_below hb2 (some b)))
  clear hb2 z0 z1 z2 z3 z4 z5 z6 z7 z8 z9 z10 z11 z12 Hfit H1 G1
  by_cases hR : R = 0
  · subst hR
    go_wp2
    go_ret
    rw [← HE.out]
    exact ⟨G2.out, H2.out, rfl⟩
  · have hR0 : (R == 0) = false := by simpa using hR
    have HR := Lib.hid hR
    have c2 := H2.out.at Hv'.out
    have f2 := H2.out.frozen (15 + i)
    clear hR
    go_wp2
    go_ret
    rw [← HE.out, if_neg HR.out]
    exact ⟨grown_trans G2.out (grown_setCell w2 ⟨b, 15 + i, none⟩ _), by rw [← Hs'.out]; exact H2.out.put (15 + i) _, by simp [hR0]⟩
end Go.Proofs.YtjmmecokfijglaaGreatDoor
