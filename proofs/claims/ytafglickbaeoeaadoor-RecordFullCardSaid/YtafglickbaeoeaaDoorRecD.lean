/-
  Contracts: the document's own Print, Same; record.isCount.
-/
import Derived.Test.YtafglickbaeoeaaDoorRecC
namespace Go.Proofs.YtafglickbaeoeaaDoor
open Go.ChangeShapes Go.WideShapes Go.ChangeAt Go.RowKit

/-- Two cells, and what lies below, are as they were. -/
def KeepQ (W : World) (p q : Addr) (x y : Value) (w : World) : Prop := w.cell? p = some x ∧ w.cell? q = some y ∧ Below W.heap.size W w
theorem cell_lt {w : World} {p : Addr} {v : Value} (h : w.cell? p = some v) : p.block < w.heap.size := by
  rcases Nat.lt_or_ge p.block w.heap.size with hl | hl
  · exact hl
  · exfalso
    unfold World.cell? at h
    rw [Array.getElem?_eq_none hl] at h
    cases h
theorem KeepQ.step {W : World} {p q : Addr} {x y : Value} {w w' : World} (k : KeepQ W p q x y w) (hb : Below w.heap.size w w') : KeepQ W p q x y w' :=
  ⟨by rw [hb.cell (cell_lt k.1)]; exact k.1, by rw [hb.cell (cell_lt k.2.1)]; exact k.2.1, k.2.2.trans (hb.mono k.2.2.size)⟩
theorem KeepQ.drew {W : World} {p q : Addr} {x y : Value} {w : World} (k : KeepQ W p q x y w) : KeepQ W p q x y w.drew := k.step ⟨rfl, rfl, rfl, Nat.le_refl _, fun _ _ => rfl⟩

set_option maxRecDepth 100000 in
set_option maxHeartbeats 1000000 in
theorem refPrint_any (l : List Pr) (b o cap : Nat) (w : World) (hb0 : b < w.heap.size) (hl : PairsAt w b o l) (hf : prFits 140737488355328 l) (hlen : l.length ≤ 140737488355328) :
    Calls Tryd.prog 13 #[.slice (some ⟨b, o, none⟩) l.length cap] w fun e w' => Below w.heap.size w w' ∧ e = .returned (print2 l) := by
  by_cases h256 : 256 < l.length
  · have Hq := Lib.hid (show prPrint l = ([], 8) from if_pos h256)
    have h2 : (256 : Int) < l.length := by omega
    clear h256
    unfold print2
    go_enter Tryd.func13, Tryd.ntmps13
    go_wp2
    go_ret2
    rw [Hq.out]
    exact ⟨Below.refl _ _, rfl⟩
  · have h2 : ¬ (256 : Int) < l.length := by omega
    have Hn := Lib.hid (show l.length ≤ 256 by omega)
    have Hl := Lib.hid hl
    have Hf := Lib.hid hf
    generalize hR : print2 l = R
    have HR := Lib.hid hR
    clear hl hf hR h256 hlen
    go_enter Tryd.func13, Tryd.ntmps13
    go_wp2
    go_loopw [4] (fun i wr => ∃ k : Nat, k ≤ l.length ∧ i = .int .i64 k ∧ (l.take k).all prRight = true ∧ Below w.heap.size w wr) (fun i _ => l.length - (intOf i).toNat)
    case atStart => exact ⟨0, Nat.zero_le _, rfl, rfl, Below.refl _ _⟩
    case round =>
      obtain ⟨k, hk, rfl, hall, hb⟩ := hrel
      obtain ⟨wo, rfl⟩ : ∃ wo : World, wo = wr := ⟨_, rfl⟩
      have Hb := Lib.hid hb
      have Ha := Lib.hid hall
      clear hb hall
      by_cases hlt : k < l.length
      · have hpf := fits_get Hf.out hlt
        obtain ⟨c1, c2⟩ := Hl.out.under Hb.out hb0 k hlt
        have Hr := Lib.hid (fun w1 => refRight_any l[k] w1 (by omega))
        have Hat := Lib.hid (fun hr => all_take hlt Ha.out hr)
        have Hab := Lib.hid (fun hr => all_bad hlt hr)
        unfold prVal at Hr
        generalize l[k] = p at *
        clear hpf
        generalize prRight p = rr at *
        cases rr
        · have Hq := Lib.hid (show R = .tuple #[.string ⟨([] : List UInt8).toArray⟩, .int .i64 2] by
            rw [← HR.out]; unfold print2 prPrint; have := Hn.out; rw [if_neg (by omega), if_pos (Hab.out rfl)])
          clear HR Hat Hab
          go_wp2_with fail
          refine (Hr.out _).mono ?_
          rintro e w2 ⟨hb2, rfl⟩
          have Hb2 := Lib.hid (Hb.out.trans (hb2.mono Hb.out.size))
          clear hb2 c1 c2
          go_wp2
          go_ret2
          rw [Hq.out]
          exact ⟨Hb2.out, rfl⟩
        · have Hq := Lib.hid (Hat.out rfl)
          clear HR Hat Hab
          go_wp2_with fail
          refine (Hr.out _).mono ?_
          rintro e w2 ⟨hb2, rfl⟩
          have Hb2 := Lib.hid (Hb.out.trans (hb2.mono Hb.out.size))
          clear hb2 c1 c2
          go_wp2
          go_roundw
          case rel => exact ⟨k + 1, by omega, by go_num, Hq.out, Hb2.out⟩
          case measure => simp [intOf]; omega
      · have hkn : k = l.length := by omega
        subst hkn
        have Hall := Lib.hid (show l.all prRight = true by have := Ha.out; rwa [List.take_length] at this)
        clear Ha hk hlt
        go_wp2
        go_loopw [5, 6] (fun s i wr => ∃ j : Nat, j ≤ l.length ∧ i = .int .i64 j ∧ s = .string ⟨(prTexts (l.take j)).toArray⟩ ∧ prSizes (l.take j) ≤ 65536 ∧ Below w.heap.size w wr) (fun _ i _ => l.length - (intOf i).toNat)
        case atStart => exact ⟨0, Nat.zero_le _, rfl, rfl, Nat.zero_le _, Hb.out⟩
        case round =>
          obtain ⟨j, hj, rfl, rfl, hsz, hbq⟩ := hrel
          have HQ := Lib.hid hbq
          clear hbq
          by_cases hlj : j < l.length
          · have hpf := fits_get Hf.out hlj
            obtain ⟨c1, c2⟩ := Hl.out.under HQ.out hb0 j hlj
            have hsp := (szOf_spec (prRest l[j]) (by unfold prRest; omega)).2.1
            have hY : prSize l[j] ≤ 140737488355360 := by unfold prSize; unfold prRest at hsp ⊢; omega
            have Hs := Lib.hid (fun w1 => refSize_any l[j] w1 (by unfold prRest; omega))
            have Hi := Lib.hid (fun w1 => digits_any (prSize l[j]) w1 (by omega) (by omega))
            have hTl : (prTexts (l.take j)).length ≤ 65536 := by rw [prTexts_length _ (fun p hp => by have := fits_take Hf.out j p hp; omega)]; exact hsz
            have HTn : (prTexts (l.take (j + 1))).length = prSizes (l.take (j + 1)) := prTexts_length _ (fun p hp => by have := fits_take Hf.out (j + 1) p hp; omega)
            have Htx := Lib.hid (texts_take hlj)
            have Hpt := Lib.hid (show prText l[j] = Lib.decDigits ((prSize l[j] : Int)).toNat ++ [32] ++ l[j].1 ++ [61] ++ l[j].2 ++ [10] by simp [prText])
            have hdd : (Lib.decDigits ((prSize l[j] : Int)).toNat).length ≤ 16 := decDigits_length16 _ (by omega)
            have Hbig := Lib.hid (show 65536 < prSizes (l.take (j + 1)) → 65536 < prSizes l from fun h => Nat.lt_of_lt_of_le h (prSizes_take l (j + 1)))
            clear hsp
            unfold prVal at Hs
            generalize prText l[j] = s at *
            generalize hT1 : prTexts (l.take (j + 1)) = T1 at *
            have HT1 := Lib.hid hT1
            clear hT1
            generalize prTexts (l.take j) = T at *
            generalize prSizes (l.take j) = Z at *
            generalize hZ1 : prSizes (l.take (j + 1)) = Z1 at *
            have HZ1 := Lib.hid hZ1
            clear hZ1
            generalize prSize l[j] = Y at *
            generalize l[j] = p at *
            obtain ⟨x, y⟩ := p
            simp only at Hs Hpt c1 c2 hpf
            generalize Lib.decDigits ((Y : Int)).toNat = dd at *
            have hk : KeepQ w ⟨b, o + j * 2, none⟩ ⟨b, o + j * 2 + 1, none⟩ (.string ⟨x.toArray⟩) (.string ⟨y.toArray⟩) wr := ⟨c1, c2, HQ.out⟩
            have e1 : dd ++ [32] ++ x ++ [61] ++ y ++ [10] = s := Hpt.out.symm
            have hlj1 : (j : Int) < l.length := by omega
            have hx0 : x.length ≤ 140737488355328 := by omega
            have hy0 : y.length ≤ 140737488355328 := by omega
            have g1 : ¬ 9223372036854775807 < dd.length + 1 := by omega
            have g2 : ¬ 9223372036854775807 < dd.length + 1 + x.length := by omega
            have g3 : ¬ 9223372036854775807 < dd.length + (x.length + 1) + 1 := by omega
            have g4 : ¬ 9223372036854775807 < dd.length + (x.length + 1 + 1) + y.length := by omega
            have g5 : ¬ 9223372036854775807 < dd.length + (x.length + (y.length + 1) + 1) + 1 := by omega
            have g6 : ¬ 9223372036854775807 < T.length + (dd.length + (x.length + (y.length + 1 + 1) + 1)) := by omega
            have E2 := Lib.hid (show T ++ (dd ++ 32 :: (x ++ 61 :: (y ++ [10]))) = T1 by rw [Htx.out, ← e1]; simp)
            have hT1l : T.length + (dd.length + (x.length + (y.length + 1 + 1) + 1)) = T1.length := by rw [← E2.out]; simp
            have H1l := Lib.hid hT1l
            clear Hpt hT1l
            go_wp2
            go_region_held3 (fun w' => w'.cell? ⟨b, o + j * 2, none⟩ = some (.string ⟨x.toArray⟩) ∧ w'.cell? ⟨b, o + j * 2 + 1, none⟩ = some (.string ⟨y.toArray⟩))
              (first | assumption | exact ⟨hk.drew.1, hk.drew.2.1⟩ | exact ⟨(hk.drew.step hbA).1, (hk.drew.step hbA).2.1⟩ | exact ⟨((hk.drew.step hbA).step hbB).1, ((hk.drew.step hbA).step hbB).2.1⟩)
              (first
                | (go_at_call 9; refine (Hs.out _).mono ?_; rintro e wA ⟨hbA, rfl⟩)
                | (go_at_call 18; refine (Hi.out _).mono ?_; rintro e wB ⟨hbB, rfl⟩))
            have Hfin := Lib.hid (hk.drew.step hbA |>.step hbB).2.2
            clear hk hbA hbB c1 c2 g1 g2 g3 g4 g5 g6
            have e2 := E2.out
            have h1l := H1l.out
            by_cases hbig : 65536 < Z1
            · have Hq := Lib.hid (show R = .tuple #[.string ⟨([] : List UInt8).toArray⟩, .int .i64 12] by
                rw [← HR.out]; unfold print2 prPrint; have := Hn.out; rw [if_neg (by omega), Hall.out, if_neg (by simp), if_pos (Hbig.out hbig)])
              have hlt2 : (65536 : Int) < T1.length := by omega
              go_wp2
              go_ret2
              rw [Hq.out]
              exact ⟨Hfin.out, rfl⟩
            · have hlt2 : ¬ (65536 : Int) < T1.length := by omega
              go_wp2
              go_roundw
              case rel => exact ⟨j + 1, by omega, by go_num, by rw [HT1.out, E2.out], by rw [HZ1.out]; omega, Hfin.out⟩
              case measure => simp [intOf]; omega
          · have hjn : j = l.length := by omega
            subst hjn
            have Hq := Lib.hid (show R = .tuple #[.string ⟨(prTexts (l.take l.length)).toArray⟩, .int .i64 0] by
              rw [List.take_length] at hsz ⊢
              rw [← HR.out]; unfold print2 prPrint; have := Hn.out; rw [if_neg (by omega), Hall.out, if_neg (by simp), if_neg (by omega)])
            generalize prTexts (l.take l.length) = T at *
            go_wp2
            go_ret2
            rw [Hq.out]
            exact ⟨HQ.out, rfl⟩

set_option maxRecDepth 100000 in
theorem pair_equalIn (p q : Pr) (W : World) : (Op.equalIn 10000 25 (.agg #[.string ⟨p.1.toArray⟩, .string ⟨p.2.toArray⟩]) (.agg #[.string ⟨q.1.toArray⟩, .string ⟨q.2.toArray⟩])).run Tryd.prog W = .ok (decide (p = q)) W := by
  obtain ⟨p1, p2⟩ := p
  obtain ⟨q1, q2⟩ := q
  rw [show (10000 : Nat) = 9999 + 1 from rfl, run_equalIn_agg (P := Tryd.prog) W 9999 25 _ _ (by kernel_rfl) (by kernel_rfl)]
  unfold Program.fieldsOf
  rw [Tryd.underlying25]
  simp only [Prod.mk.injEq]
  by_cases h1 : p1 = q1
  · by_cases h2 : p2 = q2
    · subst h1 h2
      simp [Op.eqFields, go_sem]
    · subst h1
      simp [Op.eqFields, go_sem, h2]
  · simp [Op.eqFields, go_sem, h1]
theorem pair_eql (p q : Pr) (W : World) : (binOp .eql 25 (.agg #[.string ⟨p.1.toArray⟩, .string ⟨p.2.toArray⟩]) (.agg #[.string ⟨q.1.toArray⟩, .string ⟨q.2.toArray⟩])).run Tryd.prog W = .ok (.bool (decide (p = q))) W := by
  rw [run_eql_struct, pair_equalIn]; rfl
theorem pair_neq (p q : Pr) (W : World) : (binOp .neq 25 (.agg #[.string ⟨p.1.toArray⟩, .string ⟨p.2.toArray⟩]) (.agg #[.string ⟨q.1.toArray⟩, .string ⟨q.2.toArray⟩])).run Tryd.prog W = .ok (.bool (!decide (p = q))) W := by
  rw [run_neq_struct, pair_equalIn]; rfl
theorem drewN_add (w : World) (m j : Nat) : (w.drewN m).drewN j = w.drewN (m + j) := by
  simp [World.drewN, Nat.add_assoc]
theorem same_any (x y : List Pr) (b o c : Nat) (b2 o2 c2 : Nat) (w : World) (hx : PairsAt w b o x) (hy : PairsAt w b2 o2 y) (hlx : x.length ≤ 140737488355328) (hly : y.length ≤ 140737488355328) :
    Calls Tryd.prog 15 #[.slice (some ⟨b, o, none⟩) x.length c, .slice (some ⟨b2, o2, none⟩) y.length c2] w fun e w' => e = .returned (.bool (decide (x = y))) ∧ ∃ m, w' = w.drewN m := by
  go_enter Tryd.func15, Tryd.ntmps15
  go_wp2
  · have hne : (x.length : Int) ≠ y.length := by have h : ((x.length : Int) != y.length) = true := (by assumption); simpa using h
    have Hq := Lib.hid (show decide (x = y) = false from decide_eq_false (fun e => hne (by rw [e])))
    go_ret
    rw [Hq.out]
    exact ⟨rfl, 0, rfl⟩
  · have hll : (x.length : Int) = y.length := by have h : ((x.length : Int) != y.length) = false := (by assumption); simpa using h
    have Hll := Lib.hid (show x.length = y.length by omega)
    go_loopw [5] (fun i wr => ∃ k m : Nat, i = .int .i64 k ∧ k ≤ x.length ∧ x.take k = y.take k ∧ wr = w.drewN m) (fun i _ => x.length - (intOf i).toNat)
    case atStart => exact ⟨0, 0, rfl, Nat.zero_le _, rfl, rfl⟩
    case round =>
      obtain ⟨k, m, rfl, hk, hs, rfl⟩ := hrel
      have Hs := Lib.hid hs
      clear hs
      by_cases hlt : k < x.length
      · have hly2 : k < y.length := by omega
        obtain ⟨c1, c2⟩ := (show PairsAt (w.drewN m) b o x from hx) k hlt
        obtain ⟨d1, d2⟩ := (show PairsAt (w.drewN m) b2 o2 y from hy) k hly2
        have Hdr := Lib.hid (fun j => show (w.drewN m).drewN j = w.drewN (m + j) from drewN_add w m j)
        generalize w.drewN m = wd at *
        have Heq := Lib.hid (show x[k] = y[k] → x.take (k + 1) = y.take (k + 1) from fun e => by rw [List.take_succ_eq_append_getElem hlt, List.take_succ_eq_append_getElem hly2, Hs.out, e])
        have Hne := Lib.hid (show x[k] ≠ y[k] → decide (x = y) = false from fun e => decide_eq_false (fun h => e (by subst h; rfl)))
        generalize hD : decide (x = y) = D at *
        have HD := Lib.hid hD
        clear hD
        have hlt1 : (k : Int) < x.length := by omega
        have hlt2 : (k : Int) < y.length := by omega
        generalize x[k] = p at *
        generalize y[k] = q at *
        obtain ⟨p1, p2⟩ := p
        obtain ⟨q1, q2⟩ := q
        by_cases hpq : ((p1, p2) : Pr) = (q1, q2)
        · have Hq := Lib.hid (Heq.out hpq)
          have hneq := fun W => pair_neq (p1, p2) (q1, q2) W
          rw [decide_eq_true hpq] at hneq
          simp only at hneq c1 c2 d1 d2
          clear hpq Heq Hne
          go_wp2
          go_quiet (fail)
          go_wp2
          go_roundw
          case rel => exact ⟨k + 1, m + nq, by go_num, by omega, Hq.out, Hdr.out nq⟩
          case measure => simp [intOf]; omega
        · have Hq := Lib.hid (Hne.out hpq)
          have hneq := fun W => pair_neq (p1, p2) (q1, q2) W
          rw [decide_eq_false hpq] at hneq
          simp only at hneq c1 c2 d1 d2
          clear hpq Heq Hne
          go_wp2
          go_quiet (fail)
          go_wp2
          go_ret
          rw [HD.out, Hq.out]
          exact ⟨rfl, m + nq, Hdr.out nq⟩
      · have hkn : k = x.length := by omega
        subst hkn
        have Hq := Lib.hid (show decide (x = y) = true from decide_eq_true (by
          have := Hs.out
          rwa [List.take_length, Hll.out, List.take_length] at this))
        go_wp2
        go_ret
        rw [Hq.out]
        exact ⟨rfl, m, rfl⟩

def isCountB (d : List UInt8) : Bool := decide (d ≠ [] ∧ d.length ≤ 6 ∧ d[0]? ≠ some 48) && allDig d
theorem isCount_any (d : List UInt8) (w : World) (hl : d.length ≤ maxLen) :
    Calls Tryd.prog 27 #[.string ⟨d.toArray⟩] w fun e w' => w = w' ∧ e = .returned (.bool (isCountB d)) := by
  unfold maxLen at hl
  by_cases hnil : d = []
  · subst hnil
    have Hq := Lib.hid (show isCountB [] = false from rfl)
    go_enter Tryd.func27, Tryd.ntmps27
    go_wp2
    go_ret
    rw [Hq.out]
    exact ⟨rfl, rfl⟩
  · have hne : d.isEmpty = false := by simpa using hnil
    have hpos : 0 < d.length := List.length_pos_iff.2 hnil
    by_cases h6 : (d.length : Int) ≤ 6
    · by_cases h0 : d[0] = 48
      · have Hq := Lib.hid (show isCountB d = false by unfold isCountB; rw [decide_eq_false (fun e => e.2.2 (by rw [List.getElem?_eq_getElem hpos, h0]))]; rfl)
        have e1 : ((d[0].toNat : Int) == 48) = true := by rw [h0]; rfl
        clear h0
        go_enter Tryd.func27, Tryd.ntmps27
        go_wp2
        go_ret
        rw [Hq.out]
        exact ⟨rfl, rfl⟩
      · have Hq := Lib.hid (show isCountB d = allDig d by unfold isCountB; rw [decide_eq_true ⟨hnil, by omega, by rw [List.getElem?_eq_getElem hpos]; simpa using h0⟩]; rfl)
        have e1 : ((d[0].toNat : Int) == 48) = false := by
          rw [beq_eq_false_iff_ne]
          intro e
          exact h0 (UInt8.toNat_inj.1 (by have : (48 : UInt8).toNat = 48 := rfl; omega))
        clear h0
        go_enter Tryd.func27, Tryd.ntmps27
        go_wp2
        go_loop [18] (fun i => ∃ k : Nat, k ≤ d.length ∧ i = .int .i64 k ∧ allDig (d.drop k) = allDig d) (fun i => d.length - (intOf i).toNat)
        case atStart => exact ⟨0, Nat.zero_le _, rfl, rfl⟩
        case round =>
          obtain ⟨k, hk, rfl, hs⟩ := hrel
          have Hs := Lib.hid hs
          clear hs
          by_cases hlt : k < d.length
          · have Hd := Lib.hid (show allDig d = (isDig d[k] && allDig (d.drop (k + 1))) by rw [← Hs.out, drop_at hlt]; rfl)
            have hb := byte_lt d[k]
            by_cases h1 : (d[k].toNat : Int) < 48
            · have Hz := Lib.hid (show allDig d = false by rw [Hd.out, show isDig d[k] = false by simp [isDig]; omega, Bool.false_and])
              go_wp2
              go_ret
              rw [Hq.out, Hz.out]
              exact ⟨rfl, rfl⟩
            · by_cases h2 : 57 < (d[k].toNat : Int)
              · have Hz := Lib.hid (show allDig d = false by rw [Hd.out, show isDig d[k] = false by simp [isDig]; omega, Bool.false_and])
                go_wp2
                go_ret
                rw [Hq.out, Hz.out]
                exact ⟨rfl, rfl⟩
              · have Hz := Lib.hid (show allDig (d.drop (k + 1)) = allDig d by rw [Hd.out, isDig_mk (by omega) (by omega), Bool.true_and])
                go_wp2
                go_round
                case rel => exact ⟨k + 1, by omega, by go_num, Hz.out⟩
                case measure => simp [intOf]; omega
          · have Hz := Lib.hid (show allDig d = true by rw [← Hs.out, List.drop_of_length_le (by omega)]; rfl)
            go_wp2
            go_ret
            rw [Hq.out, Hz.out]
            exact ⟨rfl, rfl⟩
    · have Hq := Lib.hid (show isCountB d = false by unfold isCountB; rw [decide_eq_false (fun e => by omega)]; rfl)
      have h7 : (6 : Int) < d.length := by omega
      clear h6
      go_enter Tryd.func27, Tryd.ntmps27
      go_wp2
      go_ret
      rw [Hq.out]
      exact ⟨rfl, rfl⟩

theorem refPrint_nil (ad : Option Addr) (cap : Nat) (w : World) :
    Calls Tryd.prog 13 #[.slice ad 0 cap] w fun e w' => Below w.heap.size w w' ∧ e = .returned (print2 []) := by
  have Hq := Lib.hid (show print2 [] = .tuple #[.string ⟨([] : List UInt8).toArray⟩, .int .i64 0] from rfl)
  generalize print2 [] = R at *
  go_enter Tryd.func13, Tryd.ntmps13
  go_wp2
  go_loop [4] (fun i => i = .int .i64 0) (fun _ => 0)
  case atStart => exact rfl
  case round =>
    obtain rfl := hrel
    go_wp2
    go_loop [5, 6] (fun s i => s = .string ⟨([] : List UInt8).toArray⟩ ∧ i = .int .i64 0) (fun _ _ => 0)
    case atStart => exact ⟨rfl, rfl⟩
    case round =>
      obtain ⟨rfl, rfl⟩ := hrel
      go_wp2
      go_ret2
      rw [Hq.out]
      exact ⟨Below.refl _ _, rfl⟩
theorem refPrintIn_any (l : List Pr) (v : Value) (w : World) (hl : PairsIn w v l) (hf : prFits 140737488355328 l) (hlen : l.length ≤ 140737488355328) :
    Calls Tryd.prog 13 #[v] w fun e w' => Below w.heap.size w w' ∧ e = .returned (print2 l) := by
  obtain ⟨ad, cap, rfl, h⟩ := hl
  by_cases hn : l = []
  · subst hn; exact refPrint_nil ad cap w
  · rcases h with h | ⟨b, o, rfl, hb, hp⟩
    · exact absurd h hn
    · exact refPrint_any l b o cap w hb hp hf hlen

theorem same_nil (ad ad2 : Option Addr) (c c2 : Nat) (w : World) :
    Calls Tryd.prog 15 #[.slice ad 0 c, .slice ad2 0 c2] w fun e w' => e = .returned (.bool true) ∧ ∃ m, w' = w.drewN m := by
  go_enter Tryd.func15, Tryd.ntmps15
  go_wp2
  go_loop [5] (fun i => i = .int .i64 0) (fun _ => 0)
  case atStart => exact rfl
  case round =>
    obtain rfl := hrel
    go_wp2
    go_ret
    exact ⟨rfl, 0, rfl⟩
theorem same_len (ad ad2 : Option Addr) (n n2 c c2 : Nat) (w : World) (hn : n ≠ n2) :
    Calls Tryd.prog 15 #[.slice ad n c, .slice ad2 n2 c2] w fun e w' => e = .returned (.bool false) ∧ ∃ m, w' = w.drewN m := by
  have hne : ((n : Int) != n2) = true := by
    rw [bne_iff_ne]; omega
  go_enter Tryd.func15, Tryd.ntmps15
  go_wp2
  go_ret
  exact ⟨rfl, 0, rfl⟩
theorem sameIn_any (x y : List Pr) (v u : Value) (w : World) (hx : PairsIn w v x) (hy : PairsIn w u y) (hlx : x.length ≤ 140737488355328) (hly : y.length ≤ 140737488355328) :
    Calls Tryd.prog 15 #[v, u] w fun e w' => e = .returned (.bool (decide (x = y))) ∧ ∃ m, w' = w.drewN m := by
  obtain ⟨ad, c, rfl, h⟩ := hx
  obtain ⟨ad2, c2, rfl, h2⟩ := hy
  by_cases hl : x.length = y.length
  · by_cases hn : x = []
    · have hn2 : y = [] := by subst hn; exact List.length_eq_zero_iff.1 hl.symm
      subst hn hn2
      rw [decide_eq_true rfl]
      exact same_nil ad ad2 c c2 w
    · have hn2 : y ≠ [] := fun e => hn (by subst e; exact List.length_eq_zero_iff.1 hl)
      rcases h with h | ⟨b, o, rfl, hb, hp⟩
      · exact absurd h hn
      · rcases h2 with h2 | ⟨b2, o2, rfl, hb2, hp2⟩
        · exact absurd h2 hn2
        · exact same_any x y b o c b2 o2 c2 w hp hp2 hlx hly
  · rw [decide_eq_false (fun e => hl (by rw [e]))]
    exact same_len ad ad2 _ _ c c2 w hl
end Go.Proofs.YtafglickbaeoeaaDoor
