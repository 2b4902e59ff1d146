/- The walk of the law RecordPrints. -/
import Derived.Test.YtafglickbaeoeaaDoorRecA
import Derived.Test.YtafglickbaeoeaaDoorRecH
import Derived.Deep.RegionHeld3
namespace Go.Proofs.YtafglickbaeoeaaDoor.recordPrints
open Go.ChangeShapes Go.WideShapes Go.ChangeAt Go.RowKit

theorem fits_200 {l : List Pr} (h : ∀ i (hi : i < l.length), l[i].1.length + l[i].2.length ≤ 200) : prFits 200 l := by
  intro p hp
  obtain ⟨i, hi, rfl⟩ := List.getElem_of_mem hp
  exact h i hi
def KeepB (W : World) (g : Nat) (C : List Value) (w : World) : Prop := Holds w g 25 C ∧ TabOk w ∧ Below W.heap.size W w
theorem KeepB.step {W : World} {g : Nat} {C : List Value} {w w' : World} (k : KeepB W g C w) (hb : Below w.heap.size w w') : KeepB W g C w' :=
  ⟨k.1.under hb k.1.lt, k.2.1.below hb (Nat.le_refl _), k.2.2.trans (hb.mono k.2.2.size)⟩
theorem KeepB.drew {W : World} {g : Nat} {C : List Value} {w : World} (k : KeepB W g C w) : KeepB W g C w.drew := k.step ⟨rfl, rfl, rfl, Nat.le_refl _, fun _ _ => rfl⟩
theorem KeepB.all {W : World} {g : Nat} {x y : Value} {w : World} (k : KeepB W g [x, y] w) : CellsP g x y w ∧ w.cell? ⟨g, 0, none⟩ = some x ∧ w.cell? ⟨g, 1, none⟩ = some y := ⟨.of k.1, (two_holds k.1).1, (two_holds k.1).2.1⟩

set_option maxRecDepth 100000 in
set_option maxHeartbeats 1000000 in
theorem walk (l : List Pr) (ad : Option Addr) (cap : Nat) (w : World) (hl : PairsIn w (.slice ad l.length cap) l) (hre : PairsReach l) (ht : TabOk w) :
    Calls Tryd.prog 3 #[.slice ad l.length cap] w fun e w' => Below w.heap.size w w' ∧ e = .returned (.bool true) := by
  have Ht := Lib.hid ht
  have Hl := Lib.hid hl
  have Hre := Lib.hid hre
  clear ht hl hre
  by_cases hbig : (12 : Int) < l.length
  · go_enter Tryd.func3, Tryd.ntmps3
    go_wp2_with fail
    refine (awake6_any w Ht.out).mono ?_
    rintro e w1 ⟨hb, rfl⟩
    have Hb := Lib.hid hb
    clear hb
    go_wp2
    go_ret
    exact ⟨Hb.out, rfl⟩
  · have hn12 : l.length ≤ 12 := by omega
    go_enter Tryd.func3, Tryd.ntmps3
    go_wp2_with fail
    go_loopw [17] (fun i wr => ∃ k : Nat, k ≤ l.length ∧ i = .int .i64 k ∧ (∀ j (hj : j < l.length), j < k → l[j].1.length + l[j].2.length ≤ 200) ∧ Below w.heap.size w wr) (fun i _ => l.length - (intOf i).toNat)
    case atStart => exact ⟨0, Nat.zero_le _, rfl, fun _ _ h => absurd h (Nat.not_lt_zero _), Below.refl _ _⟩
    case round =>
      obtain ⟨k, hk, rfl, hfit, hb⟩ := hrel
      have Hb := Lib.hid hb
      have Hfit := Lib.hid hfit
      clear hb hfit
      by_cases hlt : k < l.length
      · have hlt2 : (k : Int) < l.length := by omega
        obtain ⟨b, o, rfl, hbo, hpa⟩ : ∃ b o, ad = some ⟨b, o, none⟩ ∧ b < w.heap.size ∧ PairsAt w b o l := by
          obtain ⟨ad2, cap2, he, h⟩ := Hl.out
          cases he
          rcases h with h | h
          · subst h; simp at hlt
          · exact h
        obtain ⟨c1, c2⟩ := hpa.under Hb.out hbo k hlt
        clear hpa
        by_cases h200 : l[k].1.length + l[k].2.length ≤ 200
        · have Hnext := Lib.hid (show ∀ j (hj : j < l.length), j < k + 1 → l[j].1.length + l[j].2.length ≤ 200 from fun j hj h => by
            by_cases e : j = k
            · subst e; exact h200
            · exact Hfit.out j hj (by omega))
          have R1 := Lib.hid (fun w1 => right_any l[k] w1)
          have R2 := Lib.hid (fun w1 => refRight_any l[k] w1 (by omega))
          have S1 := Lib.hid (fun w1 ht => size_any l[k] w1 (by unfold prRest; omega) ht)
          have S2 := Lib.hid (fun w1 => refSize_any l[k] w1 (by unfold prRest; omega))
          unfold prVal at R1 R2 S1 S2
          generalize prRight l[k] = rr at *
          generalize prSize l[k] = Y at *
          generalize l[k] = p at *
          obtain ⟨x, y⟩ := p
          simp only at R1 R2 S1 S2 c1 c2 h200
          have hh1 : ¬ (200 : Int) < (x.length : Int) + y.length := by omega
          have hk1 : KeepB w wr.heap.size [.string ⟨x.toArray⟩, .string ⟨y.toArray⟩] (wr.alloc (.cells #[.string ⟨x.toArray⟩, .string ⟨y.toArray⟩] 25)) := by
            have hb : Below wr.heap.size wr (wr.alloc (.cells #[.string ⟨x.toArray⟩, .string ⟨y.toArray⟩] 25)) := (Below.refl _ _).alloc (Nat.le_refl _) _
            exact ⟨Holds.new _ _ _, (Ht.out.below Hb.out (Nat.le_refl _)).below hb (Nat.le_refl _), Hb.out.trans (hb.mono Hb.out.size)⟩
          go_wp2_with fail
          clear c1 c2
          generalize wr.alloc (.cells #[.string ⟨x.toArray⟩, .string ⟨y.toArray⟩] 25) = wb at *
          generalize wr.heap.size = g at *
          obtain ⟨c0, c1, c2⟩ := hk1.all
          go_region_held3 (fun w' => CellsP g (.string ⟨x.toArray⟩) (.string ⟨y.toArray⟩) w' ∧ w'.cell? ⟨g, 0, none⟩ = some (.string ⟨x.toArray⟩) ∧ w'.cell? ⟨g, 1, none⟩ = some (.string ⟨y.toArray⟩))
            (first | assumption | exact hk1.drew.all | exact (hk1.drew.step hbA).all | exact ((hk1.drew.step hbA).step hbB).all | exact (((hk1.drew.step hbA).step hbB).step hbC).all | exact ((((hk1.drew.step hbA).step hbB).step hbC).step hbD).all)
            (first
              | (go_at_call 8; refine (S1.out _ hk1.drew.2.1).mono ?_; rintro e wA ⟨hbA, rfl⟩)
              | (go_at_call 9; refine (S2.out _).mono ?_; rintro e wB ⟨hbB, rfl⟩)
              | (go_at_call 10; refine (R1.out _).mono ?_; rintro e wC ⟨hbC, rfl⟩)
              | (go_at_call 11; refine (R2.out _).mono ?_; rintro e wD ⟨hbD, rfl⟩))
          have Hfin := Lib.hid ((((hk1.drew.step hbA).step hbB).step hbC).step hbD).2.2
          clear hk1 hbA hbB hbC hbD c0 c1 c2
          go_wp2
          go_roundw
          case rel => exact ⟨k + 1, by omega, by go_num, Hnext.out, Hfin.out⟩
          case measure => simp [intOf]; omega
        · have hx9 : l[k].1.length ≤ 140737488355328 ∧ l[k].2.length ≤ 140737488355328 := by
            have := Hre.out l[k] (List.getElem_mem hlt)
            have := reachBytes_lt
            omega
          obtain ⟨hx9, hy9⟩ := hx9
          generalize l[k] = p at *
          obtain ⟨x, y⟩ := p
          simp only at c1 c2 h200 hx9 hy9
          have hh1 : (200 : Int) < (x.length : Int) + y.length := by omega
          go_wp2_with fail
          have Hb2 := Lib.hid (Hb.out.alloc Hb.out.size (.cells #[.string ⟨x.toArray⟩, .string ⟨y.toArray⟩] 25))
          refine (awake6_any _ (Ht.out.below Hb2.out (Nat.le_refl _))).mono ?_
          rintro e w1 ⟨hb, rfl⟩
          have Hb3 := Lib.hid (Hb2.out.trans (hb.mono Hb2.out.size))
          clear hb
          go_wp2
          go_ret
          exact ⟨Hb3.out, rfl⟩
      · have hkn : k = l.length := by omega
        subst hkn
        have hf := fits_200 (fun i hi => Hfit.out i hi hi)
        have Hlr := Lib.hid (Hl.out.under Hb.out)
        have P1 := Lib.hid (fun v w1 hv ht => printIn_any l v w1 hv (fun p hp => by have := hf p hp; omega) ht (by omega))
        have P2 := Lib.hid (fun v w1 hv => refPrintIn_any l v w1 hv (fun p hp => by have := hf p hp; omega) (by omega))
        have Hpp := Lib.hid (fun t h => parse_print (l := l) (t := t) h (fun p hp => by have := hf p hp; omega))
        have hty : (prTexts l).length ≤ 100000 := by
          rw [prTexts_length l (fun p hp => by have := hf p hp; omega)]
          have := prSizes_le 200 (by omega) l hf
          have h3 : l.length * (200 + 22) ≤ 12 * 222 := Nat.mul_le_mul_right _ hn12
          omega
        have hpr : prPrint l = (prTexts l, 0) ∨ ∃ E, prPrint l = ([], E) ∧ E ≠ 0 := by
          unfold prPrint
          split
          · exact .inr ⟨_, rfl, by decide⟩
          · split
            · exact .inr ⟨_, rfl, by decide⟩
            · split
              · exact .inr ⟨_, rfl, by decide⟩
              · exact .inl rfl
        unfold print2 at P1 P2
        clear hf Hfit
        rcases hpr with hpr | ⟨E, hpr, hE⟩
        · rw [hpr] at P1 P2
          have hq := Hpp.out _ hpr
          have P3 := Lib.hid (fun w1 => parse_any (prTexts l) w1 (by omega))
          rw [hq] at P3
          simp only at P1 P2 P3
          have S1 := Lib.hid (fun v u w1 h1 h2 => sameIn_any l l v u w1 h1 h2 (by omega) (by omega))
          rw [decide_eq_true rfl] at S1
          generalize prTexts l = t at *
          clear hpr hq Hpp hty
          go_wp2_with fail
          refine (P1.out _ _ Hlr.out (Ht.out.below Hb.out (Nat.le_refl _))).mono ?_
          rintro e w1 ⟨hb, rfl⟩
          have Hb1 := Lib.hid (Hb.out.trans (hb.mono Hb.out.size))
          have Hl1 := Lib.hid (Hlr.out.under hb)
          clear hb
          go_wp2_with fail
          refine (P2.out _ _ Hl1.out).mono ?_
          rintro e w2 ⟨hb, rfl⟩
          have Hb2 := Lib.hid (Hb1.out.trans (hb.mono Hb1.out.size))
          have Hl2 := Lib.hid (Hl1.out.under hb)
          clear hb
          go_wp2_with fail
          refine (P3.out _).mono ?_
          rintro e w3 ⟨hb, v3, rfl, hv3⟩
          have Hb3 := Lib.hid (Hb2.out.trans (hb.mono Hb2.out.size))
          have Hl3 := Lib.hid (Hl2.out.under hb)
          have Hv3 := Lib.hid hv3
          obtain ⟨ad3, cap3, rfl, -⟩ := hv3
          clear hb
          go_wp2_with fail
          refine (S1.out _ _ _ Hv3.out Hl3.out).mono ?_
          rintro e w4 ⟨rfl, m, rfl⟩
          have Hb4 := Lib.hid (below_drewN Hb3.out m)
          generalize w3.drewN m = w4 at *
          go_wp2_with fail
          refine (awake6_any _ (Ht.out.below Hb4.out (Nat.le_refl _))).mono ?_
          rintro e w5 ⟨hb, rfl⟩
          have Hb5 := Lib.hid (Hb4.out.trans (hb.mono Hb4.out.size))
          clear hb
          go_wp2
          go_ret
          exact ⟨Hb5.out, rfl⟩
        · have hE2 : (E == 0) = false := by simpa using hE
          rw [hpr] at P1 P2
          simp only at P1 P2
          clear hpr hE Hpp hty
          go_wp2_with fail
          refine (P1.out _ _ Hlr.out (Ht.out.below Hb.out (Nat.le_refl _))).mono ?_
          rintro e w1 ⟨hb, rfl⟩
          have Hb1 := Lib.hid (Hb.out.trans (hb.mono Hb.out.size))
          have Hl1 := Lib.hid (Hlr.out.under hb)
          clear hb
          go_wp2_with fail
          refine (P2.out _ _ Hl1.out).mono ?_
          rintro e w2 ⟨hb, rfl⟩
          have Hb2 := Lib.hid (Hb1.out.trans (hb.mono Hb1.out.size))
          clear hb
          go_wp2_with fail
          refine (awake6_any _ (Ht.out.below Hb2.out (Nat.le_refl _))).mono ?_
          rintro e w5 ⟨hb, rfl⟩
          have Hb5 := Lib.hid (Hb2.out.trans (hb.mono Hb2.out.size))
          clear hb
          go_wp2
          go_ret
          exact ⟨Hb5.out, rfl⟩
end Go.Proofs.YtafglickbaeoeaaDoor.recordPrints
