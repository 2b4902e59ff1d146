/-
  Contracts of header's readNumbers and readTexts.
-/
import Derived.Test.YtlloaalaldomkaaDoorHdB
import Derived.Test.YtlloaalaldomkaaDoorHdS
namespace Go.Proofs.YtlloaalaldomkaaDoor
open Go.ChangeShapes Go.WideShapes Go.ChangeAt Go.RowKit

theorem grown_trans {a b c : World} {row : Option Nat} (h : a.grownBy b row) (k : b.grownBy c row) : a.grownBy c row :=
  ⟨k.os.trans h.os, k.tape.trans h.tape, k.output.trans h.output, Nat.le_trans h.size k.size, fun j hj hne => (k.block j (Nat.lt_of_lt_of_le hj h.size) hne).trans (h.block j hj hne)⟩
/-- What holds while a head in block g is read: old blocks but g as they were, the head's cells. -/
def Rd (W : World) (g : Nat) (C : List Value) (w : World) : Prop := W.grownBy w (some g) ∧ Holds w g 23 C ∧ g < W.heap.size
theorem Rd.step {W : World} {g : Nat} {C : List Value} {w w' : World} (r : Rd W g C w) (hb : Below w.heap.size w w') : Rd W g C w' :=
  ⟨grown_trans r.1 ⟨hb.os, hb.tape, hb.output, hb.size, fun k hk _ => hb.block k hk⟩, r.2.1.under hb r.2.1.lt, r.2.2⟩
theorem Rd.put {W : World} {g : Nat} {C : List Value} {w : World} (r : Rd W g C w) (i : Nat) (v : Value) : Rd W g (C.set i v) (w.setCell ⟨g, i, none⟩ v) :=
  ⟨grown_trans r.1 ⟨rfl, rfl, rfl, by simp, fun k _ hne => Below.heap_setCell w ⟨g, i, none⟩ v k (fun e => hne (by rw [e]))⟩, r.2.1.put i v, r.2.2⟩

theorem quiet_eq {P : Program} {f : FuncId} {args : Array Value} {w : World} {n : Nat} {v : Value} (h : Calls P f args (w.drewN n) fun e w' => w.drewN n = w' ∧ e = .returned v) :
    Calls P f args (w.drewN n) fun e w'' => e = .returned v ∧ ∃ m, w'' = w.drewN m :=
  h.mono fun _ _ ⟨hm, he⟩ => ⟨he, n, hm.symm⟩

set_option maxRecDepth 100000 in
set_option maxHeartbeats 1000000 in
theorem readNumbers_walk (l : List UInt8) (g : Nat) (w : World) (F : Int) (C : Nat → List Value) (B : Nat → Bool) (fl : Nat → List UInt8) (val err old E : Nat → Int)
    (h0 : Hid (Holds w g 23 (C 0)))
    (HF : Hid (∀ k, k < 7 → (C k)[12]? = some (.int .i64 F)))
    (Hold : Hid (∀ k, k < 7 → (C k)[numI k]? = some (.int .i64 (old k))))
    (Hin : Hid (∀ k, k < 7 → ∀ w : World, Calls Tryd.prog 45 #[.int .i64 F, .int .i64 (numF k)] w fun e w' => w = w' ∧ e = .returned (.bool (B k))))
    (Hcut : Hid (∀ k, k < 7 → ∀ w : World, Calls Tryd.prog 17 #[.string ⟨l.toArray⟩, .int .i64 (numF k)] w fun e w' => Below w.heap.size w w' ∧ e = .returned (.string ⟨(fl k).toArray⟩)))
    (Hrd : Hid (∀ k, k < 7 → ∀ w : World, Calls Tryd.prog 46 #[.string ⟨(fl k).toArray⟩] w fun e w' => e = .returned (.tuple #[.int .i64 (val k), .int .i64 (err k)]) ∧ w = w'))
    (Hno : Hid (∀ k, k < 7 → B k = false → C (k + 1) = C k ∧ E (k + 1) = E k))
    (Hbad : Hid (∀ k, k < 7 → B k = true → err k ≠ 0 → E k = err k))
    (Hneg : Hid (∀ k, k < 7 → B k = true → err k = 0 → val k < 0 → k ≠ 4 → E k = 6))
    (Hyes : Hid (∀ k, k < 7 → B k = true → err k = 0 → ¬ (val k < 0 ∧ k ≠ 4) → C (k + 1) = (C k).set (numI k) (.int .i64 (val k)) ∧ E (k + 1) = E k))
    (Hend : Hid (E 7 = 0)) :
    Calls Tryd.prog 18 #[.pointer (some ⟨g, 0, none⟩), .string ⟨l.toArray⟩] w fun e w' =>
      ∃ C', Rd w g C' w' ∧ e = .returned (.int .i64 (E 0)) ∧ (E 0 = 0 → C' = C 7) := by
  have hlt := h0.out.lt
  go_enter Tryd.func18, Tryd.ntmps18
  go_wp2_with fail
  refine (numbers_any g _).mono ?_
  rintro e w1 ⟨hb1, hd1, rfl⟩
  have Hs := Lib.hid (show Rd w g (C 0) w1 from Rd.step (w := w) ⟨World.grownBy.refl _ _, h0.out, hlt⟩ hb1)
  have Hr := Lib.hid hd1
  have hgr : g < w.heap.size := hlt
  clear hb1 hd1
  go_wp2_with fail
  generalize w.heap.size = r at *
  go_loopw [12] (fun i wr => ∃ k : Nat, k ≤ 7 ∧ i = .int .i64 k ∧ Rd w g (C k) wr ∧ Holds wr r 68 (numCells g) ∧ E k = E 0) (fun i _ => 7 - (intOf i).toNat)
  case atStart => exact ⟨0, by omega, rfl, Hs.out, Hr.out, rfl⟩
  case round =>
    clear Hs Hr
    obtain ⟨k, hk, rfl, hs, hr, he⟩ := hrel
    have Hs := Lib.hid hs
    have Hr := Lib.hid hr
    have He := Lib.hid he
    have hrl : r < wr.heap.size := hr.lt
    have hgl : g < wr.heap.size := by omega
    clear hs hr he
    by_cases hlt : k < 7
    · have c1 := Hr.out.at (num_row g k hlt).1
      have c2 := Hr.out.at (num_row g k hlt).2
      have c3 := Hs.out.2.1.at (HF.out k hlt)
      have Hin := Lib.hid (Hin.out k hlt)
      have Hcut := Lib.hid (Hcut.out k hlt)
      have Hrd := Lib.hid (Hrd.out k hlt)
      have Hno := Lib.hid (Hno.out k hlt)
      have Hbad := Lib.hid (Hbad.out k hlt)
      have Hneg := Lib.hid (Hneg.out k hlt)
      have Hyes := Lib.hid (Hyes.out k hlt)
      have Hold := Lib.hid (Hold.out k hlt)
      cases hB : B k
      · rw [hB] at Hin
        obtain ⟨q1, q2⟩ := Hno.out hB
        have Q1 := Lib.hid q1
        have Q2 := Lib.hid q2
        clear hB q1 q2 Hcut Hrd Hno Hbad Hneg Hyes Hold
        generalize numF k = f at *
        generalize numI k = i at *
        go_wp2_with fail
        have Ka := Lib.hid (Keep3.start (t := 68) (u := .int .i64 f) (v := .pointer (some ⟨g, i, none⟩)) hgl c3)
        have Hsa := Lib.hid (Hs.out.step ((Below.refl _ _).alloc (Nat.le_refl _) (.cells #[.int .i64 f, .pointer (some ⟨g, i, none⟩)] 68)))
        have Hra := Lib.hid (Hr.out.behind (.cells #[.int .i64 f, .pointer (some ⟨g, i, none⟩)] 68))
        have hz0 : wr.heap.size < (wr.alloc (.cells #[.int .i64 f, .pointer (some ⟨g, i, none⟩)] 68)).heap.size := by simp
        generalize wr.alloc (.cells #[.int .i64 f, .pointer (some ⟨g, i, none⟩)] 68) = wa at *
        obtain ⟨d1, d2, d3⟩ := Ka.out.2.1
        clear c1 c2 c3 Ka Hs Hr
        go_quiet ((go_at_call 45; exact quiet_eq (Hin.out _)))
        have Hsb := Lib.hid (show Rd w g (C k) (wa.drewN nq) from Rd.step Hsa.out ⟨rfl, rfl, rfl, Nat.le_refl _, fun _ _ => rfl⟩)
        have Hrb := Lib.hid (show Holds (wa.drewN nq) r 68 (numCells g) from Hra.out)
        have b1 : (wa.drewN nq).cell? ⟨wr.heap.size, 0, none⟩ = some (.int .i64 f) := d1
        have b2 : (wa.drewN nq).cell? ⟨wr.heap.size, 1, none⟩ = some (.pointer (some ⟨g, i, none⟩)) := d2
        have hzb : wr.heap.size < (wa.drewN nq).heap.size := hz0
        clear d1 d2 d3 Hsa Hra hz0
        generalize wa.drewN nq = wb at *
        go_wp2
        go_roundw
        case rel => exact ⟨k + 1, by omega, by go_num, by rw [Q1.out]; exact Hsb.out, Hrb.out, by rw [Q2.out]; exact He.out⟩
        case measure => simp [intOf]; omega
      · rw [hB] at Hin
        have Hn5 := Lib.hid (show ((numF k : Nat) : Int) ≠ 5 ↔ k ≠ 4 by rcases lt7 hlt with rfl | rfl | rfl | rfl | rfl | rfl | rfl <;> simp [numF])
        have Hbad := Lib.hid (Hbad.out hB)
        have Hneg := Lib.hid (Hneg.out hB)
        have Hyes := Lib.hid (Hyes.out hB)
        clear hB Hno
        generalize numF k = f at *
        generalize numI k = i at *
        go_wp2_with fail
        have Ka := Lib.hid (Keep3.start (t := 68) (u := .int .i64 f) (v := .pointer (some ⟨g, i, none⟩)) hgl c3)
        have Hsa := Lib.hid (Hs.out.step ((Below.refl _ _).alloc (Nat.le_refl _) (.cells #[.int .i64 f, .pointer (some ⟨g, i, none⟩)] 68)))
        have Hra := Lib.hid (Hr.out.behind (.cells #[.int .i64 f, .pointer (some ⟨g, i, none⟩)] 68))
        have hz0 : wr.heap.size < (wr.alloc (.cells #[.int .i64 f, .pointer (some ⟨g, i, none⟩)] 68)).heap.size := by simp
        generalize wr.alloc (.cells #[.int .i64 f, .pointer (some ⟨g, i, none⟩)] 68) = wa at *
        obtain ⟨d1, d2, d3⟩ := Ka.out.2.1
        clear c1 c2 c3 Ka Hs Hr
        go_quiet ((go_at_call 45; exact quiet_eq (Hin.out _)))
        have Hsb := Lib.hid (show Rd w g (C k) (wa.drewN nq) from Rd.step Hsa.out ⟨rfl, rfl, rfl, Nat.le_refl _, fun _ _ => rfl⟩)
        have Hrb := Lib.hid (show Holds (wa.drewN nq) r 68 (numCells g) from Hra.out)
        have b1 : (wa.drewN nq).cell? ⟨wr.heap.size, 0, none⟩ = some (.int .i64 f) := d1
        have b2 : (wa.drewN nq).cell? ⟨wr.heap.size, 1, none⟩ = some (.pointer (some ⟨g, i, none⟩)) := d2
        have hzb : wr.heap.size < (wa.drewN nq).heap.size := hz0
        clear d1 d2 d3 Hsa Hra hz0
        generalize wa.drewN nq = wb at *
        go_wp2_with fail
        refine (Hcut.out _).mono ?_
        rintro e wc ⟨hbc, rfl⟩
        have Hsc := Lib.hid (Hsb.out.step hbc)
        have Hrc := Lib.hid (Hrb.out.under hbc Hrb.out.lt)
        have b1 : wc.cell? ⟨wr.heap.size, 0, none⟩ = some (.int .i64 f) := by rw [hbc.cell (p := ⟨wr.heap.size, 0, none⟩) hzb]; exact b1
        have b2 : wc.cell? ⟨wr.heap.size, 1, none⟩ = some (.pointer (some ⟨g, i, none⟩)) := by rw [hbc.cell (p := ⟨wr.heap.size, 1, none⟩) hzb]; exact b2
        have hzc : wr.heap.size < wc.heap.size := Nat.lt_of_lt_of_le hzb hbc.size
        clear hbc Hsb Hrb hzb
        generalize fl k = x at *
        generalize hv : val k = v at *
        generalize he : err k = er at *
        clear hv he
        go_wp2_with fail
        refine (Hrd.out _).mono ?_
        rintro e w' ⟨rfl, rfl⟩
        by_cases h1 : er = 0
        · have co : wc.cell? ⟨g, i, none⟩ = some (.int .i64 (old k)) := Hsc.out.2.1.at Hold.out
          have cf : wc.frozen? ⟨g, i, none⟩ = false := Hsc.out.2.1.frozen i
          have hgc : g < wc.heap.size := Hsc.out.2.1.lt
          by_cases h2 : v < 0
          · by_cases h3 : k = 4
            · obtain ⟨q1, q2⟩ := Hyes.out h1 (by omega)
              have Q1 := Lib.hid q1
              have Q2 := Lib.hid q2
              have e3 : (((f : Nat) : Int) == 5) = true := by
                by_cases hf : ((f : Nat) : Int) = 5
                · rw [hf]; rfl
                · exact absurd h3 (Hn5.out.1 hf)
              subst h1
              clear q1 q2 h3 Hbad Hneg Hyes Hn5
              go_wp2
              have hp := Rd.put Hsc.out i (.int .i64 v)
              have hr := Hrc.out.other (p := ⟨g, i, none⟩) (by show r ≠ g; omega) (.int .i64 v)
              rw [← Q1.out] at hp
              go_roundw
              case rel => exact ⟨k + 1, by omega, by go_num, hp, hr, by rw [Q2.out]; exact He.out⟩
              case measure => simp [intOf]; omega
            · have Hq := Lib.hid (show E 0 = 6 by rw [← He.out]; exact Hneg.out h1 h2 h3)
              have e3 : (((f : Nat) : Int) == 5) = false := by
                rw [beq_eq_false_iff_ne]; exact Hn5.out.2 h3
              subst h1
              clear h3 Hbad Hneg Hyes Hn5
              go_wp2
              go_ret
              exact ⟨C k, Hsc.out, by rw [Hq.out]; rfl, fun h => absurd (Hq.out.symm.trans h) (by decide)⟩
          · obtain ⟨q1, q2⟩ := Hyes.out h1 (by omega)
            have Q1 := Lib.hid q1
            have Q2 := Lib.hid q2
            subst h1
            clear q1 q2 Hbad Hneg Hyes Hn5
            go_wp2
            have hp := Rd.put Hsc.out i (.int .i64 v)
            have hr := Hrc.out.other (p := ⟨g, i, none⟩) (by show r ≠ g; omega) (.int .i64 v)
            rw [← Q1.out] at hp
            go_roundw
            case rel => exact ⟨k + 1, by omega, by go_num, hp, hr, by rw [Q2.out]; exact He.out⟩
            case measure => simp [intOf]; omega
        · have Hq := Lib.hid (show E 0 = er by rw [← He.out]; exact Hbad.out h1)
          have Hne := Lib.hid h1
          have e1 : (er == 0) = false := by simpa using h1
          clear h1
          go_wp2
          go_ret
          exact ⟨C k, Hsc.out, by rw [Hq.out]; rfl, fun h => absurd (Hq.out.symm.trans h) Hne.out⟩
    · obtain rfl : k = 7 := by omega
      have Hq := Lib.hid (show E 0 = 0 by rw [← He.out]; exact Hend.out)
      go_wp2
      go_ret
      exact ⟨C 7, Hs.out, by rw [Hq.out]; rfl, fun _ => rfl⟩
end Go.Proofs.YtlloaalaldomkaaDoor
