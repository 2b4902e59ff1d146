/-
  Lists of records in memory; contracts of record.Print, of the document's own Print, and of Same.
-/
import Derived.Test.YtafglickbaeoeaaDoorRecB
import Derived.Deep.RegionHeld3
namespace Go.Proofs.YtafglickbaeoeaaDoor
open Go.ChangeShapes Go.WideShapes Go.ChangeAt Go.RowKit

/-- Records that lie from an address on. -/
def PairsAt (w : World) (b o : Nat) (l : List Pr) : Prop :=
  ∀ i (h : i < l.length), w.cell? ⟨b, o + i * 2, none⟩ = some (.string ⟨l[i].1.toArray⟩) ∧ w.cell? ⟨b, o + i * 2 + 1, none⟩ = some (.string ⟨l[i].2.toArray⟩)
theorem PairsAt.under {w w' : World} {b o B : Nat} {l : List Pr} (h : PairsAt w b o l) (hb : Below B w w') (hB : b < B) : PairsAt w' b o l :=
  fun i hi => ⟨by rw [hb.cell (p := ⟨b, o + i * 2, none⟩) hB]; exact (h i hi).1, by rw [hb.cell (p := ⟨b, o + i * 2 + 1, none⟩) hB]; exact (h i hi).2⟩
/-- A slice of these records. -/
def PairsIn (w : World) (v : Value) (l : List Pr) : Prop :=
  ∃ (ad : Option Addr) (cap : Nat), v = .slice ad l.length cap ∧ (l = [] ∨ ∃ b o, ad = some ⟨b, o, none⟩ ∧ b < w.heap.size ∧ PairsAt w b o l)
theorem PairsIn.under {w w' : World} {v : Value} {l : List Pr} (h : PairsIn w v l) (hb : Below w.heap.size w w') : PairsIn w' v l := by
  obtain ⟨ad, cap, hv, h⟩ := h
  refine ⟨ad, cap, hv, ?_⟩
  rcases h with h | ⟨b, o, ha, hb2, hp⟩
  · exact .inl h
  · exact .inr ⟨b, o, ha, Nat.lt_of_lt_of_le hb2 hb.size, hp.under hb hb2⟩

/-- What Print says, as two results. -/
def print2 (l : List Pr) : Value := .tuple #[.string ⟨(prPrint l).1.toArray⟩, .int .i64 (prPrint l).2]

theorem all_take {l : List Pr} {k : Nat} (hk : k < l.length) (h : (l.take k).all prRight = true) (hr : prRight l[k] = true) : (l.take (k + 1)).all prRight = true := by
  rw [List.take_succ_eq_append_getElem hk, List.all_append, h]; simpa using hr
theorem all_bad {l : List Pr} {k : Nat} (hk : k < l.length) (hr : prRight l[k] = false) : l.all prRight = false := by
  rw [List.all_eq_false]; exact ⟨l[k], List.getElem_mem hk, by rw [hr]; simp⟩
theorem sizes_take {l : List Pr} {k : Nat} (hk : k < l.length) : prSizes (l.take (k + 1)) = prSizes (l.take k) + prSize l[k] := by
  rw [List.take_succ_eq_append_getElem hk, prSizes_append]; simp [prSizes]
theorem texts_take {l : List Pr} {k : Nat} (hk : k < l.length) : prTexts (l.take (k + 1)) = prTexts (l.take k) ++ prText l[k] := by
  rw [List.take_succ_eq_append_getElem hk, prTexts_append]; simp [prTexts]
theorem fits_get {M : Nat} {l : List Pr} (h : prFits M l) {k : Nat} (hk : k < l.length) : l[k].1.length + l[k].2.length ≤ M := h _ (List.getElem_mem hk)
theorem fits_take {M : Nat} {l : List Pr} (h : prFits M l) (k : Nat) : prFits M (l.take k) := fun p hp => h p (List.mem_of_mem_take hp)

theorem BuIs.step {B b : Nat} {l : List UInt8} {w w' : World} (h : BuIs B b l w) (hb : Below w.heap.size w w') : BuIs B b l w' := by
  have one : ∀ p, Lib.BuilderAtF 48 5 B b p (Lib.byteCells l) w → Lib.BuilderAtF 48 5 B b p (Lib.byteCells l) w' := by
    intro p hp
    have hlt := hp.lt
    obtain ⟨h1, v, h2, h3, h4⟩ := hp
    exact ⟨h1, v, by rw [hb.block b hlt]; exact h2, h3.kept (row := none) ⟨hb.os, hb.tape, hb.output, hb.size, fun k hk _ => hb.block k hk⟩ (by rcases h : v.ownBlock with _ | g; exact .inl rfl; exact .inr (by simp)), h4⟩
  rcases h with h | h
  · exact .inl (one _ h)
  · exact .inr (one _ h)
theorem BuIs.fresh (B : Nat) (w : World) (h : B ≤ w.heap.size) : BuIs B w.heap.size [] (w.alloc (.cells #[.pointer none, .slice none 0 0] 48)) := by
  obtain ⟨h1, v, h2, h3, h4⟩ := Lib.BuilderAtF.of ((Lib.fresh_isBuilder 48 5 w).elim id (fun hx => by
    have h0 := hx.cell0
    rw [Lib.cell_of_heap (heap_alloc_new w _)] at h0
    cases h0))
  refine .inl ⟨h, v, h2, ?_, h4⟩
  have hh : (w.alloc (.cells #[.pointer none, .slice none 0 0] 48)).heap[w.heap.size]? = some (.cells #[.pointer none, .slice none 0 0] 48 (0, 0)) := heap_alloc_new w _
  rw [hh] at h2
  cases h2
  exact ⟨rfl, .inl ⟨rfl, rfl⟩⟩

/-- What the region keeps that writes a record's text. -/
def KeepP (W : World) (g b : Nat) (C : List Value) (T : List UInt8) (w : World) : Prop :=
  Holds w g 25 C ∧ TabOk w ∧ BuIs W.heap.size b T w ∧ Below W.heap.size W w
theorem KeepP.step {W : World} {g b : Nat} {C : List Value} {T : List UInt8} {w w' : World} (k : KeepP W g b C T w) (hb : Below w.heap.size w w') : KeepP W g b C T w' :=
  ⟨k.1.under hb k.1.lt, k.2.1.below hb (Nat.le_refl _), k.2.2.1.step hb, k.2.2.2.trans (hb.mono k.2.2.2.size)⟩
theorem KeepP.drew {W : World} {g b : Nat} {C : List Value} {T : List UInt8} {w : World} (k : KeepP W g b C T w) : KeepP W g b C T w.drew := k.step ⟨rfl, rfl, rfl, Nat.le_refl _, fun _ _ => rfl⟩
def CellsP (g : Nat) (x y : Value) (w : World) : Prop := Holds w g 25 [x, y] ∧ w.cell? ⟨g, 0, none⟩ = some x ∧ w.cell? ⟨g, 1, none⟩ = some y
theorem CellsP.of {g : Nat} {x y : Value} {w : World} (h : Holds w g 25 [x, y]) : CellsP g x y w := ⟨h, (two_holds h).1, (two_holds h).2.1⟩
theorem KeepP.all {W : World} {g b : Nat} {x y : Value} {T : List UInt8} {w : World} (k : KeepP W g b [x, y] T w) : CellsP g x y w ∧ w.cell? ⟨g, 0, none⟩ = some x ∧ w.cell? ⟨g, 1, none⟩ = some y := ⟨.of k.1, (two_holds k.1).1, (two_holds k.1).2.1⟩
theorem KeepP.allO {W : World} {g b : Nat} {x y : Value} {T : List UInt8} {w w' : World} (k : KeepP W g b [x, y] T w) (ho : Others b w w') (hg : g ≠ b) : CellsP g x y w' ∧ w'.cell? ⟨g, 0, none⟩ = some x ∧ w'.cell? ⟨g, 1, none⟩ = some y := by
  have h := ho g _ _ (by decide) hg k.1
  exact ⟨.of h, (two_holds h).1, (two_holds h).2.1⟩
theorem CellsP.of2 {W : World} {g b : Nat} {x y : Value} {T : List UInt8} {w : World} (k : KeepP W g b [x, y] T w) : CellsP g x y w := .of k.1

set_option maxRecDepth 100000 in
set_option maxHeartbeats 1000000 in
theorem print_any (l : List Pr) (b o cap : Nat) (w : World) (hb0 : b < w.heap.size) (hl : PairsAt w b o l) (hf : prFits 140737488355328 l) (ht : TabOk w) (hlen : l.length ≤ 140737488355328) :
    Calls Tryd.prog 12 #[.slice (some ⟨b, o, none⟩) l.length cap] w fun e w' => Below w.heap.size w w' ∧ e = .returned (print2 l) := by
  by_cases h256 : 256 < l.length
  · have Hq := Lib.hid (show prPrint l = ([], 8) from if_pos h256)
    have h2 : (256 : Int) < l.length := by omega
    clear h256
    unfold print2
    go_enter Tryd.func12, Tryd.ntmps12
    go_wp2
    go_ret2
    rw [Hq.out]
    exact ⟨Below.refl _ _, rfl⟩
  · have h2 : ¬ (256 : Int) < l.length := by omega
    have Hn := Lib.hid (show l.length ≤ 256 by omega)
    have Hl := Lib.hid hl
    have Hf := Lib.hid hf
    have Ht := Lib.hid ht
    generalize hR : print2 l = R
    have HR := Lib.hid hR
    clear hl hf ht hR h256 hlen
    go_enter Tryd.func12, Tryd.ntmps12
    go_wp2
    go_loopw [4, 15] (fun a i wr => ∃ k : Nat, k ≤ l.length ∧ i = .int .i64 k ∧ a = .int .i64 (prSizes (l.take k)) ∧ (l.take k).all prRight = true ∧ Below w.heap.size w wr) (fun _ i _ => l.length - (intOf i).toNat)
    case atStart => exact ⟨0, Nat.zero_le _, rfl, rfl, rfl, Below.refl _ _⟩
    case round =>
      obtain ⟨k, hk, rfl, rfl, hall, hb⟩ := hrel
      have Hb := Lib.hid hb
      have Ha := Lib.hid hall
      have hbd : prSizes (l.take k) ≤ 36028797018973184 := by
        have := prSizes_256 140737488355328 (by omega) (l.take k) (fits_take Hf.out k) (by have := Hn.out; rw [List.length_take]; omega)
        omega
      clear hb hall
      by_cases hlt : k < l.length
      · have hpf := fits_get Hf.out hlt
        have hsz := (szOf_spec (prRest l[k]) (by unfold prRest; omega)).2.1
        have hS : prSize l[k] ≤ 140737488355360 := by unfold prSize; unfold prRest at hsz ⊢; omega
        obtain ⟨c1, c2⟩ := Hl.out.under Hb.out hb0 k hlt
        have Hr := Lib.hid (fun w1 => right_any l[k] w1)
        have Hs := Lib.hid (fun w1 => size_any l[k] w1 (by unfold prRest; omega))
        have Hst := Lib.hid (sizes_take hlt)
        have Hat := Lib.hid (fun hr => all_take hlt Ha.out hr)
        have Hab := Lib.hid (fun hr => all_bad hlt hr)
        unfold prVal at Hr Hs
        generalize l[k] = p at *
        generalize prSizes (l.take k) = X at *
        generalize prSize p = Y at *
        clear hpf hsz
        generalize prRight p = rr at *
        cases rr
        · have Hq := Lib.hid (show R = .tuple #[.string ⟨([] : List UInt8).toArray⟩, .int .i64 2] by
            rw [← HR.out]; unfold print2 prPrint; have := Hn.out; rw [if_neg (by omega), if_pos (Hab.out rfl)])
          clear HR Hs Hst Hat Hab
          go_wp2_with fail
          refine (Hr.out _).mono ?_
          rintro e w2 ⟨hb2, rfl⟩
          have Hb2 := Lib.hid (Hb.out.trans ((boxed hb2).2.mono Hb.out.size))
          clear hb2 c1 c2
          go_wp2
          go_ret2
          rw [Hq.out]
          exact ⟨Hb2.out, rfl⟩
        · have Hq := Lib.hid (Hat.out rfl)
          clear HR Hat Hab
          go_wp2_with fail
          refine (Hr.out _).mono ?_
          rintro e w2 ⟨hb2, rfl⟩
          obtain ⟨H0, hb2⟩ := boxed hb2
          have Hb2 := Lib.hid (Hb.out.trans (hb2.mono Hb.out.size))
          clear hb2 c1 c2
          obtain ⟨c0, c1, f0, f1⟩ := two_holds H0
          clear H0
          go_wp2_with fail
          refine (Hs.out _ (Ht.out.below Hb2.out (Nat.le_refl _))).mono ?_
          rintro e w3 ⟨hb3, rfl⟩
          have Hb3 := Lib.hid (Hb2.out.trans (hb3.mono Hb2.out.size))
          clear hb3
          go_wp2
          go_roundw
          case rel => exact ⟨k + 1, by omega, by go_num, by rw [Hst.out]; simp, Hq.out, Hb3.out⟩
          case measure => simp [intOf]; omega
      · have hkn : k = l.length := by omega
        subst hkn
        rw [List.take_length] at hbd
        by_cases hbig : 65536 < prSizes l
        · have Hq := Lib.hid (show R = .tuple #[.string ⟨([] : List UInt8).toArray⟩, .int .i64 12] by
            have h1 := Ha.out
            rw [List.take_length] at h1
            rw [← HR.out]; unfold print2 prPrint; have := Hn.out; rw [if_neg (by omega), h1, if_neg (by simp), if_pos hbig])
          clear HR
          rw [List.take_length]
          generalize prSizes l = X at *
          go_wp2
          go_ret2
          rw [Hq.out]
          exact ⟨Hb.out, rfl⟩
        · have Hq := Lib.hid (show R = .tuple #[.string ⟨(prTexts l).toArray⟩, .int .i64 0] by
            have h1 := Ha.out
            rw [List.take_length] at h1
            rw [← HR.out]; unfold print2 prPrint; have := Hn.out; rw [if_neg (by omega), h1, if_neg (by simp), if_neg hbig])
          clear HR Ha
          have hbig2 : ¬ (65536 : Int) < prSizes l := by omega
          have Hbig := Lib.hid hbig
          rw [List.take_length]
          generalize prSizes l = X at hbd hbig2 ⊢
          clear hbig hbd
          go_wp2
          have Hbu := Lib.hid (BuIs.fresh w.heap.size wr Hb.out.size)
          have Hb2 := Lib.hid (Hb.out.alloc Hb.out.size (.cells #[.pointer none, .slice none 0 0] 48))
          have hbb : wr.heap.size < (wr.alloc (.cells #[.pointer none, .slice none 0 0] 48)).heap.size := by simp
          generalize wr.alloc (.cells #[.pointer none, .slice none 0 0] 48) = wa at *
          generalize wr.heap.size = bb at *
          go_loopw [31] (fun i wq => ∃ j : Nat, j ≤ l.length ∧ i = .int .i64 j ∧ BuIs w.heap.size bb (prTexts (l.take j)) wq ∧ Below w.heap.size w wq ∧ bb < wq.heap.size) (fun i _ => l.length - (intOf i).toNat)
          case atStart => exact ⟨0, Nat.zero_le _, rfl, Hbu.out, Hb2.out, hbb⟩
          case round =>
            obtain ⟨j, hj, rfl, hbu, hbq, hbbq⟩ := hrel
            have HB := Lib.hid hbu
            have HQ := Lib.hid hbq
            clear hbu hbq
            by_cases hlj : j < l.length
            · have hpf := fits_get Hf.out hlj
              obtain ⟨c1, c2⟩ := Hl.out.under HQ.out hb0 j hlj
              have Hs := Lib.hid (fun w1 => size_any l[j] w1 (by unfold prRest; omega))
              have hY : prSize l[j] ≤ 65536 := by
                have h1 := sizes_take hlj
                have h2 := prSizes_take l (j + 1)
                have h3 := Hbig.out
                omega
              have Hi := Lib.hid (fun w1 h => itoa_any (prSize l[j]) w1 (by omega) (by omega) h)
              have hTl : (prTexts (l.take j)).length + (prText l[j]).length ≤ 65536 := by
                rw [← List.length_append, ← texts_take hlj, prTexts_length _ (fun p hp => by have := fits_take Hf.out (j + 1) p hp; omega)]
                have := Hbig.out
                have := prSizes_take l (j + 1)
                omega
              have Htx := Lib.hid (texts_take hlj)
              have Hpt := Lib.hid (show prText l[j] = Lib.decDigits ((prSize l[j] : Int)).toNat ++ [32] ++ l[j].1 ++ [61] ++ l[j].2 ++ [10] by simp [prText])
              unfold prVal at Hs
              generalize prText l[j] = s at *
              generalize hT1 : prTexts (l.take (j + 1)) = T1 at *
              have HT1 := Lib.hid hT1
              clear hT1
              generalize prTexts (l.take j) = T at *
              generalize prSize l[j] = Y at *
              generalize l[j] = p at *
              obtain ⟨x, y⟩ := p
              simp only at Hs Hpt c1 c2 hpf
              generalize Lib.decDigits ((Y : Int)).toNat = dd at *
              have Hwr := Lib.hid (fun (W : World) (s' : List UInt8) (he : s' = s) (hW : Below w.heap.size w W) (hB : BuIs w.heap.size bb T W) => write_any w.heap.size bb T s' W hB (by rw [he]; omega) hW.size)
              have hk : KeepP w wr.heap.size bb [.string ⟨x.toArray⟩, .string ⟨y.toArray⟩] T (wr.alloc (.cells #[.string ⟨x.toArray⟩, .string ⟨y.toArray⟩] 25)) := by
                have hb : Below wr.heap.size wr (wr.alloc (.cells #[.string ⟨x.toArray⟩, .string ⟨y.toArray⟩] 25)) := (Below.refl _ _).alloc (Nat.le_refl _) _
                exact ⟨Holds.new _ _ _, (Ht.out.below HQ.out (Nat.le_refl _)).below hb (Nat.le_refl _), HB.out.step hb, HQ.out.trans (hb.mono HQ.out.size)⟩
              have hbg : bb ≠ wr.heap.size := by omega
              have e1 : dd ++ [32] ++ x ++ [61] ++ y ++ [10] = s := Hpt.out.symm
              have hss : s.length ≤ 65536 := by omega
              have hall : dd.length + x.length + y.length ≤ 65536 := by
                have h := congrArg List.length e1
                simp only [List.length_append, List.length_cons, List.length_nil] at h
                omega
              have hd1 : dd.length ≤ 65536 := by omega
              have hx1 : dd.length + x.length ≤ 65536 := by omega
              have g1 : ¬ 9223372036854775807 < dd.length + 1 := by omega
              have g2 : ¬ 9223372036854775807 < dd.length + 1 + x.length := by omega
              have g3 : ¬ 9223372036854775807 < dd.length + (x.length + 1) + 1 := by omega
              have g4 : ¬ 9223372036854775807 < dd.length + (x.length + 1 + 1) + y.length := by omega
              have g5 : ¬ 9223372036854775807 < dd.length + (x.length + (y.length + 1) + 1) + 1 := by omega
              clear hTl hpf Hpt hY hss hall hd1 hx1
              go_wp2_with fail
              clear c1 c2
              generalize wr.alloc (.cells #[.string ⟨x.toArray⟩, .string ⟨y.toArray⟩] 25) = wb at *
              generalize wr.heap.size = g at *
              have hS := CellsP.of2 hk
              obtain ⟨c0, c1, c2⟩ := hS
              go_region_held3 (fun w' => CellsP g (.string ⟨x.toArray⟩) (.string ⟨y.toArray⟩) w' ∧ w'.cell? ⟨g, 0, none⟩ = some (.string ⟨x.toArray⟩) ∧ w'.cell? ⟨g, 1, none⟩ = some (.string ⟨y.toArray⟩))
                (first | assumption | exact hk.drew.all | exact (hk.drew.step hbA).all | exact ((hk.drew.step hbA).step hbB).all | exact KeepP.allO ((hk.drew.step hbA).step hbB) hoC hbg.symm)
                (first
                  | (go_at_call 8; refine (Hs.out _ hk.drew.2.1).mono ?_; rintro e wA ⟨hbA, rfl⟩)
                  | (go_at_call 17; refine (Hi.out _ (hk.drew.step hbA).2.1).mono ?_; rintro e wB ⟨hbB, rfl⟩)
                  | (go_at_call 20; refine (Hwr.out _ _ (by rw [← e1]; simp) ((hk.drew.step hbA).step hbB).2.2.2 ((hk.drew.step hbA).step hbB).2.2.1).mono ?_; rintro e wC ⟨rfl, hbC, hbD, hoC⟩))
              have Hfin := Lib.hid (show BuIs w.heap.size bb T1 wC ∧ Below w.heap.size w wC by
                refine ⟨?_, ((hk.drew.step hbA).step hbB).2.2.2.trans hbD⟩
                rw [Htx.out, ← e1]
                simpa using hbC)
              have hbz : bb < wC.heap.size := by have := Hfin.out.2.size; have := hoC; exact Nat.lt_of_lt_of_le (Nat.lt_of_lt_of_le hbbq (Nat.le_of_lt ((hk.drew.step hbA).step hbB).1.lt)) hbD.size
              clear hk hbA hbB hbC hbD hoC c0 c1 c2 hbbq e1 g1 g2 g3 g4 g5
              go_wp2
              go_roundw
              case rel => exact ⟨j + 1, by omega, by go_num, by rw [HT1.out]; exact Hfin.out.1, Hfin.out.2, hbz⟩
              case measure => simp [intOf]; omega
            · have hjn : j = l.length := by omega
              subst hjn
              have HB2 := Lib.hid HB.out
              rw [List.take_length] at HB2
              have Hstr := Lib.hid (Tryd.Builder_String_any_f w.heap.size bb (prTexts l) wr HB2.out HQ.out.size)
              generalize prTexts l = T at *
              go_wp2_with fail
              refine Hstr.out.mono ?_
              rintro e w5 ⟨rfl, -, hb5⟩
              have Hb5 := Lib.hid (HQ.out.trans hb5)
              clear hb5
              go_wp2
              go_ret2
              rw [Hq.out]
              exact ⟨Hb5.out, rfl⟩

/-- No records at all. -/
theorem print_nil (ad : Option Addr) (cap : Nat) (w : World) :
    Calls Tryd.prog 12 #[.slice ad 0 cap] w fun e w' => Below w.heap.size w w' ∧ e = .returned (print2 []) := by
  have Hq := Lib.hid (show print2 [] = .tuple #[.string ⟨([] : List UInt8).toArray⟩, .int .i64 0] from rfl)
  generalize print2 [] = R at *
  go_enter Tryd.func12, Tryd.ntmps12
  go_wp2
  go_loopw [4, 15] (fun a i wr => i = .int .i64 0 ∧ a = .int .i64 0 ∧ wr = w) (fun _ i _ => 0)
  case atStart => exact ⟨rfl, rfl, rfl⟩
  case round =>
    obtain ⟨rfl, rfl, rfl⟩ := hrel
    obtain ⟨wo, rfl⟩ : ∃ wo : World, wo = wr := ⟨_, rfl⟩
    go_wp2
    have Hbu := Lib.hid (BuIs.fresh wo.heap.size wo (Nat.le_refl _))
    have Hb2 := Lib.hid ((Below.refl wo.heap.size wo).alloc (Nat.le_refl _) (.cells #[.pointer none, .slice none 0 0] 48))
    generalize wo.alloc (.cells #[.pointer none, .slice none 0 0] 48) = wa at *
    have hbz := Hb2.out.size
    generalize hbb : wo.heap.size = bb at *
    have HW := Lib.hid hbb
    clear hbb
    go_loopw [31] (fun i wq => i = .int .i64 0 ∧ wq = wa) (fun i _ => 0)
    case atStart => exact ⟨rfl, rfl⟩
    case round =>
      obtain ⟨rfl, rfl⟩ := hrel
      have Hstr := Lib.hid (Tryd.Builder_String_any_f bb bb [] wr Hbu.out hbz)
      go_wp2_with fail
      refine Hstr.out.mono ?_
      rintro e w5 ⟨rfl, -, hb5⟩
      have Hb5 := Lib.hid (Hb2.out.trans hb5)
      clear hb5
      go_wp2
      go_ret2
      rw [Hq.out]
      exact ⟨by rw [HW.out]; exact Hb5.out, rfl⟩

theorem printIn_any (l : List Pr) (v : Value) (w : World) (hl : PairsIn w v l) (hf : prFits 140737488355328 l) (ht : TabOk w) (hlen : l.length ≤ 140737488355328) :
    Calls Tryd.prog 12 #[v] w fun e w' => Below w.heap.size w w' ∧ e = .returned (print2 l) := by
  obtain ⟨ad, cap, rfl, h⟩ := hl
  by_cases hn : l = []
  · subst hn; exact print_nil ad cap w
  · rcases h with h | ⟨b, o, rfl, hb, hp⟩
    · exact absurd h hn
    · exact print_any l b o cap w hb hp hf ht hlen
end Go.Proofs.YtafglickbaeoeaaDoor
