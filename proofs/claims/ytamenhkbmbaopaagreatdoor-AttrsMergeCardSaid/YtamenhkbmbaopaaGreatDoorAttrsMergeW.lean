/- The walk of the law AttrsMerge, over a contract of awake. -/
import Derived.Test.YtamenhkbmbaopaaGreatDoorMrgL
import Derived.Test.YtamenhkbmbaopaaGreatDoorSame
namespace Go.Proofs.YtamenhkbmbaopaaGreatDoor.attrsMerge
open Go.ChangeShapes Go.WideShapes Go.ChangeAt Go.RowKit Go.Maps

theorem mAll_mem (g : List Pr) : ∀ (l : List Pr) (q : Pr), q ∈ mAll l g → q ∈ l ∨ q ∈ g := by
  induction g with
  | nil => exact fun l q h => .inl h
  | cons p g ih =>
    intro l q h
    rcases ih (mPut l p) q h with h | h
    · rcases mIns_mem h with rfl | h
      · exact .inr List.mem_cons_self
      · exact .inl (List.mem_filter.1 h).1
    · exact .inr (List.mem_cons_of_mem _ h)
theorem mAll_length (g : List Pr) : ∀ l : List Pr, (mAll l g).length ≤ l.length + g.length := by
  induction g with
  | nil => intro l; simp [mAll]
  | cons p g ih =>
    intro l
    have h1 := ih (mPut l p)
    have h2 := mPut_length l p
    show (mAll (mPut l p) g).length ≤ _
    simp only [List.length_cons]
    omega
theorem mMerge_mem {g l : List Pr} {q : Pr} (h : q ∈ mMerge g l) : q ∈ g ∨ q ∈ l := by
  have h1 := (List.mem_filter.1 h).1
  rcases mAll_mem l _ q h1 with h | h
  · rcases mAll_mem g _ q h with h | h
    · cases h
    · exact .inl h
  · exact .inr h
theorem mMerge_length (g l : List Pr) : (mMerge g l).length ≤ g.length + l.length := by
  have h1 := List.length_filter_le (fun p : Pr => !p.2.isEmpty) (mAll (mAll [] g) l)
  have h2 := mAll_length l (mAll [] g)
  have h3 := mAll_length g []
  simp only [List.length_nil] at h3
  show (List.filter _ _).length ≤ _
  omega

set_option maxRecDepth 100000 in
set_option maxHeartbeats 1000000 in
theorem walk (OK : World → Prop) (hstep : ∀ a b : World, OK a → Below a.heap.size a b → OK b)
    (haw : ∀ w : World, OK w → Calls Tryz.prog 7 #[] w fun e w' => Below w.heap.size w w' ∧ e = .returned (.bool true))
    (g l : List Pr) (ag al : Option Addr) (cg cl : Nat) (w : World) (hg : PairsIn w (.slice ag g.length cg) g) (hl : PairsIn w (.slice al l.length cl) l) (hok : OK w) :
    Calls Tryz.prog 3 #[.slice ag g.length cg, .slice al l.length cl] w fun e w' => Below w.heap.size w w' ∧ e = .returned (.bool true) := by
  have Hg := Lib.hid hg
  have Hl := Lib.hid hl
  have Hok := Lib.hid hok
  have Haw := Lib.hid haw
  have Hstep := Lib.hid hstep
  have Hlg := Lib.hid (long_any g ag cg w hg)
  have Hll := Lib.hid (fun w1 h => long_any l al cl w1 h)
  have Hfg := Lib.hid (fun h => tooLong_fits (l := g) h)
  have Hfl := Lib.hid (fun h => tooLong_fits (l := l) h)
  clear hg hl hok haw hstep
  generalize tooLong g = tg at *
  generalize tooLong l = tl at *
  cases tg with
  | true =>
    go_enter Tryz.func3, Tryz.ntmps3
    go_wp2_with (fail)
    refine Hlg.out.mono ?_
    rintro e w1 ⟨hb1, rfl⟩
    have Hb1 := Lib.hid hb1
    clear hb1
    go_wp2_with (fail)
    refine (Haw.out _ (Hstep.out _ _ Hok.out Hb1.out)).mono ?_
    rintro e w2 ⟨hb2, rfl⟩
    have Hb2 := Lib.hid (Hb1.out.trans (hb2.mono Hb1.out.size))
    clear hb2
    go_wp2
    go_ret
    exact ⟨Hb2.out, rfl⟩
  | false =>
    cases tl with
    | true =>
      go_enter Tryz.func3, Tryz.ntmps3
      go_wp2_with (fail)
      refine Hlg.out.mono ?_
      rintro e w1 ⟨hb1, rfl⟩
      have Hb1 := Lib.hid hb1
      clear hb1
      go_wp2_with (fail)
      refine (Hll.out _ (Hl.out.under Hb1.out)).mono ?_
      rintro e w2 ⟨hb2, rfl⟩
      have Hb2 := Lib.hid (Hb1.out.trans (hb2.mono Hb1.out.size))
      clear hb2
      go_wp2_with (fail)
      refine (Haw.out _ (Hstep.out _ _ Hok.out Hb2.out)).mono ?_
      rintro e w3 ⟨hb3, rfl⟩
      have Hb3 := Lib.hid (Hb2.out.trans (hb3.mono Hb2.out.size))
      clear hb3
      go_wp2
      go_ret
      exact ⟨Hb3.out, rfl⟩
    | false =>
      obtain ⟨hg1, hg2⟩ := Hfg.out rfl
      obtain ⟨hl1, hl2⟩ := Hfl.out rfl
      have Hmrg := Lib.hid (fun w1 (h : Below w.heap.size w w1) => merge_any g l ag al cg cl w1 (Hg.out.under h) (Hl.out.under h) (fun p hp => by have := hg2 p hp; omega) (fun p hp => by have := hl2 p hp; omega) (by omega))
      have Href := Lib.hid (fun w1 (h : Below w.heap.size w w1) => refMerge_any g l ag al cg cl w1 (Hg.out.under h) (Hl.out.under h) (by omega))
      have Hris := Lib.hid (mMerge_rising g l)
      have Hself := Lib.hid (mMerge_self g l)
      have hml : (mMerge g l).length ≤ 24 := by have := mMerge_length g l; omega
      have Hfit := Lib.hid (show prFits 140737488355328 (mMerge g l) from fun p hp => by
        rcases mMerge_mem hp with h | h
        · have := hg2 p h; omega
        · have := hl2 p h; omega)
      have Hml := Lib.hid hml
      clear hg1 hg2 hl1 hl2 hml Hfg Hfl
      generalize mMerge g l = M at *
      go_enter Tryz.func3, Tryz.ntmps3
      go_wp2_with (fail)
      refine Hlg.out.mono ?_
      rintro e w1 ⟨hb1, rfl⟩
      have Hb1 := Lib.hid hb1
      clear hb1
      go_wp2_with (fail)
      refine (Hll.out _ (Hl.out.under Hb1.out)).mono ?_
      rintro e w2 ⟨hb2, rfl⟩
      have Hb2 := Lib.hid (Hb1.out.trans (hb2.mono Hb1.out.size))
      clear hb2 Hb1
      go_wp2_with (fail)
      refine (Hmrg.out _ Hb2.out).mono ?_
      rintro e w3 ⟨hb3, v, rfl, hown⟩
      have Hb3 := Lib.hid (Hb2.out.trans (hb3.mono Hb2.out.size))
      obtain ⟨av, cs, rfl⟩ := hown.slice
      have Hin := Lib.hid hown.pairs
      have Hc := Lib.hid hown.pairs.cells
      clear hb3 hown Hb2 Hlg Hll
      go_wp2
      go_loopw [6] (fun i wr => ∃ k m : Nat, i = .int .i64 ((k : Int) + 1) ∧ k ≤ M.length ∧ wr = w3.drewN m) (fun i _ => M.length + 1 - (intOf i).toNat)
      case atStart => exact ⟨0, 0, rfl, Nat.zero_le _, rfl⟩
      case round =>
        obtain ⟨k, m, rfl, hk, rfl⟩ := hrel
        have hkb : (k : Int) ≤ 24 := by have := Hml.out; omega
        by_cases hlt : k + 1 < M.length
        · obtain ⟨b, o, rfl, hb0, c1, c2⟩ := Hc.out k (by omega)
          obtain ⟨b2, o2, he, hb02, d1, d2⟩ := Hc.out (k + 1) hlt
          obtain ⟨rfl, rfl⟩ : b = b2 ∧ o = o2 := by simpa using he
          have hbef : bytesBefore M[k].1 M[k + 1].1 = true := List.pairwise_iff_getElem.1 Hris.out k (k + 1) (by omega) hlt (by omega)
          have hlt2 : (k : Int) + 1 < M.length := by omega
          have hw1 : wrap64 ((k : Int) + 1 - 1) = (k : Int) := by rw [IntWalk.wrap64_in _ (by omega)]; omega
          have hw2 : IntKind.i64.wrap ((k : Int) + 1 - 1) = (k : Int) := by rw [IntWalk.i64_in _ (by omega)]; omega
          have hge := geq_run M[k].1 M[k + 1].1
          rw [hbef] at hge
          generalize M[k].1 = x at *
          generalize M[k + 1].1 = y at *
          clear hbef he
          have c1 : (w3.drewN m).cell? ⟨b, o + k * 2, none⟩ = some (.string ⟨x.toArray⟩) := c1
          have d1 : (w3.drewN m).cell? ⟨b, o + (k + 1) * 2, none⟩ = some (.string ⟨y.toArray⟩) := d1
          have Hdr := Lib.hid (fun j => show (w3.drewN m).drewN j = w3.drewN (m + j) from drewN_add w3 m j)
          generalize w3.drewN m = wd at *
          go_wp2_with (fail)
          go_quiet (fail)
          go_wp2
          go_roundw
          case rel => exact ⟨k + 1, m + nq, by go_num, by omega, Hdr.out nq⟩
          case measure => simp [intOf]; omega
        · have Hb4 := Lib.hid (show Below w.heap.size w (w3.drewN m) from below_drewN Hb3.out _)
          have Hin4 := Lib.hid (show PairsIn (w3.drewN m) (.slice av M.length cs) M from Hin.out)
          have hnlt : ¬ (k : Int) + 1 < M.length := by omega
          generalize w3.drewN m = w4 at *
          clear Hin Hb3 Hc hlt
          go_wp2_with (fail)
          refine (Href.out _ Hb4.out).mono ?_
          rintro e w5 ⟨hb5, v5, rfl, hown5⟩
          have Hb5 := Lib.hid (Hb4.out.trans (hb5.mono Hb4.out.size))
          have Hin5 := Lib.hid (Hin4.out.under hb5)
          have hsame := sameIn_any M M _ _ w5 Hin5.out hown5.pairs (by have := Hml.out; omega) (by have := Hml.out; omega)
          rw [decide_eq_true rfl] at hsame
          have Hsame := Lib.hid hsame
          clear hsame
          clear hb5 hown5 Hb4 Hin4
          go_wp2_with (fail)
          refine Hsame.out.mono ?_
          rintro e w6 ⟨rfl, m6, rfl⟩
          have Hb6 := Lib.hid (show Below w.heap.size w (w5.drewN m6) from below_drewN Hb5.out _)
          have Hin6 := Lib.hid (show PairsIn (w5.drewN m6) (.slice av M.length cs) M from Hin5.out)
          generalize w5.drewN m6 = w6 at *
          clear Hb5 Hin5 Hsame
          have Hm2 := Lib.hid (merge_any M [] av none cs 0 w6 Hin6.out (PairsIn.nil w6) Hfit.out (fun p hp => by cases hp) (by have := Hml.out; simp; omega))
          rw [Hself.out] at Hm2
          go_wp2_with (fail)
          refine Hm2.out.mono ?_
          rintro e w7 ⟨hb7, v7, rfl, hown7⟩
          have Hb7 := Lib.hid (Hb6.out.trans (hb7.mono Hb6.out.size))
          have Hin7 := Lib.hid (Hin6.out.under hb7)
          have hsame := sameIn_any M M _ _ w7 hown7.pairs Hin7.out (by have := Hml.out; omega) (by have := Hml.out; omega)
          rw [decide_eq_true rfl] at hsame
          have Hsame := Lib.hid hsame
          clear hsame
          clear hb7 hown7 Hb6 Hin6 Hm2
          go_wp2_with (fail)
          refine Hsame.out.mono ?_
          rintro e w8 ⟨rfl, m8, rfl⟩
          have Hb8 := Lib.hid (show Below w.heap.size w (w7.drewN m8) from below_drewN Hb7.out _)
          generalize w7.drewN m8 = w8 at *
          clear Hb7 Hin7 Hsame
          go_wp2_with (fail)
          refine (Haw.out _ (Hstep.out _ _ Hok.out Hb8.out)).mono ?_
          rintro e w9 ⟨hb9, rfl⟩
          have Hb9 := Lib.hid (Hb8.out.trans (hb9.mono Hb8.out.size))
          clear hb9
          go_wp2
          go_ret
          exact ⟨Hb9.out, rfl⟩
end Go.Proofs.YtamenhkbmbaopaaGreatDoor.attrsMerge
