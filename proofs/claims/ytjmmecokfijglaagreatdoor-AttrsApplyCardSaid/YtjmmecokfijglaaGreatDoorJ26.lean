/-
  Texts of this seat's proof, joined: their order is that of the build.
-/
import Derived.Test.YtjmmecokfijglaaGreatDoorJ22
import Derived.Test.YtjmmecokfijglaaGreatDoorJ25
import Derived.Laws.StructEq
namespace Go.Proofs.YtjmmecokfijglaaGreatDoor
open Go.ChangeShapes Go.WideShapes Go.ChangeAt Go.RowKit Go.Maps

set_option maxRecDepth 100000 in
theorem stamp_eq (s n : Int) (W : World) : (binOp .eql 32 (.agg #[.int .i64 s, .int .i64 n]) (.agg #[.int .i64 s, .int .i64 n])).run Tryz.prog W = .ok (.bool true) W := by
  rw [run_eql_struct]
  rw [show (10000 : Nat) = 9999 + 1 from rfl, run_equalIn_agg (P := Tryz.prog) W 9999 32 _ _ (by kernel_rfl) (by kernel_rfl)]
  unfold Program.fieldsOf
  rw [Tryz.underlying32]
  simp [Op.eqFields, go_sem]

set_option maxRecDepth 100000 in
set_option maxHeartbeats 2000000 in
theorem same7_any (m : Mb) (L : List Pr) (av av2 : Option Addr) (cs cs2 : Nat) (w : World) (h1 : PairsIn w (.slice av L.length cs) L) (h2 : PairsIn w (.slice av2 L.length cs2) L) (hL : L.length ≤ 140737488355328) :
    Calls Tryz.prog 15 #[(m.ex (.slice av L.length cs)).val, (m.ex (.slice av2 L.length cs2)).val] w fun e w' => Below w.heap.size w w' ∧ e = .returned (.bool true) := by
  obtain ⟨xnm, xlk, xkd, xmd, xui, xgi, xun, xgn, xmj, xmi, xse, xns, xex, xda⟩ := m
  have Ho1 := Lib.hid (show Holds ((w.alloc (.cells ((Mb.mk xnm xlk xkd xmd xui xgi xun xgn xmj xmi xse xns xex xda).ex (.slice av L.length cs)).cells.toArray 34)).alloc (.cells ((Mb.mk xnm xlk xkd xmd xui xgi xun xgn xmj xmi xse xns xex xda).ex (.slice av2 L.length cs2)).cells.toArray 34)) w.heap.size 34 ((Mb.mk xnm xlk xkd xmd xui xgi xun xgn xmj xmi xse xns xex xda).ex (.slice av L.length cs)).cells from (Holds.new w _ _).behind _)
  have Ho2 := Lib.hid (show Holds ((w.alloc (.cells ((Mb.mk xnm xlk xkd xmd xui xgi xun xgn xmj xmi xse xns xex xda).ex (.slice av L.length cs)).cells.toArray 34)).alloc (.cells ((Mb.mk xnm xlk xkd xmd xui xgi xun xgn xmj xmi xse xns xex xda).ex (.slice av2 L.length cs2)).cells.toArray 34)) (w.heap.size + 1) 34 ((Mb.mk xnm xlk xkd xmd xui xgi xun xgn xmj xmi xse xns xex xda).ex (.slice av2 L.length cs2)).cells from by
    have := Holds.new (w.alloc (.cells ((Mb.mk xnm xlk xkd xmd xui xgi xun xgn xmj xmi xse xns xex xda).ex (.slice av L.length cs)).cells.toArray 34)) 34 ((Mb.mk xnm xlk xkd xmd xui xgi xun xgn xmj xmi xse xns xex xda).ex (.slice av2 L.length cs2)).cells
    rwa [World.size_alloc] at this)
  have Hb := Lib.hid (((Below.refl w.heap.size w).alloc (Nat.le_refl _) (.cells ((Mb.mk xnm xlk xkd xmd xui xgi xun xgn xmj xmi xse xns xex xda).ex (.slice av L.length cs)).cells.toArray 34)).alloc (by simp) (.cells ((Mb.mk xnm xlk xkd xmd xui xgi xun xgn xmj xmi xse xns xex xda).ex (.slice av2 L.length cs2)).cells.toArray 34))
  have Hbig := Lib.hid (show ∀ W : World, Below w.heap.size w W → Calls Tryz.prog 11 #[.slice av L.length cs, .slice av2 L.length cs2] W fun e w' => e = .returned (.bool true) ∧ ∃ k, w' = W.drewN k from fun W hb => by
    have h := sameIn_any L L _ _ W (h1.under hb) (h2.under hb) hL hL
    rw [decide_eq_true rfl] at h
    exact h)
  have hst := fun W => stamp_eq xse xns W
  clear h1 h2
  have q1_0 := Ho1.out.at (i := 0) (v := .string ⟨xnm.toArray⟩) rfl
  have q1_1 := Ho1.out.at (i := 1) (v := .string ⟨xlk.toArray⟩) rfl
  have q1_2 := Ho1.out.at (i := 2) (v := .int .u8 xkd) rfl
  have q1_3 := Ho1.out.at (i := 3) (v := .int .i64 xmd) rfl
  have q1_4 := Ho1.out.at (i := 4) (v := .int .i64 xui) rfl
  have q1_5 := Ho1.out.at (i := 5) (v := .int .i64 xgi) rfl
  have q1_6 := Ho1.out.at (i := 6) (v := .string ⟨xun.toArray⟩) rfl
  have q1_7 := Ho1.out.at (i := 7) (v := .string ⟨xgn.toArray⟩) rfl
  have q1_8 := Ho1.out.at (i := 8) (v := .int .i64 xmj) rfl
  have q1_9 := Ho1.out.at (i := 9) (v := .int .i64 xmi) rfl
  have q1_10 := Ho1.out.at (i := 10) (v := .int .i64 xse) rfl
  have q1_11 := Ho1.out.at (i := 11) (v := .int .i64 xns) rfl
  have q1_12 := Ho1.out.at (i := 12) (v := .slice av L.length cs) rfl
  have q1_13 := Ho1.out.at (i := 13) (v := .string ⟨xda.toArray⟩) rfl
  have q2_0 := Ho2.out.at (i := 0) (v := .string ⟨xnm.toArray⟩) rfl
  have q2_1 := Ho2.out.at (i := 1) (v := .string ⟨xlk.toArray⟩) rfl
  have q2_2 := Ho2.out.at (i := 2) (v := .int .u8 xkd) rfl
  have q2_3 := Ho2.out.at (i := 3) (v := .int .i64 xmd) rfl
  have q2_4 := Ho2.out.at (i := 4) (v := .int .i64 xui) rfl
  have q2_5 := Ho2.out.at (i := 5) (v := .int .i64 xgi) rfl
  have q2_6 := Ho2.out.at (i := 6) (v := .string ⟨xun.toArray⟩) rfl
  have q2_7 := Ho2.out.at (i := 7) (v := .string ⟨xgn.toArray⟩) rfl
  have q2_8 := Ho2.out.at (i := 8) (v := .int .i64 xmj) rfl
  have q2_9 := Ho2.out.at (i := 9) (v := .int .i64 xmi) rfl
  have q2_10 := Ho2.out.at (i := 10) (v := .int .i64 xse) rfl
  have q2_11 := Ho2.out.at (i := 11) (v := .int .i64 xns) rfl
  have q2_12 := Ho2.out.at (i := 12) (v := .slice av2 L.length cs2) rfl
  have q2_13 := Ho2.out.at (i := 13) (v := .string ⟨xda.toArray⟩) rfl
  have Q13 := Lib.hid (show ((Mb.mk xnm xlk xkd xmd xui xgi xun xgn xmj xmi xse xns xex xda).ex (.slice av L.length cs)).cells[13]? = some (.string ⟨xda.toArray⟩) from rfl)
  have P13 := Lib.hid (show ((Mb.mk xnm xlk xkd xmd xui xgi xun xgn xmj xmi xse xns xex xda).ex (.slice av2 L.length cs2)).cells[13]? = some (.string ⟨xda.toArray⟩) from rfl)
  unfold Mb.val
  generalize hC1 : ((Mb.mk xnm xlk xkd xmd xui xgi xun xgn xmj xmi xse xns xex xda).ex (.slice av L.length cs)).cells = C1 at *
  generalize hC2 : ((Mb.mk xnm xlk xkd xmd xui xgi xun xgn xmj xmi xse xns xex xda).ex (.slice av2 L.length cs2)).cells = C2 at *
  clear hC1 hC2
  go_enter Tryz.func15, Tryz.ntmps15
  go_wp2_with (fail)
  refine (Hbig.out _ Hb.out).mono ?_
  rintro e w2 ⟨rfl, j, rfl⟩
  have Hb3 := Lib.hid (below_drewN Hb.out j)
  have r1 := (Ho1.out.drewN j).at (i := 13) (v := .string ⟨xda.toArray⟩) Q13.out
  have r2 := (Ho2.out.drewN j).at (i := 13) (v := .string ⟨xda.toArray⟩) P13.out
  clear q1_0 q1_1 q1_2 q1_3 q1_4 q1_5 q1_6 q1_7 q1_8 q1_9 q1_10 q1_11 q1_12 q1_13 q2_0 q2_1 q2_2 q2_3 q2_4 q2_5 q2_6 q2_7 q2_8 q2_9 q2_10 q2_11 q2_12 q2_13 Ho1 Ho2 Hb
  generalize ((w.alloc (.cells C1.toArray 34)).alloc (.cells C2.toArray 34)).drewN j = w3 at *
  go_wp2
  go_ret
  exact ⟨Hb3.out, rfl⟩
end Go.Proofs.YtjmmecokfijglaaGreatDoor
namespace Go.Proofs.YtjmmecokfijglaaGreatDoor.attrsMerge
open Go.ChangeShapes Go.WideShapes Go.ChangeAt Go.RowKit Go.Maps

theorem mAll_mem (g : List Pr) : ∀ (l : List Pr) (q : Pr), q ∈ mAll l g → q ∈ l ∨ q ∈ g := by
  induction g with
  | nil => exact fun l q h => .inl h
  | cons p g ih =>
    intro l q h
    rcases ih (mPut l p) q h with h | h
    · rcases mIns_mem h with rfl | h
      · exact .inr List.mem_cons_self
      · exact .inl (List.mem_filter.1 h).1
    · exact .inr (List.mem_cons_of_mem _ h)
theorem mAll_length (g : List Pr) : ∀ l : List Pr, (mAll l g).length ≤ l.length + g.length := by
  induction g with
  | nil => intro l; simp [mAll]
  | cons p g ih =>
    intro l
    have h1 := ih (mPut l p)
    have h2 := mPut_length l p
    show (mAll (mPut l p) g).length ≤ _
    simp only [List.length_cons]
    omega
theorem mMerge_mem {g l : List Pr} {q : Pr} (h : q ∈ mMerge g l) : q ∈ g ∨ q ∈ l := by
  have h1 := (List.mem_filter.1 h).1
  rcases mAll_mem l _ q h1 with h | h
  · rcases mAll_mem g _ q h with h | h
    · cases h
    · exact .inl h
  · exact .inr h
theorem mMerge_length (g l : List Pr) : (mMerge g l).length ≤ g.length + l.length := by
  have h1 := List.length_filter_le (fun p : Pr => !p.2.isEmpty) (mAll (mAll [] g) l)
  have h2 := mAll_length l (mAll [] g)
  have h3 := mAll_length g []
  simp only [List.length_nil] at h3
  show (List.filter _ _).length ≤ _
  omega

set_option maxRecDepth 100000 in
set_option maxHeartbeats 1000000 in
theorem walk (OK : World → Prop) (hstep : ∀ a b : World, OK a → Below a.heap.size a b → OK b)
    (haw : ∀ w : World, OK w → Calls Tryz.prog 9 #[] w fun e w' => Below w.heap.size w w' ∧ e = .returned (.bool true))
    (g l : List Pr) (ag al : Option Addr) (cg cl : Nat) (w : World) (hg : PairsIn w (.slice ag g.length cg) g) (hl : PairsIn w (.slice al l.length cl) l) (hok : OK w) :
    Calls Tryz.prog 3 #[.slice ag g.length cg, .slice al l.length cl] w fun e w' => Below w.heap.size w w' ∧ e = .returned (.bool true) := by
  have Hg := Lib.hid hg
  have Hl := Lib.hid hl
  have Hok := Lib.hid hok
  have Haw := Lib.hid haw
  have Hstep := Lib.hid hstep
  have Hlg := Lib.hid (long_any g ag cg w hg)
  have Hll := Lib.hid (fun w1 h => long_any l al cl w1 h)
  have Hfg := Lib.hid (fun h => tooLong_fits (l := g) h)
  have Hfl := Lib.hid (fun h => tooLong_fits (l := l) h)
  clear hg hl hok haw hstep
  generalize tooLong g = tg at *
  generalize tooLong l = tl at *
  cases tg with
  | true =>
    go_enter Tryz.func3, Tryz.ntmps3
    go_wp2_with (fail)
    refine Hlg.out.mono ?_
    rintro e w1 ⟨hb1, rfl⟩
    have Hb1 := Lib.hid hb1
    clear hb1
    go_wp2_with (fail)
    refine (Haw.out _ (Hstep.out _ _ Hok.out Hb1.out)).mono ?_
    rintro e w2 ⟨hb2, rfl⟩
    have Hb2 := Lib.hid (Hb1.out.trans (hb2.mono Hb1.out.size))
    clear hb2
    go_wp2
    go_ret
    exact ⟨Hb2.out, rfl⟩
  | false =>
    cases tl with
    | true =>
      go_enter Tryz.func3, Tryz.ntmps3
      go_wp2_with (fail)
      refine Hlg.out.mono ?_
      rintro e w1 ⟨hb1, rfl⟩
      have Hb1 := Lib.hid hb1
      clear hb1
      go_wp2_with (fail)
      refine (Hll.out _ (Hl.out.under Hb1.out)).mono ?_
      rintro e w2 ⟨hb2, rfl⟩
      have Hb2 := Lib.hid (Hb1.out.trans (hb2.mono Hb1.out.size))
      clear hb2
      go_wp2_with (fail)
      refine (Haw.out _ (Hstep.out _ _ Hok.out Hb2.out)).mono ?_
      rintro e w3 ⟨hb3, rfl⟩
      have Hb3 := Lib.hid (Hb2.out.trans (hb3.mono Hb2.out.size))
      clear hb3
      go_wp2
      go_ret
      exact ⟨Hb3.out, rfl⟩
    | false =>
      obtain ⟨hg1, hg2⟩ := Hfg.out rfl
      obtain ⟨hl1, hl2⟩ := Hfl.out rfl
      have Hmrg := Lib.hid (fun w1 (h : Below w.heap.size w w1) => merge_any g l ag al cg cl w1 (Hg.out.under h) (Hl.out.under h) (fun p hp => by have := hg2 p hp; omega) (fun p hp => by have := hl2 p hp; omega) (by omega))
      have Href := Lib.hid (fun w1 (h : Below w.heap.size w w1) => refMerge_any g l ag al cg cl w1 (Hg.out.under h) (Hl.out.under h) (by omega))
      have Hris := Lib.hid (mMerge_rising g l)
      have Hself := Lib.hid (mMerge_self g l)
      have hml : (mMerge g l).length ≤ 24 := by have := mMerge_length g l; omega
      have Hfit := Lib.hid (show prFits 140737488355328 (mMerge g l) from fun p hp => by
        rcases mMerge_mem hp with h | h
        · have := hg2 p h; omega
        · have := hl2 p h; omega)
      have Hml := Lib.hid hml
      clear hg1 hg2 hl1 hl2 hml Hfg Hfl
      generalize mMerge g l = M at *
      go_enter Tryz.func3, Tryz.ntmps3
      go_wp2_with (fail)
      refine Hlg.out.mono ?_
      rintro e w1 ⟨hb1, rfl⟩
      have Hb1 := Lib.hid hb1
      clear hb1
      go_wp2_with (fail)
      refine (Hll.out _ (Hl.out.under Hb1.out)).mono ?_
      rintro e w2 ⟨hb2, rfl⟩
      have Hb2 := Lib.hid (Hb1.out.trans (hb2.mono Hb1.out.size))
      clear hb2 Hb1
      go_wp2_with (fail)
      refine (Hmrg.out _ Hb2.out).mono ?_
      rintro e w3 ⟨hb3, v, rfl, hown⟩
      have Hb3 := Lib.hid (Hb2.out.trans (hb3.mono Hb2.out.size))
      obtain ⟨av, cs, rfl⟩ := hown.slice
      have Hin := Lib.hid hown.pairs
      have Hc := Lib.hid hown.pairs.cells
      clear hb3 hown Hb2 Hlg Hll
      go_wp2
      go_loopw [6] (fun i wr => ∃ k m : Nat, i = .int .i64 ((k : Int) + 1) ∧ k ≤ M.length ∧ wr = w3.drewN m) (fun i _ => M.length + 1 - (intOf i).toNat)
      case atStart => exact ⟨0, 0, rfl, Nat.zero_le _, rfl⟩
      case round =>
        obtain ⟨k, m, rfl, hk, rfl⟩ := hrel
        have hkb : (k : Int) ≤ 24 := by have := Hml.out; omega
        by_cases hlt : k + 1 < M.length
        · obtain ⟨b, o, rfl, hb0, c1, c2⟩ := Hc.out k (by omega)
          obtain ⟨b2, o2, he, hb02, d1, d2⟩ := Hc.out (k + 1) hlt
          obtain ⟨rfl, rfl⟩ : b = b2 ∧ o = o2 := by simpa using he
          have hbef : bytesBefore M[k].1 M[k + 1].1 = true := List.pairwise_iff_getElem.1 Hris.out k (k + 1) (by omega) hlt (by omega)
          have hlt2 : (k : Int) + 1 < M.length := by omega
          have hw1 : wrap64 ((k : Int) + 1 - 1) = (k : Int) := by rw [IntWalk.wrap64_in _ (by omega)]; omega
          have hw2 : IntKind.i64.wrap ((k : Int) + 1 - 1) = (k : Int) := by rw [IntWalk.i64_in _ (by omega)]; omega
          have hge := geq_run M[k].1 M[k + 1].1
          rw [hbef] at hge
          generalize M[k].1 = x at *
          generalize M[k + 1].1 = y at *
          clear hbef he
          have c1 : (w3.drewN m).cell? ⟨b, o + k * 2, none⟩ = some (.string ⟨x.toArray⟩) := c1
          have d1 : (w3.drewN m).cell? ⟨b, o + (k + 1) * 2, none⟩ = some (.string ⟨y.toArray⟩) := d1
          have Hdr := Lib.hid (fun j => show (w3.drewN m).drewN j = w3.drewN (m + j) from drewN_add w3 m j)
          generalize w3.drewN m = wd at *
          go_wp2_with (fail)
          go_quiet (fail)
          go_wp2
          go_roundw
          case rel => exact ⟨k + 1, m + nq, by go_num, by omega, Hdr.out nq⟩
          case measure => simp [intOf]; omega
        · have Hb4 := Lib.hid (show Below w.heap.size w (w3.drewN m) from below_drewN Hb3.out _)
          have Hin4 := Lib.hid (show PairsIn (w3.drewN m) (.slice av M.length cs) M from Hin.out)
          have hnlt : ¬ (k : Int) + 1 < M.length := by omega
          generalize w3.drewN m = w4 at *
          clear Hin Hb3 Hc hlt
          go_wp2_with (fail)
          refine (Href.out _ Hb4.out).mono ?_
          rintro e w5 ⟨hb5, v5, rfl, hown5⟩
          have Hb5 := Lib.hid (Hb4.out.trans (hb5.mono Hb4.out.size))
          have Hin5 := Lib.hid (Hin4.out.under hb5)
          have hsame := sameIn_any M M _ _ w5 Hin5.out hown5.pairs (by have := Hml.out; omega) (by have := Hml.out; omega)
          rw [decide_eq_true rfl] at hsame
          have Hsame := Lib.hid hsame
          clear hsame
          clear hb5 hown5 Hb4 Hin4
          go_wp2_with (fail)
          refine Hsame.out.mono ?_
          rintro e w6 ⟨rfl, m6, rfl⟩
          have Hb6 := Lib.hid (show Below w.heap.size w (w5.drewN m6) from below_drewN Hb5.out _)
          have Hin6 := Lib.hid (show PairsIn (w5.drewN m6) (.slice av M.length cs) M from Hin5.out)
          generalize w5.drewN m6 = w6 at *
          clear Hb5 Hin5 Hsame
          have Hm2 := Lib.hid (merge_any M [] av none cs 0 w6 Hin6.out (PairsIn.nil w6) Hfit.out (fun p hp => by cases hp) (by have := Hml.out; simp; omega))
          rw [Hself.out] at Hm2
          go_wp2_with (fail)
          refine Hm2.out.mono ?_
          rintro e w7 ⟨hb7, v7, rfl, hown7⟩
          have Hb7 := Lib.hid (Hb6.out.trans (hb7.mono Hb6.out.size))
          have Hin7 := Lib.hid (Hin6.out.under hb7)
          have hsame := sameIn_any M M _ _ w7 hown7.pairs Hin7.out (by have := Hml.out; omega) (by have := Hml.out; omega)
          rw [decide_eq_true rfl] at hsame
          have Hsame := Lib.hid hsame
          clear hsame
          clear hb7 hown7 Hb6 Hin6 Hm2
          go_wp2_with (fail)
          refine Hsame.out.mono ?_
          rintro e w8 ⟨rfl, m8, rfl⟩
          have Hb8 := Lib.hid (show Below w.heap.size w (w7.drewN m8) from below_drewN Hb7.out _)
          generalize w7.drewN m8 = w8 at *
          clear Hb7 Hin7 Hsame
          go_wp2_with (fail)
          refine (Haw.out _ (Hstep.out _ _ Hok.out Hb8.out)).mono ?_
          rintro e w9 ⟨hb9, rfl⟩
          have Hb9 := Lib.hid (Hb8.out.trans (hb9.mono Hb8.out.size))
          clear hb9
          go_wp2
          go_ret
          exact ⟨Hb9.out, rfl⟩
end Go.Proofs.YtjmmecokfijglaaGreatDoor.attrsMerge
