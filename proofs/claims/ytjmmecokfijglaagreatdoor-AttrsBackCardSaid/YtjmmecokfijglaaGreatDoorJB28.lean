/-
  Texts of this seat's proof, joined: their order is that of the build.
-/
import Derived.Test.YtjmmecokfijglaaGreatDoorJB27
import Derived.Test.YtjmmecokfijglaaGreatDoorJB25
namespace Go.Proofs.YtjmmecokfijglaaGreatDoor
open Go.ChangeShapes Go.WideShapes Go.ChangeAt Go.RowKit Go.Maps

def dvMc (m : Mb) (n : Int) : List Value := m.cells ++ [.int .i64 n]
theorem builtDh (kd md mj mi : Int) : Tryz.prog.built 30 [(2, .int .u8 kd), (3, .int .i64 md), (10, .int .i64 mj), (11, .int .i64 mi), (12, .int .i64 2)] = some (Hd.mk [] [] kd md 0 0 0 0 [] [] mj mi 2).cells.toArray := by kernel_rfl
theorem builtDp (m : Mb) (n : Int) (h : Hd) : Tryz.prog.built 78 [(0, m.val), (1, .int .i64 n), (2, h.val)] = some (dvMc m n ++ h.cells).toArray := by kernel_rfl
theorem ld_headD {wx : World} {b : Nat} (mc : List Value) (hm : mc.length = 15) (h : Hd) (hh : Holds wx b 78 (mc ++ h.cells)) :
    (loadVar 30 ⟨b, 15, none⟩).run Tryz.prog wx = .ok (.agg h.cells.toArray) wx := by
  refine run_loadVar_mid wx b 15 30 h.cells _ (fun j v hj => ?_) Tryz.underlying30 rfl (by
    have e : (Tryz.prog.info? 30).map (·.size) = some 13 := by kernel_rfl
    rw [e]; rfl)
  refine hh.at ?_
  rw [List.getElem?_append_right (by omega), hm, Nat.add_sub_cancel_left]
  exact hj
theorem cells13v {w : World} {b : Nat} {t : TypeId} {mc : List Value} (hm : mc.length = 15) {nn nl : List UInt8} {nk nmo nu ng ns ntm : Int} {nun ngn : List UInt8} {nmj nmi nf : Int} (H : Holds w b t (mc ++ (Hd.mk nn nl nk nmo nu ng ns ntm nun ngn nmj nmi nf).cells)) :
    w.cell? ⟨b, 15, none⟩ = some (.string ⟨nn.toArray⟩) ∧ w.cell? ⟨b, 16, none⟩ = some (.string ⟨nl.toArray⟩) ∧ w.cell? ⟨b, 17, none⟩ = some (.int .u8 nk) ∧ w.cell? ⟨b, 18, none⟩ = some (.int .i64 nmo) ∧ w.cell? ⟨b, 19, none⟩ = some (.int .i64 nu) ∧ w.cell? ⟨b, 20, none⟩ = some (.int .i64 ng) ∧ w.cell? ⟨b, 21, none⟩ = some (.int .i64 ns) ∧
    w.cell? ⟨b, 22, none⟩ = some (.int .i64 ntm) ∧ w.cell? ⟨b, 23, none⟩ = some (.string ⟨nun.toArray⟩) ∧ w.cell? ⟨b, 24, none⟩ = some (.string ⟨ngn.toArray⟩) ∧ w.cell? ⟨b, 25, none⟩ = some (.int .i64 nmj) ∧ w.cell? ⟨b, 26, none⟩ = some (.int .i64 nmi) ∧ w.cell? ⟨b, 27, none⟩ = some (.int .i64 nf) :=
  cells13 hm H
theorem stText_len {s n : Int} (h : stRight s n = true) : (stText s n).length ≤ 64 := stText_short h

set_option maxRecDepth 100000 in
set_option maxHeartbeats 4000000 in
theorem divide_good (m : Mb) (n : Int) (X : List Pr) (ax : Option Addr) (cx : Nat) (w : World) (hex : m.extra = .slice ax X.length cx) (hX : PairsIn w (.slice ax X.length cx) X) (hfx : prFits 140737488355328 X) (hxl : X.length ≤ 2199023255552) (hin : DvIn m n)
    (hr : ∀ w1 : World, Below w.heap.size w w1 → Calls Tryz.prog 84 #[m.val] w1 fun e w' => Below w1.heap.size w1 w' ∧ e = .returned (.int .i64 0)) (ht : TabOk w) :
    Calls Tryz.prog 35 #[m.val, .int .i64 n] w fun e w' => Below w.heap.size w w' ∧ ∃ v, e = .returned (.tuple #[(dvHd m n (fun _ => false)).val, v, .int .i64 0]) ∧ OwnP w' w.heap.size v (mMerge X (dvRec m n)) := by
  have hz := (zero_of_info infoHd).1
  have hzp := (zero_of_info infoPa).1
  have hone : (dvMc m n ++ (Hd.mk [] [] m.kind m.mode 0 0 0 0 [] [] m.major m.minor 2).cells).toArray.all (·.oneCell') = true := by
    simp [dvMc, Mb.cells, Hd.cells, Value.oneCell', hex]
  have Hpone := Lib.hid hone
  have Hbh := Lib.hid (builtDh m.kind m.mode m.major m.minor)
  have Hbp := Lib.hid (builtDp m n (Hd.mk [] [] m.kind m.mode 0 0 0 0 [] [] m.major m.minor 2))
  have Hsm := Lib.hid (mb_size m)
  have Hsp := Lib.hid (show (Tryz.prog.info? 78).map (·.size) = some (dvMc m n ++ (Hd.mk [] [] m.kind m.mode 0 0 0 0 [] [] m.major m.minor 2).cells).toArray.size by
    rw [show (dvMc m n ++ (Hd.mk [] [] m.kind m.mode 0 0 0 0 [] [] m.major m.minor 2).cells).toArray.size = 28 from rfl]; exact (zero_of_info infoPa).2)
  have Hsz := Lib.hid (show zParts.toArray.size = (dvMc m n ++ (Hd.mk [] [] m.kind m.mode 0 0 0 0 [] [] m.major m.minor 2).cells).toArray.size from rfl)
  have H2 := Lib.hid (show m.cells[2]? = some (.int .u8 m.kind) from rfl)
  have H3 := Lib.hid (show m.cells[3]? = some (.int .i64 m.mode) from rfl)
  have H8 := Lib.hid (show m.cells[8]? = some (.int .i64 m.major) from rfl)
  have H9 := Lib.hid (show m.cells[9]? = some (.int .i64 m.minor) from rfl)
  have H12 := Lib.hid (show m.cells[12]? = some (.slice ax X.length cx) by rw [← hex]; rfl)
  have Hright := Lib.hid hr
  have Ht := Lib.hid ht
  have HX := Lib.hid hX
  have Hfx := Lib.hid hfx
  have Hxl := Lib.hid hxl
  have Hdv0 := Lib.hid hin
  have Hlm := Lib.hid (show (dvMc m n).length = 15 from rfl)
  have hF0 : dvHd m n (fun _ => true) = Hd.mk [] [] m.kind m.mode 0 0 0 0 [] [] m.major m.minor 2 := rfl
  have HS := Lib.hid hF0
  have Hfin := Lib.hid (show ∀ left : Lit → Bool, (∀ k, left k = false) → dvHd m n left = dvHd m n (fun _ => false) from fun left h => by
    rw [show left = (fun _ => false) from funext h])
  have Hin := Lib.hid (fun w1 => atIsIn_any n 9007199254740991 w1)
  rw [decide_eq_true hin.size] at Hin
  have Hcl := Lib.hid (show (dvMc m n).length = 15 from rfl)
  have MGid := Lib.hid (show (dvMc m n)[5]? = some (.int .i64 m.gid) from rfl)
  have MGname := Lib.hid (show (dvMc m n)[7]? = some (.string ⟨m.gname.toArray⟩) from rfl)
  have MLink := Lib.hid (show (dvMc m n)[1]? = some (.string ⟨m.link.toArray⟩) from rfl)
  have MName := Lib.hid (show (dvMc m n)[0]? = some (.string ⟨m.name.toArray⟩) from rfl)
  have MSize := Lib.hid (show (dvMc m n)[14]? = some (.int .i64 n) from rfl)
  have MUid := Lib.hid (show (dvMc m n)[4]? = some (.int .i64 m.uid) from rfl)
  have MUname := Lib.hid (show (dvMc m n)[6]? = some (.string ⟨m.uname.toArray⟩) from rfl)
  have Msec := Lib.hid (show (dvMc m n)[10]? = some (.int .i64 m.sec) from rfl)
  have Mnsec := Lib.hid (show (dvMc m n)[11]? = some (.int .i64 m.nsec) from rfl)
  have Ho := Lib.hid (show Holds ((w.alloc (.cells m.cells.toArray 34)).alloc (.cells Hd.zero.cells.toArray 30)) w.heap.size 34 m.cells from (Holds.new w _ _).behind _)
  have Hz := Lib.hid (show Holds ((w.alloc (.cells m.cells.toArray 34)).alloc (.cells Hd.zero.cells.toArray 30)) (w.heap.size + 1) 30 Hd.zero.cells from by
    have := Holds.new (w.alloc (.cells m.cells.toArray 34)) 30 Hd.zero.cells
    rwa [World.size_alloc] at this)
  have Hb0 := Lib.hid (((Below.refl w.heap.size w).alloc (Nat.le_refl _) (.cells m.cells.toArray 34)).alloc (by simp) (.cells Hd.zero.cells.toArray 30))
  have Hs13 := Lib.hid (fun (h : Hd) => And.intro (show setL Hd.zero.cells 0 h.cells = h.cells from rfl) (head_size h))
  have Htxl := Lib.hid (stText_len hin.stamp)
  clear hex hX hfx hxl hr ht hone hF0
  unfold Mb.val Hd.val at *
  generalize hC : m.cells = C at *
  generalize hZ : Hd.zero.cells = Z at *
  have hZl := Lib.hid hZ
  have HZ13 := Lib.hid (show Z.length = 13 by rw [← hZ]; rfl)
  generalize hP : dvMc m n ++ (Hd.mk [] [] m.kind m.mode 0 0 0 0 [] [] m.major m.minor 2).cells = PC at *
  generalize hMC : dvMc m n = MC at *
  generalize hZP : zParts = ZP at *
  generalize hkd : m.kind = kd at *
  generalize hmd : m.mode = md at *
  generalize hmj : m.major = mj at *
  generalize hmi : m.minor = mi at *
  have HP := Lib.hid hP
  clear hC hZ hP hMC hZP hkd hmd hmj hmi hin
  go_enter Tryz.func35, Tryz.ntmps35
  go_wp2_with (first
    | (refine wpList_load_row (by rfl) 34 _ (by rfl) w.heap.size (by rfl) _ _ _ _ Ho.out Tryz.underlying34 rfl Hsm.out ?_)
    | fail)
  refine (Hright.out _ (Hb0.out)).mono ?_
  rintro e w1 ⟨hb1, rfl⟩
  have Ho1 := Lib.hid (Ho.out.under hb1 Ho.out.lt)
  have Hz1 := Lib.hid (Hz.out.under hb1 Hz.out.lt)
  have Hb1 := Lib.hid (Hb0.out.trans (hb1.mono (by simp; omega)))
  have hsz12 : w.heap.size + 2 ≤ w1.heap.size := by have := hb1.size; simp at this; omega
  have Hsz12 := Lib.hid hsz12
  clear hb1 Ho Hz Hb0 hsz12
  go_wp2_with fail
  refine (Hin.out _).mono ?_
  rintro e w' ⟨rfl, rfl⟩
  have c2 := Ho1.out.at H2.out
  have c3 := Ho1.out.at H3.out
  have c8 := Ho1.out.at H8.out
  have c9 := Ho1.out.at H9.out
  have Hnp := Lib.hid (Holds.new w1 78 ZP)
  go_wp2_with (first
    | (refine wpList_load_row (by rfl) 34 _ (by rfl) w.heap.size (by rfl) _ _ _ _ Ho1.out Tryz.underlying34 rfl Hsm.out ?_)
    | (refine wpList_build_is (by rfl) 30 _ (by rfl) _ _ Hbh.out ?_ ?_; kernel_rfl)
    | (refine wpList_build_is (by rfl) 78 _ (by rfl) _ _ Hbp.out ?_ ?_; kernel_rfl)
    | (refine wpList_store_row (by rfl) 78 _ _ (by rfl) w1.heap.size PC.toArray (by rfl) (by rfl) _ _ Hnp.out Hsp.out (by exact Hsz.out) Hpone.out ?_; rw [World.setRow_alloc_new])
    | fail)
  refine (known_any _).mono ?_
  rintro e w2 ⟨hb2, t, hown, htbl, htin, rfl⟩
  rw [World.size_alloc] at htin
  rw [World.size_alloc] at hown
  have hPs : Holds w2 w1.heap.size 78 PC := (Holds.new w1 _ PC).under hb2 (by simp)
  have hbz := hb2.size
  rw [World.size_alloc] at hbz
  have Hbz := Lib.hid hbz
  have Hb2 := Lib.hid (Hb1.out.trans (((Below.refl w1.heap.size w1).alloc (Nat.le_refl _) (.cells PC.toArray 78)).trans (hb2.mono (by simp)) |>.mono Hb1.out.size))
  have Ho2 := Lib.hid ((Ho1.out.behind (.cells PC.toArray 78)).under hb2 (by have := Ho1.out.lt; simp; omega))
  have Hsz1 := Lib.hid Hb1.out.size
  have Hz2 := Lib.hid ((Hz1.out.behind (.cells PC.toArray 78)).under hb2 (by have := Hz1.out.lt; simp; omega))
  clear hb2 c2 c3 c8 c9 Hnp Hb1 Ho1 Hz1 hz hzp hbz
  go_wp2_with (first
    | (at_range; refine wpList_range_own _ rfl _ 79 rfl 9 85 (string_keyed Tryz.underlying9) Tryz.underlying79 heldElem _ 8 _ rfl hown ?_; intro w3 hrg3 hg3 hs3)
    | fail)
  have Hg3 := Lib.hid hg3
  have Hs3 := Lib.hid hs3
  have H3b := Lib.hid (show Below w.heap.size w w3 from Hb2.out.trans ⟨hg3.os, hg3.tape, hg3.output, hg3.size, fun k hk => hg3.block k (Nat.lt_of_lt_of_le hk Hb2.out.size) (by simp)⟩)
  have Hp3 := Lib.hid (hPs.grown hg3 (by simp))
  have Ht3 := Lib.hid (show ∀ w4 : World, DvK w3 w4 w1.heap.size w2.heap.size → TblAt t w4 from fun w4 h => by
    obtain ⟨t1, t2, t3, t4, t5, t6, t7⟩ := htbl
    obtain ⟨i1, i2, i3, i4, i5, i6, i7⟩ := htin
    have hh : ∀ (g : Nat) (T : TypeId) (cs : List Value), w1.heap.size + 1 < g → Holds w2 g T cs → Holds w4 g T cs := fun g T cs hg hw => h.holds (hw.grown hg3 (by simp)) (by omega) (by have := hw.lt; omega)
    exact ⟨hh _ _ _ i1 t1, hh _ _ _ i2 t2, hh _ _ _ i3 t3, hh _ _ _ i4 t4, hh _ _ _ i5 t5, hh _ _ _ i6 t6, hh _ _ _ i7 t7⟩)
  have hr3 := hrg3
  clear hown hPs htbl htin hg3 hrg3 hs3
  go_frame
  go_loopw [9] (fun wn wr => ∃ (left : Lit → Bool) (cnt : Nat) (F : List Pr) (av : Option Addr) (cs : Nat), wn = .slice av F.length cs ∧ DvF m n left F ∧ OwnP wr w3.heap.size (.slice av F.length cs) F ∧
      wr.ranges Tryz.prog 9 heldElem (w1.heap.size + 1) w2.heap.size 8 (knownD t) left cnt ∧ Holds wr w1.heap.size 78 (MC ++ (dvHd m n left).cells) ∧ DvK w3 wr w1.heap.size w2.heap.size)
    (fun _ wr => wr.rangeLeft (w1.heap.size + 1) w2.heap.size)
  case atStart =>
    refine ⟨_, _, [], none, 0, rfl, DvF.start (fun q hq => ?_), World.ownsRow_nil _ _ _ _, hr3, ?_, DvK.refl _ _ _⟩
    · unfold dvAll at hq
      simp only [List.mem_cons, List.mem_nil_iff, or_false] at hq
      rw [knownD_eq]
      rcases hq with rfl | rfl | rfl | rfl | rfl | rfl | rfl | rfl <;> rfl
    · have e : ∀ l2 : Lit → Bool, (∀ q ∈ dvAll m n, l2 (.string q.1) = true) → dvHd m n l2 = dvHd m n (fun _ => true) := fun l2 h => by
        unfold dvHd
        rw [show l2 (.string [112, 97, 116, 104]) = true from h ([112, 97, 116, 104], m.name) (by unfold dvAll; simp), show l2 (.string [108, 105, 110, 107, 112, 97, 116, 104]) = true from h ([108, 105, 110, 107, 112, 97, 116, 104], m.link) (by unfold dvAll; simp), show l2 (.string [117, 105, 100]) = true from h ([117, 105, 100], Lib.decDigits m.uid.toNat) (by unfold dvAll; simp), show l2 (.string [103, 105, 100]) = true from h ([103, 105, 100], Lib.decDigits m.gid.toNat) (by unfold dvAll; simp), show l2 (.string [115, 105, 122, 101]) = true from h ([115, 105, 122, 101], Lib.decDigits n.toNat) (by unfold dvAll; simp), show l2 (.string [109, 116, 105, 109, 101]) = true from h ([109, 116, 105, 109, 101], stText m.sec m.nsec) (by unfold dvAll; simp), show l2 (.string [117, 110, 97, 109, 101]) = true from h ([117, 110, 97, 109, 101], m.uname) (by unfold dvAll; simp), show l2 (.string [103, 110, 97, 109, 101]) = true from h ([103, 110, 97, 109, 101], m.gname) (by unfold dvAll; simp)]
      rw [e _ (fun q hq => by
        unfold dvAll at hq
        simp only [List.mem_cons, List.mem_nil_iff, or_false] at hq
        rw [knownD_eq]
        rcases hq with rfl | rfl | rfl | rfl | rfl | rfl | rfl | rfl <;> rfl), HS.out, HP.out]
      exact Hp3.out
  case round =>
    obtain ⟨left, cnt, F, av, cs, rfl, hF, hown, hrg, hp, hdv⟩ := hrel
    have HF := Lib.hid hF
    have Hown := Lib.hid hown
    have Hp := Lib.hid hp
    have Hdv := Lib.hid hdv
    clear hF hown hp hdv
    go_wp2_with (first
      | (at_next; refine wpList_next_ranges _ rfl _ rfl 9 (string_keyed Tryz.underlying9) heldElem encStr id (fun key kl h => by obtain ⟨x, hx, _⟩ := Maps.keyOf_str Tryz.underlying9 h; exact ⟨x, hx⟩) (fun v y _ => ⟨v, rfl⟩) (w1.heap.size + 1) w2.heap.size 8 _ _ _ rfl hrg ?_ ?_)
      | fail)
    · intro _ hl0
      have hsz1 := Hsz1.out
      have hbz2 := Hbz.out
      obtain ⟨hmem, hprw, hF8⟩ := HF.out.all hl0
      have hm1 : mMerge X F = mMerge X (dvRec m n) := HF.out.merge hl0 X
      have Hp9 := Lib.hid Hp.out
      rw [Hfin.out left hl0] at Hp9
      have hzr : Holds wr (w.heap.size + 1) 30 Z := Hdv.out.holds (Hz2.out.grown Hg3.out (by simp)) (by have := Hsz12.out; omega) (by have := Hsz12.out; omega)
      have hor : Holds wr w.heap.size 34 C := Hdv.out.holds (Ho2.out.grown Hg3.out (by simp)) (by have := Hsz12.out; omega) (by have := Hsz12.out; omega)
      have c12 := hor.at H12.out
      have hfitF : prFits 140737488355328 F := fun q hq => dvAll_fits Hdv0.out Htxl.out q (dvRec_mem.1 ((hmem q).1 hq)).1
      have hop : OwnP wr.drew w3.heap.size (.slice av F.length cs) F := Hown.out
      have hbw : Below w.heap.size w wr.drew := Below.drew (Hdv.out.below H3b.out (by have := Hsz12.out; omega) (by omega))
      have HM := Lib.hid (merge_any X F ax av cx cs wr.drew (HX.out.under hbw) hop.pairs Hfx.out hfitF (by have := Hxl.out; omega))
      rw [hm1] at HM
      generalize hMR : mMerge X (dvRec m n) = MR at *
      generalize hHE : dvHd m n (fun _ => false) = HE at *
      have HMR := Lib.hid hMR
      have HHE := Lib.hid hHE
      clear hMR hHE
      have hsr : w.heap.size + 1 < wr.heap.size := hzr.lt
      have hpr : w1.heap.size < wr.heap.size := Hp9.out.lt
      have hzd : Holds wr.drew (w.heap.size + 1) 30 Z := hzr
      have hpd : Holds wr.drew w1.heap.size 78 (MC ++ HE.cells) := Hp9.out
      have Hfin2 := Lib.hid (fun (wM : World) (v : Value) (hb : Below wr.drew.heap.size wr.drew wM) (hv : OwnP wM wr.drew.heap.size v MR) => show Holds (wM.setCells (w.heap.size + 1) 0 HE.cells) (w.heap.size + 1) 30 HE.cells ∧
          Below w.heap.size w (wM.setCells (w.heap.size + 1) 0 HE.cells) ∧ OwnP (wM.setCells (w.heap.size + 1) 0 HE.cells) w.heap.size v MR by
        refine ⟨?_, below_setCellsU _ (by omega) _ _ _ (hbw.trans (hb.mono hbw.size)), ?_⟩
        · have := Holds.setCells HE.cells 0 wM Z (hzd.under hb hsr)
          rw [(Hs13.out HE).1] at this
          exact this
        · refine owns_setCells _ (fun e => ?_) _ _ _ (Joins.ownsRow_le hv (Nat.le_trans hbw.size (Nat.le_refl _)))
          have := (hv.lt _ e).1
          have : wr.drew.heap.size = wr.heap.size := rfl
          omega)
      clear hm1 hfitF hop hbw hmem hprw Hfin Hdv0 hsz1 hbz2
      have hcz : Z.length = 13 := HZ13.out
      have Hsh := Lib.hid (Hs13.out HE).2
      clear Hbh Hin Hright H2 H3 H8 H9 Hsm Hs13
      obtain ⟨nn, nl, nk, nmo, nu, ng, ns, ntm, nun, ngn, nmj, nmi, nf⟩ := HE
      obtain ⟨z0, z1, z2, z3, z4, z5, z6, z7, z8, z9, z10, z11, z12⟩ := cells13v Hlm.out hpd
      go_wp2
      go_region_with (go_at_call 10; refine HM.out.mono ?_; rintro e wM ⟨hbM, v, rfl, hvM⟩; obtain ⟨y0, y1, y2, y3, y4, y5, y6, y7, y8, y9, y10, y11, y12⟩ := cells13v Hlm.out (hpd.under hbM hpr); have hzM := hzd.under hbM hsr; have u0 := hzM.cell (i := 0) (by omega); have g0 := hzM.frozen 0; have u1 := hzM.cell (i := 1) (by omega); have g1 := hzM.frozen 1; have u2 := hzM.cell (i := 2) (by omega); have g2 := hzM.frozen 2; have u3 := hzM.cell (i := 3) (by omega); have g3 := hzM.frozen 3; have u4 := hzM.cell (i := 4) (by omega); have g4 := hzM.frozen 4; have u5 := hzM.cell (i := 5) (by omega); have g5 := hzM.frozen 5; have u6 := hzM.cell (i := 6) (by omega); have g6 := hzM.frozen 6; have u7 := hzM.cell (i := 7) (by omega); have g7 := hzM.frozen 7; have u8 := hzM.cell (i := 8) (by omega); have g8 := hzM.frozen 8; have u9 := hzM.cell (i := 9) (by omega); have g9 := hzM.frozen 9; have u10 := hzM.cell (i := 10) (by omega); have g10 := hzM.frozen 10; have u11 := hzM.cell (i := 11) (by omega); have g11 := hzM.frozen 11; have u12 := hzM.cell (i := 12) (by omega); have g12 := hzM.frozen 12)
      all_goals
        have HE := Lib.hid (Hfin2.out wM v hbM hvM)
        clear Hfin2 HM hbM hvM
        go_wp2
        exact bodyPost_ret (results_row3 Tryz.results35 _ _ (w.heap.size + 1) _ _ _ _ v _ (by rfl) (by rfl) (by rfl) HE.out.1 Tryz.underlying30 rfl Hsh.out) rfl ⟨HE.out.2.1, v, by rw [HHE.out]; rfl, by rw [HMR.out]; exact HE.out.2.2⟩
    · intro x c kl y ps w4 cnt4 hkey hlk hv hat hrg4 hlt hg4 hs4 hen
      have hkl : kl = .string x := by
        obtain ⟨x2, e1, e2, -⟩ := Maps.keyOf_str Tryz.underlying9 hkey
        rw [e2, encStr_inj e1]
      have hy : y = DataW.held c := (congrArg Prod.fst (Option.some.inj hv)).symm
      subst hkl hy
      have hsz1 := Hsz1.out
      have hbz2 := Hbz.out
      have Hp4 := Lib.hid (Hp.out.grown hg4 (by simp; omega))
      have Hdv4 := Lib.hid (Hdv.out.grown hg4 (fun k hk => by cases hk; exact .inr (.inl rfl)))
      have Hown4 := Lib.hid (World.ownsRow.kept Hown.out hg4 (by
        rcases hv2 : (Value.slice av F.length cs).ownBlock with _ | g
        · exact .inl rfl
        · right
          have := (Hown.out.lt g hv2).1
          have := Hs3.out
          intro e
          injection e with e
          omega))
      have Hcs := Lib.hid (known_cases t x c hat)
      have Hrg4 := Lib.hid hrg4
      have Hlk := Lib.hid hlk
      have Hlt := Lib.hid hlt
      have Hrl := Lib.hid hrg.left_eq
      have Htb := Lib.hid (Ht3.out w4 Hdv4.out)
      have Hw4 := Lib.hid (show Below w.heap.size w w4 from Hdv4.out.below H3b.out (by omega) (by omega))
      have Ht3b := Lib.hid Ht3.out
      clear hat hrg4 hlk hv hkey hlt Hp Hdv Hown hrg hg4 hs4
      have hcs := Hcs.out
      clear Hcs Hbh Hbp Hright H2 H3 H8 H9 H12 Hsm Hin Hsp Hpone Hs13 HX Hfx Hxl Hz2 Ho2 Hfin HS HP Hb2 Ht3
      rcases hcs with ⟨rfl, rfl⟩ | ⟨rfl, rfl⟩ | ⟨rfl, rfl⟩ | ⟨rfl, rfl⟩ | ⟨rfl, rfl⟩ | ⟨rfl, rfl⟩ | ⟨rfl, rfl⟩ | ⟨rfl, rfl⟩
      · unfold numField at hen
        have Hst := Lib.hid (Holds.new w4 85 [.nilFunc, .nilFunc, .nilFunc])
        have Hone := Lib.hid (show #[Value.func (.func 128) #[] #[.pointer (some ⟨t.g, 0, none⟩)], Value.func (.func 130) #[] #[.pointer (some ⟨t.g, 0, none⟩)], Value.func (.func 132) #[] #[.pointer (some ⟨t.g, 0, none⟩)]].all (·.oneCell') = true by simp [Value.oneCell'])
        have Hs1 := Lib.hid (show (Tryz.prog.info? 85).map (·.size) = some 3 by kernel_rfl)
        have Hp5 := Lib.hid (Hp4.out.behind (.cells #[Value.func (.func 128) #[] #[.pointer (some ⟨t.g, 0, none⟩)], Value.func (.func 130) #[] #[.pointer (some ⟨t.g, 0, none⟩)], Value.func (.func 132) #[] #[.pointer (some ⟨t.g, 0, none⟩)]] 85))
        have Hgn := Lib.hid (dvGone_Gid Hlk.out)
        obtain ⟨e0, hok, hln, hfi, hpe⟩ := dvPut_Gid Hdv0.out Hlk.out
        have Hfit := Lib.hid (fitGid_any MC Hlm.out (dvHd m n left) { dvHd m n left with gid := m.gid } 0 m.gid MGid.out (by rw [← e0]; rfl) rfl (by rw [← e0]; rfl) hok hln w1.heap.size t.g _ Hp5.out (Htb.out.1.behind _))
        rw [hpe, hfi] at Hfit
        clear e0 hok hln hfi hpe
        have hHd := Lib.hid (show dvHd m n (leftOut left [103, 105, 100]) = dvHd m n (leftOut left [103, 105, 100]) from rfl)
        generalize hDE : dvHd m n (leftOut left [103, 105, 100]) = DE at Hfit
        have HDE := Lib.hid hDE
        clear hDE hHd
        cases hfi : dvFits m n [103, 105, 100] with
        | true =>
          rw [hfi] at Hfit
          have HFn := Lib.hid (HF.out.keep hfi Hgn.out)
          go_wp2_with (first
            | (refine wpList_store_row (by rfl) 85 _ _ (by rfl) w4.heap.size #[Value.func (.func 128) #[] #[.pointer (some ⟨t.g, 0, none⟩)], Value.func (.func 130) #[] #[.pointer (some ⟨t.g, 0, none⟩)], Value.func (.func 132) #[] #[.pointer (some ⟨t.g, 0, none⟩)]] (by rfl) (by rfl) 85 #[.nilFunc, .nilFunc, .nilFunc] Hst.out Hs1.out (by rfl) Hone.out ?_; rw [World.setRow_alloc_new])
            | fail)
          refine Hfit.out.mono ?_
          rintro e w5 ⟨g5, hp5, rfl⟩
          have Hgr := Lib.hid (grown_trans (World.grownBy_alloc w4 _ (some w1.heap.size)) g5)
          have Hp6 := Lib.hid (show Holds w5 w1.heap.size 78 (MC ++ (dvHd m n (leftOut left [103, 105, 100])).cells) by rw [HDE.out]; exact hp5)
          have Hdv6 := Lib.hid (Hdv4.out.grown Hgr.out (fun k hk => by cases hk; exact .inl rfl))
          have Hrg6 := Lib.hid (Hrg4.out.kept Hgr.out (by intro e; injection e with e; omega) (by intro e; injection e with e; omega))
          have Hown6 := Lib.hid (World.ownsRow.kept Hown4.out Hgr.out (by
            rcases hv2 : (Value.slice av F.length cs).ownBlock with _ | g
            · exact .inl rfl
            · right
              have := (Hown4.out.lt g hv2).1
              have := Hs3.out
              have := Hg3.out.size
              intro e
              injection e with e
              omega))
          clear hp5 g5 HDE
          have Hl6 := Lib.hid (show w5.rangeLeft (w1.heap.size + 1) w2.heap.size < wr.rangeLeft (w1.heap.size + 1) w2.heap.size by rw [Hrg6.out.left_eq, Hrl.out]; exact Hlt.out)
          go_wp2
          go_roundw
          case rel => exact ⟨_, cnt4, F, av, cs, rfl, HFn.out, Hown6.out, Hrg6.out, Hp6.out, Hdv6.out⟩
          case measure => exact Hl6.out
        | false =>
          rw [hfi] at Hfit
          have HFn := Lib.hid (HF.out.add (t := Lib.decDigits m.gid.toNat) Hlk.out (by unfold dvAll; simp) hfi Hgn.out)
          go_wp2_with (first
            | (refine wpList_store_row (by rfl) 85 _ _ (by rfl) w4.heap.size #[Value.func (.func 128) #[] #[.pointer (some ⟨t.g, 0, none⟩)], Value.func (.func 130) #[] #[.pointer (some ⟨t.g, 0, none⟩)], Value.func (.func 132) #[] #[.pointer (some ⟨t.g, 0, none⟩)]] (by rfl) (by rfl) 85 #[.nilFunc, .nilFunc, .nilFunc] Hst.out Hs1.out (by rfl) Hone.out ?_; rw [World.setRow_alloc_new])
            | fail)
          refine Hfit.out.mono ?_
          rintro e w5 ⟨g5, hp5, rfl⟩
          have Hb5 := Lib.hid (show Holds w5 w4.heap.size 85 [Value.func (.func 128) #[] #[.pointer (some ⟨t.g, 0, none⟩)], Value.func (.func 130) #[] #[.pointer (some ⟨t.g, 0, none⟩)], Value.func (.func 132) #[] #[.pointer (some ⟨t.g, 0, none⟩)]] from (Holds.new w4 _ _).grown g5 (by have := Hp4.out.lt; intro e; injection e with e; omega))
          have c5 := Hb5.out.at (i := 1) (v := Value.func (.func 130) #[] #[.pointer (some ⟨t.g, 0, none⟩)]) rfl
          have Hgr := Lib.hid (grown_trans (World.grownBy_alloc w4 _ (some w1.heap.size)) g5)
          have Hp6 := Lib.hid (show Holds w5 w1.heap.size 78 (MC ++ (dvHd m n (leftOut left [103, 105, 100])).cells) by rw [HDE.out]; exact hp5)
          have Hdv6 := Lib.hid (Hdv4.out.grown Hgr.out (fun k hk => by cases hk; exact .inl rfl))
          have Hrg6 := Lib.hid (Hrg4.out.kept Hgr.out (by intro e; injection e with e; omega) (by intro e; injection e with e; omega))
          have Hown6 := Lib.hid (World.ownsRow.kept Hown4.out Hgr.out (by
            rcases hv2 : (Value.slice av F.length cs).ownBlock with _ | g
            · exact .inl rfl
            · right
              have := (Hown4.out.lt g hv2).1
              have := Hs3.out
              have := Hg3.out.size
              intro e
              injection e with e
              omega))
          clear hp5 g5 HDE
          have Htb5 := Lib.hid (Ht3b.out w5 Hdv6.out)
          have Htc := Lib.hid (textGid_any MC _ m.gid MGid.out (Hdv0.out.gid.1) (by have := Hdv0.out.gid.2; omega) w1.heap.size t.g w5 Hp6.out (Htb5.out.1) (Ht.out.below (Hdv6.out.below H3b.out (by omega) (by omega)) (Nat.le_refl _)))
          have Hfi := Lib.hid hfi
          generalize htx : Lib.decDigits m.gid.toNat = tx at *
          clear htx
          go_wp2_with (fail)
          refine Htc.out.mono ?_
          rintro e w6 ⟨hb6, rfl⟩
          have Hp7 := Lib.hid (Hp6.out.under hb6 Hp6.out.lt)
          have Hgb := Lib.hid (grown_below hb6 none)
          have Hdv7 := Lib.hid (Hdv6.out.grown Hgb.out (fun k hk => by cases hk))
          have Hrg7 := Lib.hid (Hrg6.out.kept Hgb.out (by simp) (by simp))
          have hownp : OwnP w6 w3.heap.size (.slice av F.length cs) F := OwnP.step Hown6.out hb6
          have HFl := Lib.hid (HF.out.2.2)
          have Hg8 := Lib.hid (dvGone_le left)
          clear hb6
          obtain ⟨i0, hi, hz0, hz1, hz2⟩ := info_parts zero_pair
          go_wp2_with (first | (at_builtin; refine wpList_append_own _ rfl _ _ 22 rfl w3.heap.size 27 i0 (.agg #[.string ⟨#[]⟩, .string ⟨#[]⟩]) 2 32 Tryz.underlying22 hi hz0 hz1 hz2 rfl (by decide) _ _ _ rfl (World.ownsRow.alloc hownp _) ⟨w6.heap.size, 0, none⟩ 1 1 [encStr [103, 105, 100], .string ⟨tx.toArray⟩] rfl rfl ?c1 ?c2 ?c3 ?c4 ?c5 ?_) | fail)
          case c1 => exact fun j u hj => cell_two_new w6 _ _ 27 j u hj
          case c2 => exact one_two _ _
          case c3 => have := HFl.out; have := Hg8.out; unfold maxLen; omega
          case c4 => have := HFl.out; have := Hg8.out; omega
          case c5 => have := Hdv7.out.size; simp; omega
          intro v' w7 hown8 hgrow hnil
          have hown9 : OwnP w7 w3.heap.size v' (F ++ [([103, 105, 100], tx)]) := by
            show w7.ownsRow w3.heap.size _ 2 v' (F ++ [([103, 105, 100], tx)]).length (pairCells (F ++ [([103, 105, 100], tx)]))
            rw [pairCells_append, List.length_append]
            exact hown8
          obtain ⟨av2, cs2, rfl⟩ := hown9.slice
          have hrow : ∀ k, (Value.slice av F.length cs).ownBlock = some k → w3.heap.size ≤ k := fun k hk => (hownp.lt k hk).1
          have h3z := Hg3.out.size
          have hs3z := Hs3.out
          have Hown9 := Lib.hid hown9
          have Hdv9 := Lib.hid ((Hdv7.out.grown (World.grownBy_alloc w6 _ none) (fun k hk => by cases hk)).grown hgrow (fun k hk => .inr (.inr (hrow k hk))))
          have Hrg9 := Lib.hid ((Hrg7.out.alloc _).kept hgrow (by intro e; have := hrow _ e.symm; omega) (by intro e; have := hrow _ e.symm; omega))
          have Hp9 := Lib.hid ((Hp7.out.behind _).grown hgrow (by intro e; have := hrow _ e.symm; omega))
          clear hown8 hgrow hnil hown9 hrow hownp
          have Hl9 := Lib.hid (show w7.rangeLeft (w1.heap.size + 1) w2.heap.size < wr.rangeLeft (w1.heap.size + 1) w2.heap.size by rw [Hrg9.out.left_eq, Hrl.out]; exact Hlt.out)
          go_wp2
          go_roundw
          case rel => exact ⟨_, cnt4, F ++ [([103, 105, 100], tx)], av2, cs2, rfl, HFn.out, Hown9.out, Hrg9.out, Hp9.out, Hdv9.out⟩
          case measure => exact Hl9.out
      · unfold texField at hen
        have Hst := Lib.hid (Holds.new w4 85 [.nilFunc, .nilFunc, .nilFunc])
        have Hone := Lib.hid (show #[Value.func (.func 134) #[] #[.pointer (some ⟨t.gn, 0, none⟩)], Value.func (.func 136) #[] #[.pointer (some ⟨t.gn, 0, none⟩)], Value.func (.func 137) #[] #[.pointer (some ⟨t.gn, 0, none⟩)]].all (·.oneCell') = true by simp [Value.oneCell'])
        have Hs1 := Lib.hid (show (Tryz.prog.info? 85).map (·.size) = some 3 by kernel_rfl)
        have Hp5 := Lib.hid (Hp4.out.behind (.cells #[Value.func (.func 134) #[] #[.pointer (some ⟨t.gn, 0, none⟩)], Value.func (.func 136) #[] #[.pointer (some ⟨t.gn, 0, none⟩)], Value.func (.func 137) #[] #[.pointer (some ⟨t.gn, 0, none⟩)]] 85))
        have Hgn := Lib.hid (dvGone_Gname Hlk.out)
        obtain ⟨e0, hok, hln, hfi, hpe⟩ := dvPut_Gname Hdv0.out Hlk.out
        have Hfit := Lib.hid (fitGname_any MC Hlm.out (dvHd m n left) { dvHd m n left with gname := m.gname } [] m.gname MGname.out (by rw [← e0]; rfl) rfl (by rw [← e0]; rfl) hok hln w1.heap.size t.gn _ Hp5.out (Htb.out.2.1.behind _))
        rw [hpe, hfi] at Hfit
        clear e0 hok hln hfi hpe
        have hHd := Lib.hid (show dvHd m n (leftOut left [103, 110, 97, 109, 101]) = dvHd m n (leftOut left [103, 110, 97, 109, 101]) from rfl)
        generalize hDE : dvHd m n (leftOut left [103, 110, 97, 109, 101]) = DE at Hfit
        have HDE := Lib.hid hDE
        clear hDE hHd
        cases hfi : dvFits m n [103, 110, 97, 109, 101] with
        | true =>
          rw [hfi] at Hfit
          have HFn := Lib.hid (HF.out.keep hfi Hgn.out)
          go_wp2_with (first
            | (refine wpList_store_row (by rfl) 85 _ _ (by rfl) w4.heap.size #[Value.func (.func 134) #[] #[.pointer (some ⟨t.gn, 0, none⟩)], Value.func (.func 136) #[] #[.pointer (some ⟨t.gn, 0, none⟩)], Value.func (.func 137) #[] #[.pointer (some ⟨t.gn, 0, none⟩)]] (by rfl) (by rfl) 85 #[.nilFunc, .nilFunc, .nilFunc] Hst.out Hs1.out (by rfl) Hone.out ?_; rw [World.setRow_alloc_new])
            | fail)
          refine Hfit.out.mono ?_
          rintro e w5 ⟨g5, hp5, rfl⟩
          have Hgr := Lib.hid (grown_trans (World.grownBy_alloc w4 _ (some w1.heap.size)) g5)
          have Hp6 := Lib.hid (show Holds w5 w1.heap.size 78 (MC ++ (dvHd m n (leftOut left [103, 110, 97, 109, 101])).cells) by rw [HDE.out]; exact hp5)
          have Hdv6 := Lib.hid (Hdv4.out.grown Hgr.out (fun k hk => by cases hk; exact .inl rfl))
          have Hrg6 := Lib.hid (Hrg4.out.kept Hgr.out (by intro e; injection e with e; omega) (by intro e; injection e with e; omega))
          have Hown6 := Lib.hid (World.ownsRow.kept Hown4.out Hgr.out (by
            rcases hv2 : (Value.slice av F.length cs).ownBlock with _ | g
            · exact .inl rfl
            · right
              have := (Hown4.out.lt g hv2).1
              have := Hs3.out
              have := Hg3.out.size
              intro e
              injection e with e
              omega))
          clear hp5 g5 HDE
          have Hl6 := Lib.hid (show w5.rangeLeft (w1.heap.size + 1) w2.heap.size < wr.rangeLeft (w1.heap.size + 1) w2.heap.size by rw [Hrg6.out.left_eq, Hrl.out]; exact Hlt.out)
          go_wp2
          go_roundw
          case rel => exact ⟨_, cnt4, F, av, cs, rfl, HFn.out, Hown6.out, Hrg6.out, Hp6.out, Hdv6.out⟩
          case measure => exact Hl6.out
        | false =>
          rw [hfi] at Hfit
          have HFn := Lib.hid (HF.out.add (t := m.gname) Hlk.out (by unfold dvAll; simp) hfi Hgn.out)
          go_wp2_with (first
            | (refine wpList_store_row (by rfl) 85 _ _ (by rfl) w4.heap.size #[Value.func (.func 134) #[] #[.pointer (some ⟨t.gn, 0, none⟩)], Value.func (.func 136) #[] #[.pointer (some ⟨t.gn, 0, none⟩)], Value.func (.func 137) #[] #[.pointer (some ⟨t.gn, 0, none⟩)]] (by rfl) (by rfl) 85 #[.nilFunc, .nilFunc, .nilFunc] Hst.out Hs1.out (by rfl) Hone.out ?_; rw [World.setRow_alloc_new])
            | fail)
          refine Hfit.out.mono ?_
          rintro e w5 ⟨g5, hp5, rfl⟩
          have Hb5 := Lib.hid (show Holds w5 w4.heap.size 85 [Value.func (.func 134) #[] #[.pointer (some ⟨t.gn, 0, none⟩)], Value.func (.func 136) #[] #[.pointer (some ⟨t.gn, 0, none⟩)], Value.func (.func 137) #[] #[.pointer (some ⟨t.gn, 0, none⟩)]] from (Holds.new w4 _ _).grown g5 (by have := Hp4.out.lt; intro e; injection e with e; omega))
          have c5 := Hb5.out.at (i := 1) (v := Value.func (.func 136) #[] #[.pointer (some ⟨t.gn, 0, none⟩)]) rfl
          have Hgr := Lib.hid (grown_trans (World.grownBy_alloc w4 _ (some w1.heap.size)) g5)
          have Hp6 := Lib.hid (show Holds w5 w1.heap.size 78 (MC ++ (dvHd m n (leftOut left [103, 110, 97, 109, 101])).cells) by rw [HDE.out]; exact hp5)
          have Hdv6 := Lib.hid (Hdv4.out.grown Hgr.out (fun k hk => by cases hk; exact .inl rfl))
          have Hrg6 := Lib.hid (Hrg4.out.kept Hgr.out (by intro e; injection e with e; omega) (by intro e; injection e with e; omega))
          have Hown6 := Lib.hid (World.ownsRow.kept Hown4.out Hgr.out (by
            rcases hv2 : (Value.slice av F.length cs).ownBlock with _ | g
            · exact .inl rfl
            · right
              have := (Hown4.out.lt g hv2).1
              have := Hs3.out
              have := Hg3.out.size
              intro e
              injection e with e
              omega))
          clear hp5 g5 HDE
          have Htb5 := Lib.hid (Ht3b.out w5 Hdv6.out)
          have Htc := Lib.hid (textGname_any MC _ m.gname MGname.out w1.heap.size t.gn w5 Hp6.out (Htb5.out.2.1))
          have Hfi := Lib.hid hfi
          generalize htx : m.gname = tx at *
          clear htx
          go_wp2_with (fail)
          refine Htc.out.mono ?_
          rintro e w6 ⟨hb6, rfl⟩
          have Hp7 := Lib.hid (Hp6.out.under hb6 Hp6.out.lt)
          have Hgb := Lib.hid (grown_below hb6 none)
          have Hdv7 := Lib.hid (Hdv6.out.grown Hgb.out (fun k hk => by cases hk))
          have Hrg7 := Lib.hid (Hrg6.out.kept Hgb.out (by simp) (by simp))
          have hownp : OwnP w6 w3.heap.size (.slice av F.length cs) F := OwnP.step Hown6.out hb6
          have HFl := Lib.hid (HF.out.2.2)
          have Hg8 := Lib.hid (dvGone_le left)
          clear hb6
          obtain ⟨i0, hi, hz0, hz1, hz2⟩ := info_parts zero_pair
          go_wp2_with (first | (at_builtin; refine wpList_append_own _ rfl _ _ 22 rfl w3.heap.size 27 i0 (.agg #[.string ⟨#[]⟩, .string ⟨#[]⟩]) 2 32 Tryz.underlying22 hi hz0 hz1 hz2 rfl (by decide) _ _ _ rfl (World.ownsRow.alloc hownp _) ⟨w6.heap.size, 0, none⟩ 1 1 [encStr [103, 110, 97, 109, 101], .string ⟨tx.toArray⟩] rfl rfl ?c1 ?c2 ?c3 ?c4 ?c5 ?_) | fail)
          case c1 => exact fun j u hj => cell_two_new w6 _ _ 27 j u hj
          case c2 => exact one_two _ _
          case c3 => have := HFl.out; have := Hg8.out; unfold maxLen; omega
          case c4 => have := HFl.out; have := Hg8.out; omega
          case c5 => have := Hdv7.out.size; simp; omega
          intro v' w7 hown8 hgrow hnil
          have hown9 : OwnP w7 w3.heap.size v' (F ++ [([103, 110, 97, 109, 101], tx)]) := by
            show w7.ownsRow w3.heap.size _ 2 v' (F ++ [([103, 110, 97, 109, 101], tx)]).length (pairCells (F ++ [([103, 110, 97, 109, 101], tx)]))
            rw [pairCells_append, List.length_append]
            exact hown8
          obtain ⟨av2, cs2, rfl⟩ := hown9.slice
          have hrow : ∀ k, (Value.slice av F.length cs).ownBlock = some k → w3.heap.size ≤ k := fun k hk => (hownp.lt k hk).1
          have h3z := Hg3.out.size
          have hs3z := Hs3.out
          have Hown9 := Lib.hid hown9
          have Hdv9 := Lib.hid ((Hdv7.out.grown (World.grownBy_alloc w6 _ none) (fun k hk => by cases hk)).grown hgrow (fun k hk => .inr (.inr (hrow k hk))))
          have Hrg9 := Lib.hid ((Hrg7.out.alloc _).kept hgrow (by intro e; have := hrow _ e.symm; omega) (by intro e; have := hrow _ e.symm; omega))
          have Hp9 := Lib.hid ((Hp7.out.behind _).grown hgrow (by intro e; have := hrow _ e.symm; omega))
          clear hown8 hgrow hnil hown9 hrow hownp
          have Hl9 := Lib.hid (show w7.rangeLeft (w1.heap.size + 1) w2.heap.size < wr.rangeLeft (w1.heap.size + 1) w2.heap.size by rw [Hrg9.out.left_eq, Hrl.out]; exact Hlt.out)
          go_wp2
          go_roundw
          case rel => exact ⟨_, cnt4, F ++ [([103, 110, 97, 109, 101], tx)], av2, cs2, rfl, HFn.out, Hown9.out, Hrg9.out, Hp9.out, Hdv9.out⟩
          case measure => exact Hl9.out
      · unfold texField at hen
        have Hst := Lib.hid (Holds.new w4 85 [.nilFunc, .nilFunc, .nilFunc])
        have Hone := Lib.hid (show #[Value.func (.func 134) #[] #[.pointer (some ⟨t.l, 0, none⟩)], Value.func (.func 136) #[] #[.pointer (some ⟨t.l, 0, none⟩)], Value.func (.func 137) #[] #[.pointer (some ⟨t.l, 0, none⟩)]].all (·.oneCell') = true by simp [Value.oneCell'])
        have Hs1 := Lib.hid (show (Tryz.prog.info? 85).map (·.size) = some 3 by kernel_rfl)
        have Hp5 := Lib.hid (Hp4.out.behind (.cells #[Value.func (.func 134) #[] #[.pointer (some ⟨t.l, 0, none⟩)], Value.func (.func 136) #[] #[.pointer (some ⟨t.l, 0, none⟩)], Value.func (.func 137) #[] #[.pointer (some ⟨t.l, 0, none⟩)]] 85))
        have Hgn := Lib.hid (dvGone_Link Hlk.out)
        obtain ⟨e0, hok, hln, hfi, hpe⟩ := dvPut_Link Hdv0.out Hlk.out
        have Hfit := Lib.hid (fitLink_any MC Hlm.out (dvHd m n left) { dvHd m n left with link := m.link } [] m.link MLink.out (by rw [← e0]; rfl) rfl (by rw [← e0]; rfl) hok hln w1.heap.size t.l _ Hp5.out (Htb.out.2.2.1.behind _))
        rw [hpe, hfi] at Hfit
        clear e0 hok hln hfi hpe
        have hHd := Lib.hid (show dvHd m n (leftOut left [108, 105, 110, 107, 112, 97, 116, 104]) = dvHd m n (leftOut left [108, 105, 110, 107, 112, 97, 116, 104]) from rfl)
        generalize hDE : dvHd m n (leftOut left [108, 105, 110, 107, 112, 97, 116, 104]) = DE at Hfit
        have HDE := Lib.hid hDE
        clear hDE hHd
        cases hfi : dvFits m n [108, 105, 110, 107, 112, 97, 116, 104] with
        | true =>
          rw [hfi] at Hfit
          have HFn := Lib.hid (HF.out.keep hfi Hgn.out)
          go_wp2_with (first
            | (refine wpList_store_row (by rfl) 85 _ _ (by rfl) w4.heap.size #[Value.func (.func 134) #[] #[.pointer (some ⟨t.l, 0, none⟩)], Value.func (.func 136) #[] #[.pointer (some ⟨t.l, 0, none⟩)], Value.func (.func 137) #[] #[.pointer (some ⟨t.l, 0, none⟩)]] (by rfl) (by rfl) 85 #[.nilFunc, .nilFunc, .nilFunc] Hst.out Hs1.out (by rfl) Hone.out ?_; rw [World.setRow_alloc_new])
            | fail)
          refine Hfit.out.mono ?_
          rintro e w5 ⟨g5, hp5, rfl⟩
          have Hgr := Lib.hid (grown_trans (World.grownBy_alloc w4 _ (some w1.heap.size)) g5)
          have Hp6 := Lib.hid (show Holds w5 w1.heap.size 78 (MC ++ (dvHd m n (leftOut left [108, 105, 110, 107, 112, 97, 116, 104])).cells) by rw [HDE.out]; exact hp5)
          have Hdv6 := Lib.hid (Hdv4.out.grown Hgr.out (fun k hk => by cases hk; exact .inl rfl))
          have Hrg6 := Lib.hid (Hrg4.out.kept Hgr.out (by intro e; injection e with e; omega) (by intro e; injection e with e; omega))
          have Hown6 := Lib.hid (World.ownsRow.kept Hown4.out Hgr.out (by
            rcases hv2 : (Value.slice av F.length cs).ownBlock with _ | g
            · exact .inl rfl
            · right
              have := (Hown4.out.lt g hv2).1
              have := Hs3.out
              have := Hg3.out.size
              intro e
              injection e with e
              omega))
          clear hp5 g5 HDE
          have Hl6 := Lib.hid (show w5.rangeLeft (w1.heap.size + 1) w2.heap.size < wr.rangeLeft (w1.heap.size + 1) w2.heap.size by rw [Hrg6.out.left_eq, Hrl.out]; exact Hlt.out)
          go_wp2
          go_roundw
          case rel => exact ⟨_, cnt4, F, av, cs, rfl, HFn.out, Hown6.out, Hrg6.out, Hp6.out, Hdv6.out⟩
          case measure => exact Hl6.out
        | false =>
          rw [hfi] at Hfit
          have HFn := Lib.hid (HF.out.add (t := m.link) Hlk.out (by unfold dvAll; simp) hfi Hgn.out)
          go_wp2_with (first
            | (refine wpList_store_row (by rfl) 85 _ _ (by rfl) w4.heap.size #[Value.func (.func 134) #[] #[.pointer (some ⟨t.l, 0, none⟩)], Value.func (.func 136) #[] #[.pointer (some ⟨t.l, 0, none⟩)], Value.func (.func 137) #[] #[.pointer (some ⟨t.l, 0, none⟩)]] (by rfl) (by rfl) 85 #[.nilFunc, .nilFunc, .nilFunc] Hst.out Hs1.out (by rfl) Hone.out ?_; rw [World.setRow_alloc_new])
            | fail)
          refine Hfit.out.mono ?_
          rintro e w5 ⟨g5, hp5, rfl⟩
          have Hb5 := Lib.hid (show Holds w5 w4.heap.size 85 [Value.func (.func 134) #[] #[.pointer (some ⟨t.l, 0, none⟩)], Value.func (.func 136) #[] #[.pointer (some ⟨t.l, 0, none⟩)], Value.func (.func 137) #[] #[.pointer (some ⟨t.l, 0, none⟩)]] from (Holds.new w4 _ _).grown g5 (by have := Hp4.out.lt; intro e; injection e with e; omega))
          have c5 := Hb5.out.at (i := 1) (v := Value.func (.func 136) #[] #[.pointer (some ⟨t.l, 0, none⟩)]) rfl
          have Hgr := Lib.hid (grown_trans (World.grownBy_alloc w4 _ (some w1.heap.size)) g5)
          have Hp6 := Lib.hid (show Holds w5 w1.heap.size 78 (MC ++ (dvHd m n (leftOut left [108, 105, 110, 107, 112, 97, 116, 104])).cells) by rw [HDE.out]; exact hp5)
          have Hdv6 := Lib.hid (Hdv4.out.grown Hgr.out (fun k hk => by cases hk; exact .inl rfl))
          have Hrg6 := Lib.hid (Hrg4.out.kept Hgr.out (by intro e; injection e with e; omega) (by intro e; injection e with e; omega))
          have Hown6 := Lib.hid (World.ownsRow.kept Hown4.out Hgr.out (by
            rcases hv2 : (Value.slice av F.length cs).ownBlock with _ | g
            · exact .inl rfl
            · right
              have := (Hown4.out.lt g hv2).1
              have := Hs3.out
              have := Hg3.out.size
              intro e
              injection e with e
              omega))
          clear hp5 g5 HDE
          have Htb5 := Lib.hid (Ht3b.out w5 Hdv6.out)
          have Htc := Lib.hid (textLink_any MC _ m.link MLink.out w1.heap.size t.l w5 Hp6.out (Htb5.out.2.2.1))
          have Hfi := Lib.hid hfi
          generalize htx : m.link = tx at *
          clear htx
          go_wp2_with (fail)
          refine Htc.out.mono ?_
          rintro e w6 ⟨hb6, rfl⟩
          have Hp7 := Lib.hid (Hp6.out.under hb6 Hp6.out.lt)
          have Hgb := Lib.hid (grown_below hb6 none)
          have Hdv7 := Lib.hid (Hdv6.out.grown Hgb.out (fun k hk => by cases hk))
          have Hrg7 := Lib.hid (Hrg6.out.kept Hgb.out (by simp) (by simp))
          have hownp : OwnP w6 w3.heap.size (.slice av F.length cs) F := OwnP.step Hown6.out hb6
          have HFl := Lib.hid (HF.out.2.2)
          have Hg8 := Lib.hid (dvGone_le left)
          clear hb6
          obtain ⟨i0, hi, hz0, hz1, hz2⟩ := info_parts zero_pair
          go_wp2_with (first | (at_builtin; refine wpList_append_own _ rfl _ _ 22 rfl w3.heap.size 27 i0 (.agg #[.string ⟨#[]⟩, .string ⟨#[]⟩]) 2 32 Tryz.underlying22 hi hz0 hz1 hz2 rfl (by decide) _ _ _ rfl (World.ownsRow.alloc hownp _) ⟨w6.heap.size, 0, none⟩ 1 1 [encStr [108, 105, 110, 107, 112, 97, 116, 104], .string ⟨tx.toArray⟩] rfl rfl ?c1 ?c2 ?c3 ?c4 ?c5 ?_) | fail)
          case c1 => exact fun j u hj => cell_two_new w6 _ _ 27 j u hj
          case c2 => exact one_two _ _
          case c3 => have := HFl.out; have := Hg8.out; unfold maxLen; omega
          case c4 => have := HFl.out; have := Hg8.out; omega
          case c5 => have := Hdv7.out.size; simp; omega
          intro v' w7 hown8 hgrow hnil
          have hown9 : OwnP w7 w3.heap.size v' (F ++ [([108, 105, 110, 107, 112, 97, 116, 104], tx)]) := by
            show w7.ownsRow w3.heap.size _ 2 v' (F ++ [([108, 105, 110, 107, 112, 97, 116, 104], tx)]).length (pairCells (F ++ [([108, 105, 110, 107, 112, 97, 116, 104], tx)]))
            rw [pairCells_append, List.length_append]
            exact hown8
          obtain ⟨av2, cs2, rfl⟩ := hown9.slice
          have hrow : ∀ k, (Value.slice av F.length cs).ownBlock = some k → w3.heap.size ≤ k := fun k hk => (hownp.lt k hk).1
          have h3z := Hg3.out.size
          have hs3z := Hs3.out
          have Hown9 := Lib.hid hown9
          have Hdv9 := Lib.hid ((Hdv7.out.grown (World.grownBy_alloc w6 _ none) (fun k hk => by cases hk)).grown hgrow (fun k hk => .inr (.inr (hrow k hk))))
          have Hrg9 := Lib.hid ((Hrg7.out.alloc _).kept hgrow (by intro e; have := hrow _ e.symm; omega) (by intro e; have := hrow _ e.symm; omega))
          have Hp9 := Lib.hid ((Hp7.out.behind _).grown hgrow (by intro e; have := hrow _ e.symm; omega))
          clear hown8 hgrow hnil hown9 hrow hownp
          have Hl9 := Lib.hid (show w7.rangeLeft (w1.heap.size + 1) w2.heap.size < wr.rangeLeft (w1.heap.size + 1) w2.heap.size by rw [Hrg9.out.left_eq, Hrl.out]; exact Hlt.out)
          go_wp2
          go_roundw
          case rel => exact ⟨_, cnt4, F ++ [([108, 105, 110, 107, 112, 97, 116, 104], tx)], av2, cs2, rfl, HFn.out, Hown9.out, Hrg9.out, Hp9.out, Hdv9.out⟩
          case measure => exact Hl9.out
      · unfold timField at hen
        have Hst := Lib.hid (Holds.new w4 85 [.nilFunc, .nilFunc, .nilFunc])
        have Hone := Lib.hid (show #[Value.func (.func 139) #[] #[], Value.func (.func 141) #[] #[], Value.func (.func 143) #[] #[]].all (·.oneCell') = true by simp [Value.oneCell'])
        have Hs1 := Lib.hid (show (Tryz.prog.info? 85).map (·.size) = some 3 by kernel_rfl)
        have Hp5 := Lib.hid (Hp4.out.behind (.cells #[Value.func (.func 139) #[] #[], Value.func (.func 141) #[] #[], Value.func (.func 143) #[] #[]] 85))
        have Hgn := Lib.hid (dvGone_Time Hlk.out)
        by_cases h0 : m.nsec = 0
        · obtain ⟨e0, hok, hln, hfi, hpe⟩ := dvPut_Time Hdv0.out h0 Hlk.out
          have Hn0 := Lib.hid (show MC[11]? = some (.int .i64 0) by rw [← h0]; exact Mnsec.out)
          have Hfit := Lib.hid (fitTime_any MC Hlm.out (dvHd m n left) { dvHd m n left with time := m.sec } 0 m.sec Hn0.out Msec.out (by rw [← e0]; rfl) rfl (by rw [← e0]; rfl) hok hln w1.heap.size _ Hp5.out)
          rw [hpe, hfi] at Hfit
          clear e0 hok hln hfi hpe
          generalize hDE : dvHd m n (leftOut left [109, 116, 105, 109, 101]) = DE at Hfit
          have HDE := Lib.hid hDE
          clear hDE
          cases hfi : dvFits m n [109, 116, 105, 109, 101] with
          | true =>
            rw [hfi] at Hfit
            have HFn := Lib.hid (HF.out.keep hfi Hgn.out)
            go_wp2_with (first
              | (refine wpList_store_row (by rfl) 85 _ _ (by rfl) w4.heap.size #[Value.func (.func 139) #[] #[], Value.func (.func 141) #[] #[], Value.func (.func 143) #[] #[]] (by rfl) (by rfl) 85 #[.nilFunc, .nilFunc, .nilFunc] Hst.out Hs1.out (by rfl) Hone.out ?_; rw [World.setRow_alloc_new])
              | fail)
            refine Hfit.out.mono ?_
            rintro e w5 ⟨g5, hp5, rfl⟩
            have Hgr := Lib.hid (grown_trans (World.grownBy_alloc w4 _ (some w1.heap.size)) g5)
            have Hp6 := Lib.hid (show Holds w5 w1.heap.size 78 (MC ++ (dvHd m n (leftOut left [109, 116, 105, 109, 101])).cells) by rw [HDE.out]; exact hp5)
            have Hdv6 := Lib.hid (Hdv4.out.grown Hgr.out (fun k hk => by cases hk; exact .inl rfl))
            have Hrg6 := Lib.hid (Hrg4.out.kept Hgr.out (by intro e; injection e with e; omega) (by intro e; injection e with e; omega))
            have Hown6 := Lib.hid (World.ownsRow.kept Hown4.out Hgr.out (by
              rcases hv2 : (Value.slice av F.length cs).ownBlock with _ | g
              · exact .inl rfl
              · right
                have := (Hown4.out.lt g hv2).1
                have := Hs3.out
                have := Hg3.out.size
                intro e
                injection e with e
                omega))
            clear hp5 g5 HDE
            have Hl6 := Lib.hid (show w5.rangeLeft (w1.heap.size + 1) w2.heap.size < wr.rangeLeft (w1.heap.size + 1) w2.heap.size by rw [Hrg6.out.left_eq, Hrl.out]; exact Hlt.out)
            go_wp2
            go_roundw
            case rel => exact ⟨_, cnt4, F, av, cs, rfl, HFn.out, Hown6.out, Hrg6.out, Hp6.out, Hdv6.out⟩
            case measure => exact Hl6.out
          | false =>
            rw [hfi] at Hfit
            have HFn := Lib.hid (HF.out.add (t := stText m.sec m.nsec) Hlk.out (by unfold dvAll; simp) hfi Hgn.out)
            go_wp2_with (first
              | (refine wpList_store_row (by rfl) 85 _ _ (by rfl) w4.heap.size #[Value.func (.func 139) #[] #[], Value.func (.func 141) #[] #[], Value.func (.func 143) #[] #[]] (by rfl) (by rfl) 85 #[.nilFunc, .nilFunc, .nilFunc] Hst.out Hs1.out (by rfl) Hone.out ?_; rw [World.setRow_alloc_new])
              | fail)
            refine Hfit.out.mono ?_
            rintro e w5 ⟨g5, hp5, rfl⟩
            have Hb5 := Lib.hid (show Holds w5 w4.heap.size 85 [Value.func (.func 139) #[] #[], Value.func (.func 141) #[] #[], Value.func (.func 143) #[] #[]] from (Holds.new w4 _ _).grown g5 (by have := Hp4.out.lt; intro e; injection e with e; omega))
            have c5 := Hb5.out.at (i := 1) (v := Value.func (.func 141) #[] #[]) rfl
            have Hgr := Lib.hid (grown_trans (World.grownBy_alloc w4 _ (some w1.heap.size)) g5)
            have Hp6 := Lib.hid (show Holds w5 w1.heap.size 78 (MC ++ (dvHd m n (leftOut left [109, 116, 105, 109, 101])).cells) by rw [HDE.out]; exact hp5)
            have Hdv6 := Lib.hid (Hdv4.out.grown Hgr.out (fun k hk => by cases hk; exact .inl rfl))
            have Hrg6 := Lib.hid (Hrg4.out.kept Hgr.out (by intro e; injection e with e; omega) (by intro e; injection e with e; omega))
            have Hown6 := Lib.hid (World.ownsRow.kept Hown4.out Hgr.out (by
              rcases hv2 : (Value.slice av F.length cs).ownBlock with _ | g
              · exact .inl rfl
              · right
                have := (Hown4.out.lt g hv2).1
                have := Hs3.out
                have := Hg3.out.size
                intro e
                injection e with e
                omega))
            clear hp5 g5 HDE
            have Htc := Lib.hid (timeText_any MC _ m.sec m.nsec Msec.out Mnsec.out Hdv0.out.stamp w1.heap.size w5 Hp6.out (Ht.out.below (Hdv6.out.below H3b.out (by omega) (by omega)) (Nat.le_refl _)))
            have Hfi := Lib.hid hfi
            generalize htx : stText m.sec m.nsec = tx at *
            clear htx
            go_wp2_with (fail)
            refine Htc.out.mono ?_
            rintro e w6 ⟨hb6, rfl⟩
            have Hp7 := Lib.hid (Hp6.out.under hb6 Hp6.out.lt)
            have Hgb := Lib.hid (grown_below hb6 none)
            have Hdv7 := Lib.hid (Hdv6.out.grown Hgb.out (fun k hk => by cases hk))
            have Hrg7 := Lib.hid (Hrg6.out.kept Hgb.out (by simp) (by simp))
            have hownp : OwnP w6 w3.heap.size (.slice av F.length cs) F := OwnP.step Hown6.out hb6
            have HFl := Lib.hid (HF.out.2.2)
            have Hg8 := Lib.hid (dvGone_le left)
            clear hb6
            obtain ⟨i0, hi, hz0, hz1, hz2⟩ := info_parts zero_pair
            go_wp2_with (first | (at_builtin; refine wpList_append_own _ rfl _ _ 22 rfl w3.heap.size 27 i0 (.agg #[.string ⟨#[]⟩, .string ⟨#[]⟩]) 2 32 Tryz.underlying22 hi hz0 hz1 hz2 rfl (by decide) _ _ _ rfl (World.ownsRow.alloc hownp _) ⟨w6.heap.size, 0, none⟩ 1 1 [encStr [109, 116, 105, 109, 101], .string ⟨tx.toArray⟩] rfl rfl ?c1 ?c2 ?c3 ?c4 ?c5 ?_) | fail)
            case c1 => exact fun j u hj => cell_two_new w6 _ _ 27 j u hj
            case c2 => exact one_two _ _
            case c3 => have := HFl.out; have := Hg8.out; unfold maxLen; omega
            case c4 => have := HFl.out; have := Hg8.out; omega
            case c5 => have := Hdv7.out.size; simp; omega
            intro v' w7 hown8 hgrow hnil
            have hown9 : OwnP w7 w3.heap.size v' (F ++ [([109, 116, 105, 109, 101], tx)]) := by
              show w7.ownsRow w3.heap.size _ 2 v' (F ++ [([109, 116, 105, 109, 101], tx)]).length (pairCells (F ++ [([109, 116, 105, 109, 101], tx)]))
              rw [pairCells_append, List.length_append]
              exact hown8
            obtain ⟨av2, cs2, rfl⟩ := hown9.slice
            have hrow : ∀ k, (Value.slice av F.length cs).ownBlock = some k → w3.heap.size ≤ k := fun k hk => (hownp.lt k hk).1
            have h3z := Hg3.out.size
            have hs3z := Hs3.out
            have Hown9 := Lib.hid hown9
            have Hdv9 := Lib.hid ((Hdv7.out.grown (World.grownBy_alloc w6 _ none) (fun k hk => by cases hk)).grown hgrow (fun k hk => .inr (.inr (hrow k hk))))
            have Hrg9 := Lib.hid ((Hrg7.out.alloc _).kept hgrow (by intro e; have := hrow _ e.symm; omega) (by intro e; have := hrow _ e.symm; omega))
            have Hp9 := Lib.hid ((Hp7.out.behind _).grown hgrow (by intro e; have := hrow _ e.symm; omega))
            clear hown8 hgrow hnil hown9 hrow hownp
            have Hl9 := Lib.hid (show w7.rangeLeft (w1.heap.size + 1) w2.heap.size < wr.rangeLeft (w1.heap.size + 1) w2.heap.size by rw [Hrg9.out.left_eq, Hrl.out]; exact Hlt.out)
            go_wp2
            go_roundw
            case rel => exact ⟨_, cnt4, F ++ [([109, 116, 105, 109, 101], tx)], av2, cs2, rfl, HFn.out, Hown9.out, Hrg9.out, Hp9.out, Hdv9.out⟩
            case measure => exact Hl9.out
        · obtain ⟨hfi, hpe⟩ := dvPut_TimeNo (n := n) (left := left) h0 Hlk.out
          have Hfit := Lib.hid (fitTime_no MC (dvHd m n left) m.nsec Mnsec.out h0 w1.heap.size _ Hp5.out)
          have HDE := Lib.hid hpe
          have HFn := Lib.hid (HF.out.add (t := stText m.sec m.nsec) Hlk.out (by unfold dvAll; simp) hfi Hgn.out)
          clear hpe
          go_wp2_with (first
            | (refine wpList_store_row (by rfl) 85 _ _ (by rfl) w4.heap.size #[Value.func (.func 139) #[] #[], Value.func (.func 141) #[] #[], Value.func (.func 143) #[] #[]] (by rfl) (by rfl) 85 #[.nilFunc, .nilFunc, .nilFunc] Hst.out Hs1.out (by rfl) Hone.out ?_; rw [World.setRow_alloc_new])
            | fail)
          refine Hfit.out.mono ?_
          rintro e w5 ⟨⟨m5, hw5⟩, rfl⟩
          have Hgr := Lib.hid (show w4.grownBy w5 none from by rw [hw5]; exact grown_trans (World.grownBy_alloc w4 _ none) (grown_drewN _ m5 none))
          have Hb5 := Lib.hid (show Holds w5 w4.heap.size 85 [Value.func (.func 139) #[] #[], Value.func (.func 141) #[] #[], Value.func (.func 143) #[] #[]] by rw [hw5]; exact Holds.new w4 _ _)
          have c5 := Hb5.out.at (i := 1) (v := Value.func (.func 141) #[] #[]) rfl
          clear hw5
          have Hp6 := Lib.hid (show Holds w5 w1.heap.size 78 (MC ++ (dvHd m n (leftOut left [109, 116, 105, 109, 101])).cells) by rw [← HDE.out]; exact Hp4.out.grown Hgr.out (by simp))
          have Hdv6 := Lib.hid (Hdv4.out.grown Hgr.out (fun k hk => by cases hk))
          have Hrg6 := Lib.hid (Hrg4.out.kept Hgr.out (by simp) (by simp))
          have Hown6 := Lib.hid (World.ownsRow.kept Hown4.out Hgr.out (by
            rcases hv2 : (Value.slice av F.length cs).ownBlock with _ | g
            · exact .inl rfl
            · right
              have := (Hown4.out.lt g hv2).1
              have := Hs3.out
              have := Hg3.out.size
              intro e
              cases e))
          clear HDE
          have Htc := Lib.hid (timeText_any MC _ m.sec m.nsec Msec.out Mnsec.out Hdv0.out.stamp w1.heap.size w5 Hp6.out (Ht.out.below (Hdv6.out.below H3b.out (by omega) (by omega)) (Nat.le_refl _)))
          have Hfi := Lib.hid hfi
          generalize htx : stText m.sec m.nsec = tx at *
          clear htx
          go_wp2_with (fail)
          refine Htc.out.mono ?_
          rintro e w6 ⟨hb6, rfl⟩
          have Hp7 := Lib.hid (Hp6.out.under hb6 Hp6.out.lt)
          have Hgb := Lib.hid (grown_below hb6 none)
          have Hdv7 := Lib.hid (Hdv6.out.grown Hgb.out (fun k hk => by cases hk))
          have Hrg7 := Lib.hid (Hrg6.out.kept Hgb.out (by simp) (by simp))
          have hownp : OwnP w6 w3.heap.size (.slice av F.length cs) F := OwnP.step Hown6.out hb6
          have HFl := Lib.hid (HF.out.2.2)
          have Hg8 := Lib.hid (dvGone_le left)
          clear hb6
          obtain ⟨i0, hi, hz0, hz1, hz2⟩ := info_parts zero_pair
          go_wp2_with (first | (at_builtin; refine wpList_append_own _ rfl _ _ 22 rfl w3.heap.size 27 i0 (.agg #[.string ⟨#[]⟩, .string ⟨#[]⟩]) 2 32 Tryz.underlying22 hi hz0 hz1 hz2 rfl (by decide) _ _ _ rfl (World.ownsRow.alloc hownp _) ⟨w6.heap.size, 0, none⟩ 1 1 [encStr [109, 116, 105, 109, 101], .string ⟨tx.toArray⟩] rfl rfl ?c1 ?c2 ?c3 ?c4 ?c5 ?_) | fail)
          case c1 => exact fun j u hj => cell_two_new w6 _ _ 27 j u hj
          case c2 => exact one_two _ _
          case c3 => have := HFl.out; have := Hg8.out; unfold maxLen; omega
          case c4 => have := HFl.out; have := Hg8.out; omega
          case c5 => have := Hdv7.out.size; simp; omega
          intro v' w7 hown8 hgrow hnil
          have hown9 : OwnP w7 w3.heap.size v' (F ++ [([109, 116, 105, 109, 101], tx)]) := by
            show w7.ownsRow w3.heap.size _ 2 v' (F ++ [([109, 116, 105, 109, 101], tx)]).length (pairCells (F ++ [([109, 116, 105, 109, 101], tx)]))
            rw [pairCells_append, List.length_append]
            exact hown8
          obtain ⟨av2, cs2, rfl⟩ := hown9.slice
          have hrow : ∀ k, (Value.slice av F.length cs).ownBlock = some k → w3.heap.size ≤ k := fun k hk => (hownp.lt k hk).1
          have h3z := Hg3.out.size
          have hs3z := Hs3.out
          have Hown9 := Lib.hid hown9
          have Hdv9 := Lib.hid ((Hdv7.out.grown (World.grownBy_alloc w6 _ none) (fun k hk => by cases hk)).grown hgrow (fun k hk => .inr (.inr (hrow k hk))))
          have Hrg9 := Lib.hid ((Hrg7.out.alloc _).kept hgrow (by intro e; have := hrow _ e.symm; omega) (by intro e; have := hrow _ e.symm; omega))
          have Hp9 := Lib.hid ((Hp7.out.behind _).grown hgrow (by intro e; have := hrow _ e.symm; omega))
          clear hown8 hgrow hnil hown9 hrow hownp
          have Hl9 := Lib.hid (show w7.rangeLeft (w1.heap.size + 1) w2.heap.size < wr.rangeLeft (w1.heap.size + 1) w2.heap.size by rw [Hrg9.out.left_eq, Hrl.out]; exact Hlt.out)
          go_wp2
          go_roundw
          case rel => exact ⟨_, cnt4, F ++ [([109, 116, 105, 109, 101], tx)], av2, cs2, rfl, HFn.out, Hown9.out, Hrg9.out, Hp9.out, Hdv9.out⟩
          case measure => exact Hl9.out
      · unfold texField at hen
        have Hst := Lib.hid (Holds.new w4 85 [.nilFunc, .nilFunc, .nilFunc])
        have Hone := Lib.hid (show #[Value.func (.func 134) #[] #[.pointer (some ⟨t.p, 0, none⟩)], Value.func (.func 136) #[] #[.pointer (some ⟨t.p, 0, none⟩)], Value.func (.func 137) #[] #[.pointer (some ⟨t.p, 0, none⟩)]].all (·.oneCell') = true by simp [Value.oneCell'])
        have Hs1 := Lib.hid (show (Tryz.prog.info? 85).map (·.size) = some 3 by kernel_rfl)
        have Hp5 := Lib.hid (Hp4.out.behind (.cells #[Value.func (.func 134) #[] #[.pointer (some ⟨t.p, 0, none⟩)], Value.func (.func 136) #[] #[.pointer (some ⟨t.p, 0, none⟩)], Value.func (.func 137) #[] #[.pointer (some ⟨t.p, 0, none⟩)]] 85))
        have Hgn := Lib.hid (dvGone_Name Hlk.out)
        obtain ⟨e0, hok, hln, hfi, hpe⟩ := dvPut_Name Hdv0.out Hlk.out
        have Hfit := Lib.hid (fitName_any MC Hlm.out (dvHd m n left) { dvHd m n left with name := m.name } [] m.name MName.out (by rw [← e0]; rfl) rfl (by rw [← e0]; rfl) hok hln w1.heap.size t.p _ Hp5.out (Htb.out.2.2.2.1.behind _))
        rw [hpe, hfi] at Hfit
        clear e0 hok hln hfi hpe
        have hHd := Lib.hid (show dvHd m n (leftOut left [112, 97, 116, 104]) = dvHd m n (leftOut left [112, 97, 116, 104]) from rfl)
        generalize hDE : dvHd m n (leftOut left [112, 97, 116, 104]) = DE at Hfit
        have HDE := Lib.hid hDE
        clear hDE hHd
        cases hfi : dvFits m n [112, 97, 116, 104] with
        | true =>
          rw [hfi] at Hfit
          have HFn := Lib.hid (HF.out.keep hfi Hgn.out)
          go_wp2_with (first
            | (refine wpList_store_row (by rfl) 85 _ _ (by rfl) w4.heap.size #[Value.func (.func 134) #[] #[.pointer (some ⟨t.p, 0, none⟩)], Value.func (.func 136) #[] #[.pointer (some ⟨t.p, 0, none⟩)], Value.func (.func 137) #[] #[.pointer (some ⟨t.p, 0, none⟩)]] (by rfl) (by rfl) 85 #[.nilFunc, .nilFunc, .nilFunc] Hst.out Hs1.out (by rfl) Hone.out ?_; rw [World.setRow_alloc_new])
            | fail)
          refine Hfit.out.mono ?_
          rintro e w5 ⟨g5, hp5, rfl⟩
          have Hgr := Lib.hid (grown_trans (World.grownBy_alloc w4 _ (some w1.heap.size)) g5)
          have Hp6 := Lib.hid (show Holds w5 w1.heap.size 78 (MC ++ (dvHd m n (leftOut left [112, 97, 116, 104])).cells) by rw [HDE.out]; exact hp5)
          have Hdv6 := Lib.hid (Hdv4.out.grown Hgr.out (fun k hk => by cases hk; exact .inl rfl))
          have Hrg6 := Lib.hid (Hrg4.out.kept Hgr.out (by intro e; injection e with e; omega) (by intro e; injection e with e; omega))
          have Hown6 := Lib.hid (World.ownsRow.kept Hown4.out Hgr.out (by
            rcases hv2 : (Value.slice av F.length cs).ownBlock with _ | g
            · exact .inl rfl
            · right
              have := (Hown4.out.lt g hv2).1
              have := Hs3.out
              have := Hg3.out.size
              intro e
              injection e with e
              omega))
          clear hp5 g5 HDE
          have Hl6 := Lib.hid (show w5.rangeLeft (w1.heap.size + 1) w2.heap.size < wr.rangeLeft (w1.heap.size + 1) w2.heap.size by rw [Hrg6.out.left_eq, Hrl.out]; exact Hlt.out)
          go_wp2
          go_roundw
          case rel => exact ⟨_, cnt4, F, av, cs, rfl, HFn.out, Hown6.out, Hrg6.out, Hp6.out, Hdv6.out⟩
          case measure => exact Hl6.out
        | false =>
          rw [hfi] at Hfit
          have HFn := Lib.hid (HF.out.add (t := m.name) Hlk.out (by unfold dvAll; simp) hfi Hgn.out)
          go_wp2_with (first
            | (refine wpList_store_row (by rfl) 85 _ _ (by rfl) w4.heap.size #[Value.func (.func 134) #[] #[.pointer (some ⟨t.p, 0, none⟩)], Value.func (.func 136) #[] #[.pointer (some ⟨t.p, 0, none⟩)], Value.func (.func 137) #[] #[.pointer (some ⟨t.p, 0, none⟩)]] (by rfl) (by rfl) 85 #[.nilFunc, .nilFunc, .nilFunc] Hst.out Hs1.out (by rfl) Hone.out ?_; rw [World.setRow_alloc_new])
            | fail)
          refine Hfit.out.mono ?_
          rintro e w5 ⟨g5, hp5, rfl⟩
          have Hb5 := Lib.hid (show Holds w5 w4.heap.size 85 [Value.func (.func 134) #[] #[.pointer (some ⟨t.p, 0, none⟩)], Value.func (.func 136) #[] #[.pointer (some ⟨t.p, 0, none⟩)], Value.func (.func 137) #[] #[.pointer (some ⟨t.p, 0, none⟩)]] from (Holds.new w4 _ _).grown g5 (by have := Hp4.out.lt; intro e; injection e with e; omega))
          have c5 := Hb5.out.at (i := 1) (v := Value.func (.func 136) #[] #[.pointer (some ⟨t.p, 0, none⟩)]) rfl
          have Hgr := Lib.hid (grown_trans (World.grownBy_alloc w4 _ (some w1.heap.size)) g5)
          have Hp6 := Lib.hid (show Holds w5 w1.heap.size 78 (MC ++ (dvHd m n (leftOut left [112, 97, 116, 104])).cells) by rw [HDE.out]; exact hp5)
          have Hdv6 := Lib.hid (Hdv4.out.grown Hgr.out (fun k hk => by cases hk; exact .inl rfl))
          have Hrg6 := Lib.hid (Hrg4.out.kept Hgr.out (by intro e; injection e with e; omega) (by intro e; injection e with e; omega))
          have Hown6 := Lib.hid (World.ownsRow.kept Hown4.out Hgr.out (by
            rcases hv2 : (Value.slice av F.length cs).ownBlock with _ | g
            · exact .inl rfl
            · right
              have := (Hown4.out.lt g hv2).1
              have := Hs3.out
              have := Hg3.out.size
              intro e
              injection e with e
              omega))
          clear hp5 g5 HDE
          have Htb5 := Lib.hid (Ht3b.out w5 Hdv6.out)
          have Htc := Lib.hid (textName_any MC _ m.name MName.out w1.heap.size t.p w5 Hp6.out (Htb5.out.2.2.2.1))
          have Hfi := Lib.hid hfi
          generalize htx : m.name = tx at *
          clear htx
          go_wp2_with (fail)
          refine Htc.out.mono ?_
          rintro e w6 ⟨hb6, rfl⟩
          have Hp7 := Lib.hid (Hp6.out.under hb6 Hp6.out.lt)
          have Hgb := Lib.hid (grown_below hb6 none)
          have Hdv7 := Lib.hid (Hdv6.out.grown Hgb.out (fun k hk => by cases hk))
          have Hrg7 := Lib.hid (Hrg6.out.kept Hgb.out (by simp) (by simp))
          have hownp : OwnP w6 w3.heap.size (.slice av F.length cs) F := OwnP.step Hown6.out hb6
          have HFl := Lib.hid (HF.out.2.2)
          have Hg8 := Lib.hid (dvGone_le left)
          clear hb6
          obtain ⟨i0, hi, hz0, hz1, hz2⟩ := info_parts zero_pair
          go_wp2_with (first | (at_builtin; refine wpList_append_own _ rfl _ _ 22 rfl w3.heap.size 27 i0 (.agg #[.string ⟨#[]⟩, .string ⟨#[]⟩]) 2 32 Tryz.underlying22 hi hz0 hz1 hz2 rfl (by decide) _ _ _ rfl (World.ownsRow.alloc hownp _) ⟨w6.heap.size, 0, none⟩ 1 1 [encStr [112, 97, 116, 104], .string ⟨tx.toArray⟩] rfl rfl ?c1 ?c2 ?c3 ?c4 ?c5 ?_) | fail)
          case c1 => exact fun j u hj => cell_two_new w6 _ _ 27 j u hj
          case c2 => exact one_two _ _
          case c3 => have := HFl.out; have := Hg8.out; unfold maxLen; omega
          case c4 => have := HFl.out; have := Hg8.out; omega
          case c5 => have := Hdv7.out.size; simp; omega
          intro v' w7 hown8 hgrow hnil
          have hown9 : OwnP w7 w3.heap.size v' (F ++ [([112, 97, 116, 104], tx)]) := by
            show w7.ownsRow w3.heap.size _ 2 v' (F ++ [([112, 97, 116, 104], tx)]).length (pairCells (F ++ [([112, 97, 116, 104], tx)]))
            rw [pairCells_append, List.length_append]
            exact hown8
          obtain ⟨av2, cs2, rfl⟩ := hown9.slice
          have hrow : ∀ k, (Value.slice av F.length cs).ownBlock = some k → w3.heap.size ≤ k := fun k hk => (hownp.lt k hk).1
          have h3z := Hg3.out.size
          have hs3z := Hs3.out
          have Hown9 := Lib.hid hown9
          have Hdv9 := Lib.hid ((Hdv7.out.grown (World.grownBy_alloc w6 _ none) (fun k hk => by cases hk)).grown hgrow (fun k hk => .inr (.inr (hrow k hk))))
          have Hrg9 := Lib.hid ((Hrg7.out.alloc _).kept hgrow (by intro e; have := hrow _ e.symm; omega) (by intro e; have := hrow _ e.symm; omega))
          have Hp9 := Lib.hid ((Hp7.out.behind _).grown hgrow (by intro e; have := hrow _ e.symm; omega))
          clear hown8 hgrow hnil hown9 hrow hownp
          have Hl9 := Lib.hid (show w7.rangeLeft (w1.heap.size + 1) w2.heap.size < wr.rangeLeft (w1.heap.size + 1) w2.heap.size by rw [Hrg9.out.left_eq, Hrl.out]; exact Hlt.out)
          go_wp2
          go_roundw
          case rel => exact ⟨_, cnt4, F ++ [([112, 97, 116, 104], tx)], av2, cs2, rfl, HFn.out, Hown9.out, Hrg9.out, Hp9.out, Hdv9.out⟩
          case measure => exact Hl9.out
      · unfold numField at hen
        have Hst := Lib.hid (Holds.new w4 85 [.nilFunc, .nilFunc, .nilFunc])
        have Hone := Lib.hid (show #[Value.func (.func 128) #[] #[.pointer (some ⟨t.s, 0, none⟩)], Value.func (.func 130) #[] #[.pointer (some ⟨t.s, 0, none⟩)], Value.func (.func 132) #[] #[.pointer (some ⟨t.s, 0, none⟩)]].all (·.oneCell') = true by simp [Value.oneCell'])
        have Hs1 := Lib.hid (show (Tryz.prog.info? 85).map (·.size) = some 3 by kernel_rfl)
        have Hp5 := Lib.hid (Hp4.out.behind (.cells #[Value.func (.func 128) #[] #[.pointer (some ⟨t.s, 0, none⟩)], Value.func (.func 130) #[] #[.pointer (some ⟨t.s, 0, none⟩)], Value.func (.func 132) #[] #[.pointer (some ⟨t.s, 0, none⟩)]] 85))
        have Hgn := Lib.hid (dvGone_Size Hlk.out)
        obtain ⟨e0, hok, hln, hfi, hpe⟩ := dvPut_Size Hdv0.out Hlk.out
        have Hfit := Lib.hid (fitSize_any MC Hlm.out (dvHd m n left) { dvHd m n left with size := n } 0 n MSize.out (by rw [← e0]; rfl) rfl (by rw [← e0]; rfl) hok hln w1.heap.size t.s _ Hp5.out (Htb.out.2.2.2.2.1.behind _))
        rw [hpe, hfi] at Hfit
        clear e0 hok hln hfi hpe
        have hHd := Lib.hid (show dvHd m n (leftOut left [115, 105, 122, 101]) = dvHd m n (leftOut left [115, 105, 122, 101]) from rfl)
        generalize hDE : dvHd m n (leftOut left [115, 105, 122, 101]) = DE at Hfit
        have HDE := Lib.hid hDE
        clear hDE hHd
        cases hfi : dvFits m n [115, 105, 122, 101] with
        | true =>
          rw [hfi] at Hfit
          have HFn := Lib.hid (HF.out.keep hfi Hgn.out)
          go_wp2_with (first
            | (refine wpList_store_row (by rfl) 85 _ _ (by rfl) w4.heap.size #[Value.func (.func 128) #[] #[.pointer (some ⟨t.s, 0, none⟩)], Value.func (.func 130) #[] #[.pointer (some ⟨t.s, 0, none⟩)], Value.func (.func 132) #[] #[.pointer (some ⟨t.s, 0, none⟩)]] (by rfl) (by rfl) 85 #[.nilFunc, .nilFunc, .nilFunc] Hst.out Hs1.out (by rfl) Hone.out ?_; rw [World.setRow_alloc_new])
            | fail)
          refine Hfit.out.mono ?_
          rintro e w5 ⟨g5, hp5, rfl⟩
          have Hgr := Lib.hid (grown_trans (World.grownBy_alloc w4 _ (some w1.heap.size)) g5)
          have Hp6 := Lib.hid (show Holds w5 w1.heap.size 78 (MC ++ (dvHd m n (leftOut left [115, 105, 122, 101])).cells) by rw [HDE.out]; exact hp5)
          have Hdv6 := Lib.hid (Hdv4.out.grown Hgr.out (fun k hk => by cases hk; exact .inl rfl))
          have Hrg6 := Lib.hid (Hrg4.out.kept Hgr.out (by intro e; injection e with e; omega) (by intro e; injection e with e; omega))
          have Hown6 := Lib.hid (World.ownsRow.kept Hown4.out Hgr.out (by
            rcases hv2 : (Value.slice av F.length cs).ownBlock with _ | g
            · exact .inl rfl
            · right
              have := (Hown4.out.lt g hv2).1
              have := Hs3.out
              have := Hg3.out.size
              intro e
              injection e with e
              omega))
          clear hp5 g5 HDE
          have Hl6 := Lib.hid (show w5.rangeLeft (w1.heap.size + 1) w2.heap.size < wr.rangeLeft (w1.heap.size + 1) w2.heap.size by rw [Hrg6.out.left_eq, Hrl.out]; exact Hlt.out)
          go_wp2
          go_roundw
          case rel => exact ⟨_, cnt4, F, av, cs, rfl, HFn.out, Hown6.out, Hrg6.out, Hp6.out, Hdv6.out⟩
          case measure => exact Hl6.out
        | false =>
          rw [hfi] at Hfit
          have HFn := Lib.hid (HF.out.add (t := Lib.decDigits n.toNat) Hlk.out (by unfold dvAll; simp) hfi Hgn.out)
          go_wp2_with (first
            | (refine wpList_store_row (by rfl) 85 _ _ (by rfl) w4.heap.size #[Value.func (.func 128) #[] #[.pointer (some ⟨t.s, 0, none⟩)], Value.func (.func 130) #[] #[.pointer (some ⟨t.s, 0, none⟩)], Value.func (.func 132) #[] #[.pointer (some ⟨t.s, 0, none⟩)]] (by rfl) (by rfl) 85 #[.nilFunc, .nilFunc, .nilFunc] Hst.out Hs1.out (by rfl) Hone.out ?_; rw [World.setRow_alloc_new])
            | fail)
          refine Hfit.out.mono ?_
          rintro e w5 ⟨g5, hp5, rfl⟩
          have Hb5 := Lib.hid (show Holds w5 w4.heap.size 85 [Value.func (.func 128) #[] #[.pointer (some ⟨t.s, 0, none⟩)], Value.func (.func 130) #[] #[.pointer (some ⟨t.s, 0, none⟩)], Value.func (.func 132) #[] #[.pointer (some ⟨t.s, 0, none⟩)]] from (Holds.new w4 _ _).grown g5 (by have := Hp4.out.lt; intro e; injection e with e; omega))
          have c5 := Hb5.out.at (i := 1) (v := Value.func (.func 130) #[] #[.pointer (some ⟨t.s, 0, none⟩)]) rfl
          have Hgr := Lib.hid (grown_trans (World.grownBy_alloc w4 _ (some w1.heap.size)) g5)
          have Hp6 := Lib.hid (show Holds w5 w1.heap.size 78 (MC ++ (dvHd m n (leftOut left [115, 105, 122, 101])).cells) by rw [HDE.out]; exact hp5)
          have Hdv6 := Lib.hid (Hdv4.out.grown Hgr.out (fun k hk => by cases hk; exact .inl rfl))
          have Hrg6 := Lib.hid (Hrg4.out.kept Hgr.out (by intro e; injection e with e; omega) (by intro e; injection e with e; omega))
          have Hown6 := Lib.hid (World.ownsRow.kept Hown4.out Hgr.out (by
            rcases hv2 : (Value.slice av F.length cs).ownBlock with _ | g
            · exact .inl rfl
            · right
              have := (Hown4.out.lt g hv2).1
              have := Hs3.out
              have := Hg3.out.size
              intro e
              injection e with e
              omega))
          clear hp5 g5 HDE
          have Htb5 := Lib.hid (Ht3b.out w5 Hdv6.out)
          have Htc := Lib.hid (textSize_any MC _ n MSize.out (Hdv0.out.size.1) (by have := Hdv0.out.size.2; omega) w1.heap.size t.s w5 Hp6.out (Htb5.out.2.2.2.2.1) (Ht.out.below (Hdv6.out.below H3b.out (by omega) (by omega)) (Nat.le_refl _)))
          have Hfi := Lib.hid hfi
          generalize htx : Lib.decDigits n.toNat = tx at *
          clear htx
          go_wp2_with (fail)
          refine Htc.out.mono ?_
          rintro e w6 ⟨hb6, rfl⟩
          have Hp7 := Lib.hid (Hp6.out.under hb6 Hp6.out.lt)
          have Hgb := Lib.hid (grown_below hb6 none)
          have Hdv7 := Lib.hid (Hdv6.out.grown Hgb.out (fun k hk => by cases hk))
          have Hrg7 := Lib.hid (Hrg6.out.kept Hgb.out (by simp) (by simp))
          have hownp : OwnP w6 w3.heap.size (.slice av F.length cs) F := OwnP.step Hown6.out hb6
          have HFl := Lib.hid (HF.out.2.2)
          have Hg8 := Lib.hid (dvGone_le left)
          clear hb6
          obtain ⟨i0, hi, hz0, hz1, hz2⟩ := info_parts zero_pair
          go_wp2_with (first | (at_builtin; refine wpList_append_own _ rfl _ _ 22 rfl w3.heap.size 27 i0 (.agg #[.string ⟨#[]⟩, .string ⟨#[]⟩]) 2 32 Tryz.underlying22 hi hz0 hz1 hz2 rfl (by decide) _ _ _ rfl (World.ownsRow.alloc hownp _) ⟨w6.heap.size, 0, none⟩ 1 1 [encStr [115, 105, 122, 101], .string ⟨tx.toArray⟩] rfl rfl ?c1 ?c2 ?c3 ?c4 ?c5 ?_) | fail)
          case c1 => exact fun j u hj => cell_two_new w6 _ _ 27 j u hj
          case c2 => exact one_two _ _
          case c3 => have := HFl.out; have := Hg8.out; unfold maxLen; omega
          case c4 => have := HFl.out; have := Hg8.out; omega
          case c5 => have := Hdv7.out.size; simp; omega
          intro v' w7 hown8 hgrow hnil
          have hown9 : OwnP w7 w3.heap.size v' (F ++ [([115, 105, 122, 101], tx)]) := by
            show w7.ownsRow w3.heap.size _ 2 v' (F ++ [([115, 105, 122, 101], tx)]).length (pairCells (F ++ [([115, 105, 122, 101], tx)]))
            rw [pairCells_append, List.length_append]
            exact hown8
          obtain ⟨av2, cs2, rfl⟩ := hown9.slice
          have hrow : ∀ k, (Value.slice av F.length cs).ownBlock = some k → w3.heap.size ≤ k := fun k hk => (hownp.lt k hk).1
          have h3z := Hg3.out.size
          have hs3z := Hs3.out
          have Hown9 := Lib.hid hown9
          have Hdv9 := Lib.hid ((Hdv7.out.grown (World.grownBy_alloc w6 _ none) (fun k hk => by cases hk)).grown hgrow (fun k hk => .inr (.inr (hrow k hk))))
          have Hrg9 := Lib.hid ((Hrg7.out.alloc _).kept hgrow (by intro e; have := hrow _ e.symm; omega) (by intro e; have := hrow _ e.symm; omega))
          have Hp9 := Lib.hid ((Hp7.out.behind _).grown hgrow (by intro e; have := hrow _ e.symm; omega))
          clear hown8 hgrow hnil hown9 hrow hownp
          have Hl9 := Lib.hid (show w7.rangeLeft (w1.heap.size + 1) w2.heap.size < wr.rangeLeft (w1.heap.size + 1) w2.heap.size by rw [Hrg9.out.left_eq, Hrl.out]; exact Hlt.out)
          go_wp2
          go_roundw
          case rel => exact ⟨_, cnt4, F ++ [([115, 105, 122, 101], tx)], av2, cs2, rfl, HFn.out, Hown9.out, Hrg9.out, Hp9.out, Hdv9.out⟩
          case measure => exact Hl9.out
      · unfold numField at hen
        have Hst := Lib.hid (Holds.new w4 85 [.nilFunc, .nilFunc, .nilFunc])
        have Hone := Lib.hid (show #[Value.func (.func 128) #[] #[.pointer (some ⟨t.u, 0, none⟩)], Value.func (.func 130) #[] #[.pointer (some ⟨t.u, 0, none⟩)], Value.func (.func 132) #[] #[.pointer (some ⟨t.u, 0, none⟩)]].all (·.oneCell') = true by simp [Value.oneCell'])
        have Hs1 := Lib.hid (show (Tryz.prog.info? 85).map (·.size) = some 3 by kernel_rfl)
        have Hp5 := Lib.hid (Hp4.out.behind (.cells #[Value.func (.func 128) #[] #[.pointer (some ⟨t.u, 0, none⟩)], Value.func (.func 130) #[] #[.pointer (some ⟨t.u, 0, none⟩)], Value.func (.func 132) #[] #[.pointer (some ⟨t.u, 0, none⟩)]] 85))
        have Hgn := Lib.hid (dvGone_Uid Hlk.out)
        obtain ⟨e0, hok, hln, hfi, hpe⟩ := dvPut_Uid Hdv0.out Hlk.out
        have Hfit := Lib.hid (fitUid_any MC Hlm.out (dvHd m n left) { dvHd m n left with uid := m.uid } 0 m.uid MUid.out (by rw [← e0]; rfl) rfl (by rw [← e0]; rfl) hok hln w1.heap.size t.u _ Hp5.out (Htb.out.2.2.2.2.2.1.behind _))
        rw [hpe, hfi] at Hfit
        clear e0 hok hln hfi hpe
        have hHd := Lib.hid (show dvHd m n (leftOut left [117, 105, 100]) = dvHd m n (leftOut left [117, 105, 100]) from rfl)
        generalize hDE : dvHd m n (leftOut left [117, 105, 100]) = DE at Hfit
        have HDE := Lib.hid hDE
        clear hDE hHd
        cases hfi : dvFits m n [117, 105, 100] with
        | true =>
          rw [hfi] at Hfit
          have HFn := Lib.hid (HF.out.keep hfi Hgn.out)
          go_wp2_with (first
            | (refine wpList_store_row (by rfl) 85 _ _ (by rfl) w4.heap.size #[Value.func (.func 128) #[] #[.pointer (some ⟨t.u, 0, none⟩)], Value.func (.func 130) #[] #[.pointer (some ⟨t.u, 0, none⟩)], Value.func (.func 132) #[] #[.pointer (some ⟨t.u, 0, none⟩)]] (by rfl) (by rfl) 85 #[.nilFunc, .nilFunc, .nilFunc] Hst.out Hs1.out (by rfl) Hone.out ?_; rw [World.setRow_alloc_new])
            | fail)
          refine Hfit.out.mono ?_
          rintro e w5 ⟨g5, hp5, rfl⟩
          have Hgr := Lib.hid (grown_trans (World.grownBy_alloc w4 _ (some w1.heap.size)) g5)
          have Hp6 := Lib.hid (show Holds w5 w1.heap.size 78 (MC ++ (dvHd m n (leftOut left [117, 105, 100])).cells) by rw [HDE.out]; exact hp5)
          have Hdv6 := Lib.hid (Hdv4.out.grown Hgr.out (fun k hk => by cases hk; exact .inl rfl))
          have Hrg6 := Lib.hid (Hrg4.out.kept Hgr.out (by intro e; injection e with e; omega) (by intro e; injection e with e; omega))
          have Hown6 := Lib.hid (World.ownsRow.kept Hown4.out Hgr.out (by
            rcases hv2 : (Value.slice av F.length cs).ownBlock with _ | g
            · exact .inl rfl
            · right
              have := (Hown4.out.lt g hv2).1
              have := Hs3.out
              have := Hg3.out.size
              intro e
              injection e with e
              omega))
          clear hp5 g5 HDE
          have Hl6 := Lib.hid (show w5.rangeLeft (w1.heap.size + 1) w2.heap.size < wr.rangeLeft (w1.heap.size + 1) w2.heap.size by rw [Hrg6.out.left_eq, Hrl.out]; exact Hlt.out)
          go_wp2
          go_roundw
          case rel => exact ⟨_, cnt4, F, av, cs, rfl, HFn.out, Hown6.out, Hrg6.out, Hp6.out, Hdv6.out⟩
          case measure => exact Hl6.out
        | false =>
          rw [hfi] at Hfit
          have HFn := Lib.hid (HF.out.add (t := Lib.decDigits m.uid.toNat) Hlk.out (by unfold dvAll; simp) hfi Hgn.out)
          go_wp2_with (first
            | (refine wpList_store_row (by rfl) 85 _ _ (by rfl) w4.heap.size #[Value.func (.func 128) #[] #[.pointer (some ⟨t.u, 0, none⟩)], Value.func (.func 130) #[] #[.pointer (some ⟨t.u, 0, none⟩)], Value.func (.func 132) #[] #[.pointer (some ⟨t.u, 0, none⟩)]] (by rfl) (by rfl) 85 #[.nilFunc, .nilFunc, .nilFunc] Hst.out Hs1.out (by rfl) Hone.out ?_; rw [World.setRow_alloc_new])
            | fail)
          refine Hfit.out.mono ?_
          rintro e w5 ⟨g5, hp5, rfl⟩
          have Hb5 := Lib.hid (show Holds w5 w4.heap.size 85 [Value.func (.func 128) #[] #[.pointer (some ⟨t.u, 0, none⟩)], Value.func (.func 130) #[] #[.pointer (some ⟨t.u, 0, none⟩)], Value.func (.func 132) #[] #[.pointer (some ⟨t.u, 0, none⟩)]] from (Holds.new w4 _ _).grown g5 (by have := Hp4.out.lt; intro e; injection e with e; omega))
          have c5 := Hb5.out.at (i := 1) (v := Value.func (.func 130) #[] #[.pointer (some ⟨t.u, 0, none⟩)]) rfl
          have Hgr := Lib.hid (grown_trans (World.grownBy_alloc w4 _ (some w1.heap.size)) g5)
          have Hp6 := Lib.hid (show Holds w5 w1.heap.size 78 (MC ++ (dvHd m n (leftOut left [117, 105, 100])).cells) by rw [HDE.out]; exact hp5)
          have Hdv6 := Lib.hid (Hdv4.out.grown Hgr.out (fun k hk => by cases hk; exact .inl rfl))
          have Hrg6 := Lib.hid (Hrg4.out.kept Hgr.out (by intro e; injection e with e; omega) (by intro e; injection e with e; omega))
          have Hown6 := Lib.hid (World.ownsRow.kept Hown4.out Hgr.out (by
            rcases hv2 : (Value.slice av F.length cs).ownBlock with _ | g
            · exact .inl rfl
            · right
              have := (Hown4.out.lt g hv2).1
              have := Hs3.out
              have := Hg3.out.size
              intro e
              injection e with e
              omega))
          clear hp5 g5 HDE
          have Htb5 := Lib.hid (Ht3b.out w5 Hdv6.out)
          have Htc := Lib.hid (textUid_any MC _ m.uid MUid.out (Hdv0.out.uid.1) (by have := Hdv0.out.uid.2; omega) w1.heap.size t.u w5 Hp6.out (Htb5.out.2.2.2.2.2.1) (Ht.out.below (Hdv6.out.below H3b.out (by omega) (by omega)) (Nat.le_refl _)))
          have Hfi := Lib.hid hfi
          generalize htx : Lib.decDigits m.uid.toNat = tx at *
          clear htx
          go_wp2_with (fail)
          refine Htc.out.mono ?_
          rintro e w6 ⟨hb6, rfl⟩
          have Hp7 := Lib.hid (Hp6.out.under hb6 Hp6.out.lt)
          have Hgb := Lib.hid (grown_below hb6 none)
          have Hdv7 := Lib.hid (Hdv6.out.grown Hgb.out (fun k hk => by cases hk))
          have Hrg7 := Lib.hid (Hrg6.out.kept Hgb.out (by simp) (by simp))
          have hownp : OwnP w6 w3.heap.size (.slice av F.length cs) F := OwnP.step Hown6.out hb6
          have HFl := Lib.hid (HF.out.2.2)
          have Hg8 := Lib.hid (dvGone_le left)
          clear hb6
          obtain ⟨i0, hi, hz0, hz1, hz2⟩ := info_parts zero_pair
          go_wp2_with (first | (at_builtin; refine wpList_append_own _ rfl _ _ 22 rfl w3.heap.size 27 i0 (.agg #[.string ⟨#[]⟩, .string ⟨#[]⟩]) 2 32 Tryz.underlying22 hi hz0 hz1 hz2 rfl (by decide) _ _ _ rfl (World.ownsRow.alloc hownp _) ⟨w6.heap.size, 0, none⟩ 1 1 [encStr [117, 105, 100], .string ⟨tx.toArray⟩] rfl rfl ?c1 ?c2 ?c3 ?c4 ?c5 ?_) | fail)
          case c1 => exact fun j u hj => cell_two_new w6 _ _ 27 j u hj
          case c2 => exact one_two _ _
          case c3 => have := HFl.out; have := Hg8.out; unfold maxLen; omega
          case c4 => have := HFl.out; have := Hg8.out; omega
          case c5 => have := Hdv7.out.size; simp; omega
          intro v' w7 hown8 hgrow hnil
          have hown9 : OwnP w7 w3.heap.size v' (F ++ [([117, 105, 100], tx)]) := by
            show w7.ownsRow w3.heap.size _ 2 v' (F ++ [([117, 105, 100], tx)]).length (pairCells (F ++ [([117, 105, 100], tx)]))
            rw [pairCells_append, List.length_append]
            exact hown8
          obtain ⟨av2, cs2, rfl⟩ := hown9.slice
          have hrow : ∀ k, (Value.slice av F.length cs).ownBlock = some k → w3.heap.size ≤ k := fun k hk => (hownp.lt k hk).1
          have h3z := Hg3.out.size
          have hs3z := Hs3.out
          have Hown9 := Lib.hid hown9
          have Hdv9 := Lib.hid ((Hdv7.out.grown (World.grownBy_alloc w6 _ none) (fun k hk => by cases hk)).grown hgrow (fun k hk => .inr (.inr (hrow k hk))))
          have Hrg9 := Lib.hid ((Hrg7.out.alloc _).kept hgrow (by intro e; have := hrow _ e.symm; omega) (by intro e; have := hrow _ e.symm; omega))
          have Hp9 := Lib.hid ((Hp7.out.behind _).grown hgrow (by intro e; have := hrow _ e.symm; omega))
          clear hown8 hgrow hnil hown9 hrow hownp
          have Hl9 := Lib.hid (show w7.rangeLeft (w1.heap.size + 1) w2.heap.size < wr.rangeLeft (w1.heap.size + 1) w2.heap.size by rw [Hrg9.out.left_eq, Hrl.out]; exact Hlt.out)
          go_wp2
          go_roundw
          case rel => exact ⟨_, cnt4, F ++ [([117, 105, 100], tx)], av2, cs2, rfl, HFn.out, Hown9.out, Hrg9.out, Hp9.out, Hdv9.out⟩
          case measure => exact Hl9.out
      · unfold texField at hen
        have Hst := Lib.hid (Holds.new w4 85 [.nilFunc, .nilFunc, .nilFunc])
        have Hone := Lib.hid (show #[Value.func (.func 134) #[] #[.pointer (some ⟨t.un, 0, none⟩)], Value.func (.func 136) #[] #[.pointer (some ⟨t.un, 0, none⟩)], Value.func (.func 137) #[] #[.pointer (some ⟨t.un, 0, none⟩)]].all (·.oneCell') = true by simp [Value.oneCell'])
        have Hs1 := Lib.hid (show (Tryz.prog.info? 85).map (·.size) = some 3 by kernel_rfl)
        have Hp5 := Lib.hid (Hp4.out.behind (.cells #[Value.func (.func 134) #[] #[.pointer (some ⟨t.un, 0, none⟩)], Value.func (.func 136) #[] #[.pointer (some ⟨t.un, 0, none⟩)], Value.func (.func 137) #[] #[.pointer (some ⟨t.un, 0, none⟩)]] 85))
        have Hgn := Lib.hid (dvGone_Uname Hlk.out)
        obtain ⟨e0, hok, hln, hfi, hpe⟩ := dvPut_Uname Hdv0.out Hlk.out
        have Hfit := Lib.hid (fitUname_any MC Hlm.out (dvHd m n left) { dvHd m n left with uname := m.uname } [] m.uname MUname.out (by rw [← e0]; rfl) rfl (by rw [← e0]; rfl) hok hln w1.heap.size t.un _ Hp5.out (Htb.out.2.2.2.2.2.2.behind _))
        rw [hpe, hfi] at Hfit
        clear e0 hok hln hfi hpe
        have hHd := Lib.hid (show dvHd m n (leftOut left [117, 110, 97, 109, 101]) = dvHd m n (leftOut left [117, 110, 97, 109, 101]) from rfl)
        generalize hDE : dvHd m n (leftOut left [117, 110, 97, 109, 101]) = DE at Hfit
        have HDE := Lib.hid hDE
        clear hDE hHd
        cases hfi : dvFits m n [117, 110, 97, 109, 101] with
        | true =>
          rw [hfi] at Hfit
          have HFn := Lib.hid (HF.out.keep hfi Hgn.out)
          go_wp2_with (first
            | (refine wpList_store_row (by rfl) 85 _ _ (by rfl) w4.heap.size #[Value.func (.func 134) #[] #[.pointer (some ⟨t.un, 0, none⟩)], Value.func (.func 136) #[] #[.pointer (some ⟨t.un, 0, none⟩)], Value.func (.func 137) #[] #[.pointer (some ⟨t.un, 0, none⟩)]] (by rfl) (by rfl) 85 #[.nilFunc, .nilFunc, .nilFunc] Hst.out Hs1.out (by rfl) Hone.out ?_; rw [World.setRow_alloc_new])
            | fail)
          refine Hfit.out.mono ?_
          rintro e w5 ⟨g5, hp5, rfl⟩
          have Hgr := Lib.hid (grown_trans (World.grownBy_alloc w4 _ (some w1.heap.size)) g5)
          have Hp6 := Lib.hid (show Holds w5 w1.heap.size 78 (MC ++ (dvHd m n (leftOut left [117, 110, 97, 109, 101])).cells) by rw [HDE.out]; exact hp5)
          have Hdv6 := Lib.hid (Hdv4.out.grown Hgr.out (fun k hk => by cases hk; exact .inl rfl))
          have Hrg6 := Lib.hid (Hrg4.out.kept Hgr.out (by intro e; injection e with e; omega) (by intro e; injection e with e; omega))
          have Hown6 := Lib.hid (World.ownsRow.kept Hown4.out Hgr.out (by
            rcases hv2 : (Value.slice av F.length cs).ownBlock with _ | g
            · exact .inl rfl
            · right
              have := (Hown4.out.lt g hv2).1
              have := Hs3.out
              have := Hg3.out.size
              intro e
              injection e with e
              omega))
          clear hp5 g5 HDE
          have Hl6 := Lib.hid (show w5.rangeLeft (w1.heap.size + 1) w2.heap.size < wr.rangeLeft (w1.heap.size + 1) w2.heap.size by rw [Hrg6.out.left_eq, Hrl.out]; exact Hlt.out)
          go_wp2
          go_roundw
          case rel => exact ⟨_, cnt4, F, av, cs, rfl, HFn.out, Hown6.out, Hrg6.out, Hp6.out, Hdv6.out⟩
          case measure => exact Hl6.out
        | false =>
          rw [hfi] at Hfit
          have HFn := Lib.hid (HF.out.add (t := m.uname) Hlk.out (by unfold dvAll; simp) hfi Hgn.out)
          go_wp2_with (first
            | (refine wpList_store_row (by rfl) 85 _ _ (by rfl) w4.heap.size #[Value.func (.func 134) #[] #[.pointer (some ⟨t.un, 0, none⟩)], Value.func (.func 136) #[] #[.pointer (some ⟨t.un, 0, none⟩)], Value.func (.func 137) #[] #[.pointer (some ⟨t.un, 0, none⟩)]] (by rfl) (by rfl) 85 #[.nilFunc, .nilFunc, .nilFunc] Hst.out Hs1.out (by rfl) Hone.out ?_; rw [World.setRow_alloc_new])
            | fail)
          refine Hfit.out.mono ?_
          rintro e w5 ⟨g5, hp5, rfl⟩
          have Hb5 := Lib.hid (show Holds w5 w4.heap.size 85 [Value.func (.func 134) #[] #[.pointer (some ⟨t.un, 0, none⟩)], Value.func (.func 136) #[] #[.pointer (some ⟨t.un, 0, none⟩)], Value.func (.func 137) #[] #[.pointer (some ⟨t.un, 0, none⟩)]] from (Holds.new w4 _ _).grown g5 (by have := Hp4.out.lt; intro e; injection e with e; omega))
          have c5 := Hb5.out.at (i := 1) (v := Value.func (.func 136) #[] #[.pointer (some ⟨t.un, 0, none⟩)]) rfl
          have Hgr := Lib.hid (grown_trans (World.grownBy_alloc w4 _ (some w1.heap.size)) g5)
          have Hp6 := Lib.hid (show Holds w5 w1.heap.size 78 (MC ++ (dvHd m n (leftOut left [117, 110, 97, 109, 101])).cells) by rw [HDE.out]; exact hp5)
          have Hdv6 := Lib.hid (Hdv4.out.grown Hgr.out (fun k hk => by cases hk; exact .inl rfl))
          have Hrg6 := Lib.hid (Hrg4.out.kept Hgr.out (by intro e; injection e with e; omega) (by intro e; injection e with e; omega))
          have Hown6 := Lib.hid (World.ownsRow.kept Hown4.out Hgr.out (by
            rcases hv2 : (Value.slice av F.length cs).ownBlock with _ | g
            · exact .inl rfl
            · right
              have := (Hown4.out.lt g hv2).1
              have := Hs3.out
              have := Hg3.out.size
              intro e
              injection e with e
              omega))
          clear hp5 g5 HDE
          have Htb5 := Lib.hid (Ht3b.out w5 Hdv6.out)
          have Htc := Lib.hid (textUname_any MC _ m.uname MUname.out w1.heap.size t.un w5 Hp6.out (Htb5.out.2.2.2.2.2.2))
          have Hfi := Lib.hid hfi
          generalize htx : m.uname = tx at *
          clear htx
          go_wp2_with (fail)
          refine Htc.out.mono ?_
          rintro e w6 ⟨hb6, rfl⟩
          have Hp7 := Lib.hid (Hp6.out.under hb6 Hp6.out.lt)
          have Hgb := Lib.hid (grown_below hb6 none)
          have Hdv7 := Lib.hid (Hdv6.out.grown Hgb.out (fun k hk => by cases hk))
          have Hrg7 := Lib.hid (Hrg6.out.kept Hgb.out (by simp) (by simp))
          have hownp : OwnP w6 w3.heap.size (.slice av F.length cs) F := OwnP.step Hown6.out hb6
          have HFl := Lib.hid (HF.out.2.2)
          have Hg8 := Lib.hid (dvGone_le left)
          clear hb6
          obtain ⟨i0, hi, hz0, hz1, hz2⟩ := info_parts zero_pair
          go_wp2_with (first | (at_builtin; refine wpList_append_own _ rfl _ _ 22 rfl w3.heap.size 27 i0 (.agg #[.string ⟨#[]⟩, .string ⟨#[]⟩]) 2 32 Tryz.underlying22 hi hz0 hz1 hz2 rfl (by decide) _ _ _ rfl (World.ownsRow.alloc hownp _) ⟨w6.heap.size, 0, none⟩ 1 1 [encStr [117, 110, 97, 109, 101], .string ⟨tx.toArray⟩] rfl rfl ?c1 ?c2 ?c3 ?c4 ?c5 ?_) | fail)
          case c1 => exact fun j u hj => cell_two_new w6 _ _ 27 j u hj
          case c2 => exact one_two _ _
          case c3 => have := HFl.out; have := Hg8.out; unfold maxLen; omega
          case c4 => have := HFl.out; have := Hg8.out; omega
          case c5 => have := Hdv7.out.size; simp; omega
          intro v' w7 hown8 hgrow hnil
          have hown9 : OwnP w7 w3.heap.size v' (F ++ [([117, 110, 97, 109, 101], tx)]) := by
            show w7.ownsRow w3.heap.size _ 2 v' (F ++ [([117, 110, 97, 109, 101], tx)]).length (pairCells (F ++ [([117, 110, 97, 109, 101], tx)]))
            rw [pairCells_append, List.length_append]
            exact hown8
          obtain ⟨av2, cs2, rfl⟩ := hown9.slice
          have hrow : ∀ k, (Value.slice av F.length cs).ownBlock = some k → w3.heap.size ≤ k := fun k hk => (hownp.lt k hk).1
          have h3z := Hg3.out.size
          have hs3z := Hs3.out
          have Hown9 := Lib.hid hown9
          have Hdv9 := Lib.hid ((Hdv7.out.grown (World.grownBy_alloc w6 _ none) (fun k hk => by cases hk)).grown hgrow (fun k hk => .inr (.inr (hrow k hk))))
          have Hrg9 := Lib.hid ((Hrg7.out.alloc _).kept hgrow (by intro e; have := hrow _ e.symm; omega) (by intro e; have := hrow _ e.symm; omega))
          have Hp9 := Lib.hid ((Hp7.out.behind _).grown hgrow (by intro e; have := hrow _ e.symm; omega))
          clear hown8 hgrow hnil hown9 hrow hownp
          have Hl9 := Lib.hid (show w7.rangeLeft (w1.heap.size + 1) w2.heap.size < wr.rangeLeft (w1.heap.size + 1) w2.heap.size by rw [Hrg9.out.left_eq, Hrl.out]; exact Hlt.out)
          go_wp2
          go_roundw
          case rel => exact ⟨_, cnt4, F ++ [([117, 110, 97, 109, 101], tx)], av2, cs2, rfl, HFn.out, Hown9.out, Hrg9.out, Hp9.out, Hdv9.out⟩
          case measure => exact Hl9.out
end Go.Proofs.YtjmmecokfijglaaGreatDoor
