/-
  Texts of this seat's proof, joined: their order is that of the build.
-/
import Derived.Test.YtjmmecokfijglaaGreatDoorJ22
import Derived.Deep.CutBlock
import Derived.Deep.AppendLies
import Derived.Deep.DeepCutAuto
namespace Go.Proofs.YtjmmecokfijglaaGreatDoor
open Go.ChangeShapes Go.WideShapes Go.ChangeAt Go.RowKit Go.Maps

def m0Of (h : Hd) : Mb := ⟨h.name, h.link, h.kind, h.mode, h.uid, h.gid, h.uname, h.gname, h.major, h.minor, 0, 0, .slice none 0 0, []⟩
theorem builtRp (nm lk un gn : List UInt8) (kd md ui gi sz tm mj mi fm : Int) : Tryz.prog.built 34 [(0, .string ⟨nm.toArray⟩), (1, .string ⟨lk.toArray⟩), (2, .int .u8 kd), (3, .int .i64 md), (4, .int .i64 ui), (5, .int .i64 gi), (6, .string ⟨un.toArray⟩), (7, .string ⟨gn.toArray⟩), (8, .int .i64 mj), (9, .int .i64 mi)] = some (m0Of ⟨nm, lk, kd, md, ui, gi, sz, tm, un, gn, mj, mi, fm⟩).cells.toArray := by kernel_rfl

set_option maxRecDepth 100000 in
set_option maxHeartbeats 4000000 in
theorem refApply_any (h : Hd) (l : List Pr) (al : Option Addr) (cl : Nat) (w : World) (hl : PairsIn w (.slice al l.length cl) l) (hfl : prFits 2000 l) (hlen : l.length ≤ 4398046511104) :
    Calls Tryz.prog 14 #[h.val, .slice al l.length cl] w fun e w' => ApPost w (apRun l (mOf h) h.size []) e w' := by
  have Hl := Lib.hid (show ∀ k (hk : k < l.length), ∃ b o, al = some ⟨b, o, none⟩ ∧ b < w.heap.size ∧ w.cell? ⟨b, o + k * 2, none⟩ = some (.string ⟨l[k].1.toArray⟩) ∧ w.cell? ⟨b, o + k * 2 + 1, none⟩ = some (.string ⟨l[k].2.toArray⟩) by
    intro k hk
    obtain ⟨ad, cap, hv, h⟩ := hl
    cases hv
    rcases h with rfl | ⟨b, o, ha, hb, hp⟩
    · simp at hk
    · exact ⟨b, o, ha, hb, hp k hk⟩)
  have Hfl := Lib.hid hfl
  have Hlen := Lib.hid hlen
  have hz := (zero_of_info infoMb).1
  have HR0 := Lib.hid (show apRun (l.drop 0) (mOf h) h.size [] = apRun l (mOf h) h.size [] from rfl)
  generalize apRun l (mOf h) h.size [] = R at *
  have Ho := Lib.hid (show Holds ((w.alloc (.cells h.cells.toArray 30)).alloc (.cells mZero.cells.toArray 34)) w.heap.size 30 h.cells from (Holds.new w _ _).behind _)
  have Hz := Lib.hid (show Holds ((w.alloc (.cells h.cells.toArray 30)).alloc (.cells mZero.cells.toArray 34)) (w.heap.size + 1) 34 mZero.cells from by
    have := Holds.new (w.alloc (.cells h.cells.toArray 30)) 34 mZero.cells
    rwa [World.size_alloc] at this)
  have Hb0 := Lib.hid (((Below.refl w.heap.size w).alloc (Nat.le_refl _) (.cells h.cells.toArray 30)).alloc (by simp) (.cells mZero.cells.toArray 34))
  have HbZ := Lib.hid builtZ
  have HmS := Lib.hid (show (m0Of h).cells.set 10 (.int .i64 h.time) = (mOf h).cells from rfl)
  have Hm10 := Lib.hid (show (m0Of h).cells[10]? = some (.int .i64 0) from rfl)
  have Hzn := Lib.hid (show (Tryz.prog.info? 34).map (·.size) = some mZero.cells.toArray.size from mb_size mZero)
  have Hzo := Lib.hid (show mZero.cells.toArray.all (·.oneCell') = true by simp [mZero, Mb.cells, Value.oneCell'])
  have Hmn := Lib.hid (show (Tryz.prog.info? 34).map (·.size) = some (m0Of h).cells.toArray.size from mb_size (m0Of h))
  have Hmo := Lib.hid (show (m0Of h).cells.toArray.all (·.oneCell') = true by simp [m0Of, Mb.cells, Value.oneCell'])
  have Hmz := Lib.hid (show mZero.cells.toArray.size = (m0Of h).cells.toArray.size from rfl)
  have HmE := Lib.hid (show ((mOf h).ex (.slice none 0 0)).cells = (mOf h).cells from rfl)
  clear hl hfl hlen
  obtain ⟨nm, lk, kd, md, ui, gi, sz, tm, un, gn, mj, mi, fm⟩ := h
  have Hba := Lib.hid (builtRp nm lk un gn kd md ui gi sz tm mj mi fm)
  have I0 := Lib.hid (show (Hd.mk nm lk kd md ui gi sz tm un gn mj mi fm).cells[0]? = some (.string ⟨nm.toArray⟩) from rfl)
  have I1 := Lib.hid (show (Hd.mk nm lk kd md ui gi sz tm un gn mj mi fm).cells[1]? = some (.string ⟨lk.toArray⟩) from rfl)
  have I2 := Lib.hid (show (Hd.mk nm lk kd md ui gi sz tm un gn mj mi fm).cells[2]? = some (.int .u8 kd) from rfl)
  have I3 := Lib.hid (show (Hd.mk nm lk kd md ui gi sz tm un gn mj mi fm).cells[3]? = some (.int .i64 md) from rfl)
  have I4 := Lib.hid (show (Hd.mk nm lk kd md ui gi sz tm un gn mj mi fm).cells[4]? = some (.int .i64 ui) from rfl)
  have I5 := Lib.hid (show (Hd.mk nm lk kd md ui gi sz tm un gn mj mi fm).cells[5]? = some (.int .i64 gi) from rfl)
  have I6 := Lib.hid (show (Hd.mk nm lk kd md ui gi sz tm un gn mj mi fm).cells[6]? = some (.int .i64 sz) from rfl)
  have I7 := Lib.hid (show (Hd.mk nm lk kd md ui gi sz tm un gn mj mi fm).cells[7]? = some (.int .i64 tm) from rfl)
  have I8 := Lib.hid (show (Hd.mk nm lk kd md ui gi sz tm un gn mj mi fm).cells[8]? = some (.string ⟨un.toArray⟩) from rfl)
  have I9 := Lib.hid (show (Hd.mk nm lk kd md ui gi sz tm un gn mj mi fm).cells[9]? = some (.string ⟨gn.toArray⟩) from rfl)
  have I10 := Lib.hid (show (Hd.mk nm lk kd md ui gi sz tm un gn mj mi fm).cells[10]? = some (.int .i64 mj) from rfl)
  have I11 := Lib.hid (show (Hd.mk nm lk kd md ui gi sz tm un gn mj mi fm).cells[11]? = some (.int .i64 mi) from rfl)
  simp only [Hd.val] at *
  generalize hC : (Hd.mk nm lk kd md ui gi sz tm un gn mj mi fm).cells = C at *
  generalize hM : mOf (Hd.mk nm lk kd md ui gi sz tm un gn mj mi fm) = M at *
  generalize hM0 : (m0Of (Hd.mk nm lk kd md ui gi sz tm un gn mj mi fm)).cells = M0 at *
  generalize hZ : mZero.cells = Z at *
  have HZ := Lib.hid hZ
  clear hC hM hM0 hZ
  go_enter Tryz.func14, Tryz.ntmps14
  go_upto_region 1 with (fail)
  have Hs1 := Lib.hid (show ((w.alloc (.cells C.toArray 30)).alloc (.cells Z.toArray 34)).heap.size = w.heap.size + 2 by simp)
  generalize (w.alloc (.cells C.toArray 30)).alloc (.cells Z.toArray 34) = w1 at *
  have Hn := Lib.hid (Holds.new w1 34 Z)
  go_upto_region 2 with (first
    | (refine wpList_build_is (by rfl) 34 _ (by rfl) _ _ HbZ.out ?_ ?_; kernel_rfl)
    | (refine wpList_store_row (by rfl) 34 _ _ (by rfl) w1.heap.size Z.toArray (by rfl) (by rfl) _ _ Hn.out Hzn.out (by rfl) Hzo.out ?_; rw [World.setRow_alloc_new])
    | fail)
  have Ho2 := Lib.hid (Ho.out.behind (.cells Z.toArray 34))
  have Hz2 := Lib.hid (Hz.out.behind (.cells Z.toArray 34))
  have Hb2 := Lib.hid (Hb0.out.alloc Hb0.out.size (.cells Z.toArray 34))
  have Hs2 := Lib.hid (show (w1.alloc (.cells Z.toArray 34)).heap.size = w.heap.size + 3 by rw [World.size_alloc, Hs1.out])
  have Hnb := Lib.hid (show w1.heap.size = w.heap.size + 2 from Hs1.out)
  clear Ho Hz Hb0 Hs1
  generalize w1.alloc (.cells Z.toArray 34) = w2 at *
  generalize w1.heap.size = nb at *
  have k0 := Ho2.out.at I0.out
  have k1 := Ho2.out.at I1.out
  have k2 := Ho2.out.at I2.out
  have k3 := Ho2.out.at I3.out
  have k4 := Ho2.out.at I4.out
  have k5 := Ho2.out.at I5.out
  have k8 := Ho2.out.at I8.out
  have k9 := Ho2.out.at I9.out
  have k10 := Ho2.out.at I10.out
  have k11 := Ho2.out.at I11.out
  have Hm := Lib.hid (Holds.new w2 34 Z)
  go_upto_region 3 with (first
    | (refine wpList_build_is (by rfl) 34 _ (by rfl) _ _ Hba.out ?_ ?_; kernel_rfl)
    | (refine wpList_store_row (by rfl) 34 _ _ (by rfl) w2.heap.size M0.toArray (by rfl) (by rfl) _ _ Hm.out Hmn.out (by exact Hmz.out) Hmo.out ?_; rw [World.setRow_alloc_new])
    | fail)
  have Ho3 := Lib.hid (Ho2.out.behind (.cells M0.toArray 34))
  have Hz3 := Lib.hid (Hz2.out.behind (.cells M0.toArray 34))
  have Hn3 := Lib.hid (Hn.out.behind (.cells M0.toArray 34))
  have Hb3 := Lib.hid (Hb2.out.alloc Hb2.out.size (.cells M0.toArray 34))
  have Hp3 := Lib.hid (Holds.new w2 34 M0)
  have Hs3 := Lib.hid (show (w2.alloc (.cells M0.toArray 34)).heap.size = w.heap.size + 4 by rw [World.size_alloc, Hs2.out])
  have Hpb := Lib.hid (show w2.heap.size = w.heap.size + 3 from Hs2.out)
  clear Ho2 Hz2 Hn Hb2 Hs2 Hm k0 k1 k2 k3 k4 k5 k8 k9 k10 k11
  generalize w2.alloc (.cells M0.toArray 34) = w3 at *
  generalize w2.heap.size = pb at *
  have k7 := Ho3.out.at I7.out
  have d10 := Hp3.out.at Hm10.out
  have f10 := Hp3.out.frozen 10
  go_upto_region 4 with (fail)
  have Ho4 := Lib.hid (Ho3.out.grown (grown_setCell w3 ⟨pb, 10, none⟩ (.int .i64 tm)) (fun e => by injection e with e; have := Hpb.out; have e : w.heap.size = pb := e; omega))
  have Hz4 := Lib.hid (Hz3.out.grown (grown_setCell w3 ⟨pb, 10, none⟩ (.int .i64 tm)) (fun e => by injection e with e; have := Hpb.out; have e : w.heap.size + 1 = pb := e; omega))
  have Hn4 := Lib.hid (Hn3.out.grown (grown_setCell w3 ⟨pb, 10, none⟩ (.int .i64 tm)) (fun e => by injection e with e; have := Hpb.out; have := Hnb.out; have e : nb = pb := e; omega))
  have Hp4 := Lib.hid (show Holds (w3.setCell ⟨pb, 10, none⟩ (.int .i64 tm)) pb 34 M.cells by rw [← HmS.out]; exact Hp3.out.put 10 _)
  have Hb4 := Lib.hid (show Below w.heap.size w (w3.setCell ⟨pb, 10, none⟩ (.int .i64 tm)) from Hb3.out.setCell (show w.heap.size ≤ pb by have := Hpb.out; omega) _)
  have Hs4 := Lib.hid (show (w3.setCell ⟨pb, 10, none⟩ (.int .i64 tm)).heap.size = w.heap.size + 4 by rw [← Hs3.out]; simp [World.setCell])
  clear Ho3 Hz3 Hn3 Hp3 Hb3 Hs3 k7 d10 f10
  generalize w3.setCell ⟨pb, 10, none⟩ (.int .i64 tm) = w4 at *
  have k6 := Ho4.out.at I6.out
  go_wp2
  go_loopw [9, 10] (fun s i wr => ∃ (k : Nat) (m : Mb) (n : Int) (L : List Pr) (av : Option Addr) (cs : Nat), s = .int .i64 n ∧ i = .int .i64 k ∧ k ≤ l.length ∧ apRun (l.drop k) m n L = R ∧ L.length ≤ k ∧ OwnP wr w4.heap.size (.slice av L.length cs) L ∧ Holds wr pb 34 (m.ex (.slice av L.length cs)).cells ∧ DvK w4 wr pb pb) (fun _ i _ => l.length - (intOf i).toNat)
  case atStart => exact ⟨0, M, sz, [], none, 0, rfl, rfl, Nat.zero_le _, HR0.out, Nat.le_refl _, World.ownsRow_nil _ _ _ _, by rw [show (M.ex (.slice none ([] : List Pr).length 0)).cells = M.cells from HmE.out]; exact Hp4.out, DvK.refl _ _ _⟩
  case round =>
    obtain ⟨k, m, n, L, av, cs, rfl, rfl, hk, hR, hLl, hown, hp, hdv⟩ := hrel
    have Hown0 := Lib.hid hown
    have Hp := Lib.hid hp
    have Hdv := Lib.hid hdv
    have Hp1 := Lib.hid (show w.heap.size ≤ pb by have := Hpb.out; omega)
    have Hbw := Lib.hid (Hdv.out.below Hb4.out Hp1.out Hp1.out)
    have Hzr := Lib.hid (Hdv.out.holds Hz4.out (by have := Hpb.out; omega) (by have := Hpb.out; omega))
    have Hnr := Lib.hid (Hdv.out.holds Hn4.out (by have := Hpb.out; have := Hnb.out; omega) (by have := Hpb.out; have := Hnb.out; omega))
    have HR := Lib.hid hR
    have HLl := Lib.hid hLl
    clear hown hp hdv hR hLl k6
    by_cases hlt : k < l.length
    · obtain ⟨b, o, rfl, hb0, c1, c2⟩ := Hl.out k hlt
      rw [← Hbw.out.cell (p := ⟨b, o + k * 2, none⟩) hb0] at c1
      rw [← Hbw.out.cell (p := ⟨b, o + k * 2 + 1, none⟩) hb0] at c2
      have hpf := Hfl.out _ (List.getElem_mem hlt)
      have Hok := Lib.hid (show isKnown l[k].1 = true → (apK l[k].1 l[k].2 m n).e = 0 → apRun (l.drop (k + 1)) (apK l[k].1 l[k].2 m n).m (apK l[k].1 l[k].2 m n).n L = R from fun h h0 => (apRun_ok hlt h h0).symm.trans HR.out)
      have Hbad := Lib.hid (show isKnown l[k].1 = true → (apK l[k].1 l[k].2 m n).e ≠ 0 → R = ⟨mZero, 0, [], (apK l[k].1 l[k].2 m n).e⟩ from fun h h0 => HR.out.symm.trans (apRun_bad hlt h h0))
      have Hnew := Lib.hid (show isKnown l[k].1 = false → apRun (l.drop (k + 1)) m n (L ++ [l[k]]) = R from fun h => (apRun_new hlt h).symm.trans HR.out)
      have hkb : (k : Int) ≤ 4398046511104 := by have := Hlen.out; omega
      have hlt2 : (k : Int) < l.length := by omega
      clear HR
      generalize l[k] = p at *
      obtain ⟨x, y⟩ := p
      simp only at c1 c2 hpf Hok Hbad Hnew
      have Hy := Lib.hid (show y.length ≤ 2000 by omega)
      clear hpf
      go_wp2_with (fail)
      go_quiet (fail)
      have Hpq := Lib.hid (show Holds (wr.drewN nq) pb 34 (m.ex (.slice av L.length cs)).cells from Hp.out)
      have Hzq := Lib.hid (show Holds (wr.drewN nq) (w.heap.size + 1) 34 Z from Hzr.out)
      have Hnq := Lib.hid (show Holds (wr.drewN nq) nb 34 Z from Hnr.out)
      have Hdq := Lib.hid (Hdv.out.grown (grown_drewN wr nq none) (by simp))
      have Hoq := Lib.hid (show OwnP (wr.drewN nq) w4.heap.size (.slice av L.length cs) L from Hown0.out.step (below_drewN (Below.refl _ _) nq))
      have Hbq := Lib.hid (show Below w.heap.size w (wr.drewN nq) from below_drewN Hbw.out nq)
      have c1 : (wr.drewN nq).cell? ⟨b, o + k * 2, none⟩ = some (.string ⟨x.toArray⟩) := c1
      have c2 : (wr.drewN nq).cell? ⟨b, o + k * 2 + 1, none⟩ = some (.string ⟨y.toArray⟩) := c2
      clear Hp Hzr Hnr Hdv Hown0 Hbw
      generalize wr.drewN nq = wq at *
      have Hkn := Lib.hid (refKnown_any x wq)
      by_cases hkn : isKnown x = true
      · have hcase : x = [103, 105, 100] ∨ x = [103, 110, 97, 109, 101] ∨ x = [108, 105, 110, 107, 112, 97, 116, 104] ∨ x = [109, 116, 105, 109, 101] ∨ x = [112, 97, 116, 104] ∨ x = [115, 105, 122, 101] ∨ x = [117, 105, 100] ∨ x = [117, 110, 97, 109, 101] := of_decide_eq_true hkn
        rw [hkn] at Hkn
        clear c1 c2
        go_wp2_with (fail)
        refine Hkn.out.mono ?_
        rintro e w' ⟨rfl, rfl⟩
        clear Hkn Hnew
        rcases hcase with rfl | rfl | rfl | rfl | rfl | rfl | rfl | rfl
        · have HA := Lib.hid (apK_gid y m n)
          rw [HA.out] at Hok Hbad
          have Hnum := Lib.hid (refAtNumber_any y wq (by have := Hy.out; unfold maxLen; omega))
          clear HA
          generalize atNum y = Rn at *
          obtain ⟨r, q⟩ := Rn
          simp only at Hok Hbad Hnum
          by_cases h0 : q = 0
          · subst h0
            have Hn := Lib.hid (Hok.out hkn rfl)
            clear Hok Hbad
            go_wp2_with (fail)
            refine Hnum.out.mono ?_
            rintro e w' ⟨rfl, rfl⟩
            have d0 := Hpq.out.at (i := 5) (v := .int .i64 m.gid) rfl
            have f0 := Hpq.out.frozen 5
            go_wp2
            go_roundw
            case rel =>
              refine ⟨k + 1, { m with gid := r }, n, L, av, cs, rfl, by go_num, by omega, Hn.out, by have := HLl.out; omega, ?_, Hpq.out.put 5 _, Hdq.out.grown (grown_setCell wq ⟨pb, 5, none⟩ _) (fun k hk => by cases hk; exact .inl rfl)⟩
              exact (World.ownsRow.kept Hoq.out (grown_setCell wq ⟨pb, 5, none⟩ _) (by
                rcases hv2 : (Value.slice av L.length cs).ownBlock with _ | g
                · exact .inl rfl
                · right
                  have h1 := (Hoq.out.lt g hv2).1
                  have h2 := Hpb.out
                  have h3 := Hs4.out
                  intro e
                  injection e with e
                  have e : g = pb := e
                  omega))
            case measure => simp [intOf]; omega
          · have e0 : (q == 0) = false := by simpa using h0
            have e1 : (q != 0) = true := by simpa using h0
            have hRb := Hbad.out hkn h0
            subst hRb
            clear h0 Hok Hbad
            go_wp2_with (fail)
            refine Hnum.out.mono ?_
            rintro e w' ⟨rfl, rfl⟩
            have Hend := Lib.hid (show Holds (wq.setRow (w.heap.size + 1) Z.toArray) (w.heap.size + 1) 34 (mZero.ex (.slice none 0 0)).cells by rw [show (mZero.ex (.slice none 0 0)).cells = Z from HZ.out]; exact setRow_heap _ _ _ _ _ _ Hzq.out)
            have Hbe := Lib.hid (show Below w.heap.size w (wq.setRow (w.heap.size + 1) Z.toArray) from below_setRow Hbq.out (by omega) _)
            go_wp2_with (first
              | (refine wpList_load_row (by rfl) 34 _ (by rfl) nb (by rfl) _ _ _ _ Hnq.out Tryz.underlying34 rfl Hzn.out ?_)
              | (refine wpList_store_row (by rfl) 34 _ _ (by rfl) (w.heap.size + 1) Z.toArray (by rfl) (by rfl) _ _ Hzq.out Hzn.out (by rfl) Hzo.out ?_)
              | fail)
            exact bodyPost_ret (results_row3 Tryz.results14 _ _ (w.heap.size + 1) _ (mZero.ex (.slice none 0 0)).cells.toArray _ _ (.int .i64 0) (.int .i64 q) (by rfl) (by rfl) (by rfl) Hend.out Tryz.underlying34 rfl (mb_size _)) rfl ⟨Hbe.out, .slice none 0 0, rfl, World.ownsRow_nil _ _ _ _⟩
        · have HA := Lib.hid (apK_gname y m n)
          rw [HA.out] at Hok Hbad
          have Hrd := Lib.hid (refTReadA_any y wq (by have := Hy.out; omega))
          have Hrq := Lib.hid (txtRead_eq_iff y)
          clear HA
          by_cases h0 : 0 ∈ y
          · rw [if_pos h0] at Hbad
            have hRb := Hbad.out hkn (show (2 : Int) ≠ 0 by decide)
            subst hRb
            have hne : ¬ txtRead y = y := fun e => (Hrq.out.1 e) h0
            generalize txtRead y = z at *
            have e0 : (z == y) = false := by simpa using hne
            have e1 : (z != y) = true := by simpa using hne
            clear h0 hne Hok Hbad Hrq
            go_wp2_with (fail)
            refine Hrd.out.mono ?_
            rintro e w' ⟨rfl, rfl⟩
            have Hend := Lib.hid (show Holds (wq.setRow (w.heap.size + 1) Z.toArray) (w.heap.size + 1) 34 (mZero.ex (.slice none 0 0)).cells by rw [show (mZero.ex (.slice none 0 0)).cells = Z from HZ.out]; exact setRow_heap _ _ _ _ _ _ Hzq.out)
            have Hbe := Lib.hid (show Below w.heap.size w (wq.setRow (w.heap.size + 1) Z.toArray) from below_setRow Hbq.out (by omega) _)
            go_wp2_with (first
              | (refine wpList_load_row (by rfl) 34 _ (by rfl) nb (by rfl) _ _ _ _ Hnq.out Tryz.underlying34 rfl Hzn.out ?_)
              | (refine wpList_store_row (by rfl) 34 _ _ (by rfl) (w.heap.size + 1) Z.toArray (by rfl) (by rfl) _ _ Hzq.out Hzn.out (by rfl) Hzo.out ?_)
              | fail)
            exact bodyPost_ret (results_row3 Tryz.results14 _ _ (w.heap.size + 1) _ (mZero.ex (.slice none 0 0)).cells.toArray _ _ (.int .i64 0) (.int .i64 2) (by rfl) (by rfl) (by rfl) Hend.out Tryz.underlying34 rfl (mb_size _)) rfl ⟨Hbe.out, .slice none 0 0, rfl, World.ownsRow_nil _ _ _ _⟩
          · rw [if_neg h0] at Hok
            have Hn := Lib.hid (Hok.out hkn rfl)
            have hre : txtRead y = y := Hrq.out.2 h0
            rw [hre] at Hrd
            clear h0 hre Hok Hbad Hrq
            go_wp2_with (fail)
            refine Hrd.out.mono ?_
            rintro e w' ⟨rfl, rfl⟩
            have d0 := Hpq.out.at (i := 7) (v := .string ⟨m.gname.toArray⟩) rfl
            have f0 := Hpq.out.frozen 7
            go_wp2
            go_roundw
            case rel =>
              refine ⟨k + 1, { m with gname := y }, n, L, av, cs, rfl, by go_num, by omega, Hn.out, by have := HLl.out; omega, ?_, Hpq.out.put 7 _, Hdq.out.grown (grown_setCell wq ⟨pb, 7, none⟩ _) (fun k hk => by cases hk; exact .inl rfl)⟩
              exact (World.ownsRow.kept Hoq.out (grown_setCell wq ⟨pb, 7, none⟩ _) (by
                rcases hv2 : (Value.slice av L.length cs).ownBlock with _ | g
                · exact .inl rfl
                · right
                  have h1 := (Hoq.out.lt g hv2).1
                  have h2 := Hpb.out
                  have h3 := Hs4.out
                  intro e
                  injection e with e
                  have e : g = pb := e
                  omega))
            case measure => simp [intOf]; omega
        · have HA := Lib.hid (apK_linkpath y m n)
          rw [HA.out] at Hok Hbad
          have Hrd := Lib.hid (refTReadA_any y wq (by have := Hy.out; omega))
          have Hrq := Lib.hid (txtRead_eq_iff y)
          clear HA
          by_cases h0 : 0 ∈ y
          · rw [if_pos h0] at Hbad
            have hRb := Hbad.out hkn (show (2 : Int) ≠ 0 by decide)
            subst hRb
            have hne : ¬ txtRead y = y := fun e => (Hrq.out.1 e) h0
            generalize txtRead y = z at *
            have e0 : (z == y) = false := by simpa using hne
            have e1 : (z != y) = true := by simpa using hne
            clear h0 hne Hok Hbad Hrq
            go_wp2_with (fail)
            refine Hrd.out.mono ?_
            rintro e w' ⟨rfl, rfl⟩
            have Hend := Lib.hid (show Holds (wq.setRow (w.heap.size + 1) Z.toArray) (w.heap.size + 1) 34 (mZero.ex (.slice none 0 0)).cells by rw [show (mZero.ex (.slice none 0 0)).cells = Z from HZ.out]; exact setRow_heap _ _ _ _ _ _ Hzq.out)
            have Hbe := Lib.hid (show Below w.heap.size w (wq.setRow (w.heap.size + 1) Z.toArray) from below_setRow Hbq.out (by omega) _)
            go_wp2_with (first
              | (refine wpList_load_row (by rfl) 34 _ (by rfl) nb (by rfl) _ _ _ _ Hnq.out Tryz.underlying34 rfl Hzn.out ?_)
              | (refine wpList_store_row (by rfl) 34 _ _ (by rfl) (w.heap.size + 1) Z.toArray (by rfl) (by rfl) _ _ Hzq.out Hzn.out (by rfl) Hzo.out ?_)
              | fail)
            exact bodyPost_ret (results_row3 Tryz.results14 _ _ (w.heap.size + 1) _ (mZero.ex (.slice none 0 0)).cells.toArray _ _ (.int .i64 0) (.int .i64 2) (by rfl) (by rfl) (by rfl) Hend.out Tryz.underlying34 rfl (mb_size _)) rfl ⟨Hbe.out, .slice none 0 0, rfl, World.ownsRow_nil _ _ _ _⟩
          · rw [if_neg h0] at Hok
            have Hn := Lib.hid (Hok.out hkn rfl)
            have hre : txtRead y = y := Hrq.out.2 h0
            rw [hre] at Hrd
            clear h0 hre Hok Hbad Hrq
            go_wp2_with (fail)
            refine Hrd.out.mono ?_
            rintro e w' ⟨rfl, rfl⟩
            have d0 := Hpq.out.at (i := 1) (v := .string ⟨m.link.toArray⟩) rfl
            have f0 := Hpq.out.frozen 1
            go_wp2
            go_roundw
            case rel =>
              refine ⟨k + 1, { m with link := y }, n, L, av, cs, rfl, by go_num, by omega, Hn.out, by have := HLl.out; omega, ?_, Hpq.out.put 1 _, Hdq.out.grown (grown_setCell wq ⟨pb, 1, none⟩ _) (fun k hk => by cases hk; exact .inl rfl)⟩
              exact (World.ownsRow.kept Hoq.out (grown_setCell wq ⟨pb, 1, none⟩ _) (by
                rcases hv2 : (Value.slice av L.length cs).ownBlock with _ | g
                · exact .inl rfl
                · right
                  have h1 := (Hoq.out.lt g hv2).1
                  have h2 := Hpb.out
                  have h3 := Hs4.out
                  intro e
                  injection e with e
                  have e : g = pb := e
                  omega))
            case measure => simp [intOf]; omega
        · have HA := Lib.hid (apK_mtime y m n)
          rw [HA.out] at Hok Hbad
          have Hps := Lib.hid (refParse_any y wq Hy.out)
          clear HA
          generalize stParse y = Rn at *
          obtain ⟨⟨r, u⟩, q⟩ := Rn
          simp only at Hok Hbad Hps
          have d0 := Hpq.out.at (i := 10) (v := .int .i64 m.sec) rfl
          have f0 := Hpq.out.frozen 10
          have d1 := (Hpq.out.put 10 (.int .i64 r)).at (i := 11) (v := .int .i64 m.nsec) rfl
          have f1 := (Hpq.out.put 10 (.int .i64 r)).frozen 11
          have d2 := Hpq.out.at (i := 11) (v := .int .i64 m.nsec) rfl
          have f2 := Hpq.out.frozen 11
          have Hp5 := Lib.hid ((Hpq.out.put 10 (.int .i64 r)).put 11 (.int .i64 u))
          have G5 := Lib.hid (show wq.grownBy ((wq.setCell ⟨pb, 10, none⟩ (.int .i64 r)).setCell ⟨pb, 11, none⟩ (.int .i64 u)) (some pb) from grown_trans (grown_setCell wq ⟨pb, 10, none⟩ _) (grown_setCell _ ⟨pb, 11, none⟩ _))
          have Hd5 := Lib.hid (Hdq.out.grown G5.out (fun k hk => by cases hk; exact .inl rfl))
          have Ho5 := Lib.hid (show OwnP ((wq.setCell ⟨pb, 10, none⟩ (.int .i64 r)).setCell ⟨pb, 11, none⟩ (.int .i64 u)) w4.heap.size (.slice av L.length cs) L from World.ownsRow.kept Hoq.out G5.out (by
            rcases hv2 : (Value.slice av L.length cs).ownBlock with _ | g
            · exact .inl rfl
            · right
              have h1 := (Hoq.out.lt g hv2).1
              have h2 := Hpb.out
              have h3 := Hs4.out
              intro e
              injection e with e
              omega))
          have Hz5 := Lib.hid (Hzq.out.grown G5.out (fun e => by injection e with e; have := Hpb.out; omega))
          have Hn5 := Lib.hid (Hnq.out.grown G5.out (fun e => by injection e with e; have := Hpb.out; have := Hnb.out; omega))
          have Hb5 := Lib.hid (show Below w.heap.size w ((wq.setCell ⟨pb, 10, none⟩ (.int .i64 r)).setCell ⟨pb, 11, none⟩ (.int .i64 u)) from Hd5.out.below Hb4.out Hp1.out Hp1.out)
          by_cases h0 : q = 0
          · subst h0
            have Hn := Lib.hid (Hok.out hkn rfl)
            clear Hok Hbad Hz5 Hn5 Hb5
            go_wp2_with (fail)
            refine Hps.out.mono ?_
            rintro e w' ⟨rfl, rfl⟩
            go_wp2
            go_roundw
            case rel => exact ⟨k + 1, { m with sec := r, nsec := u }, n, L, av, cs, rfl, by go_num, by omega, Hn.out, by have := HLl.out; omega, Ho5.out, Hp5.out, Hd5.out⟩
            case measure => simp [intOf]; omega
          · have e0 : (q == 0) = false := by simpa using h0
            have e1 : (q != 0) = true := by simpa using h0
            have hRb := Hbad.out hkn h0
            subst hRb
            clear h0 Hok Hbad Hp5 G5 Hd5 Ho5
            go_wp2_with (fail)
            refine Hps.out.mono ?_
            rintro e w' ⟨rfl, rfl⟩
            have Hend := Lib.hid (show Holds (((wq.setCell ⟨pb, 10, none⟩ (.int .i64 r)).setCell ⟨pb, 11, none⟩ (.int .i64 u)).setRow (w.heap.size + 1) Z.toArray) (w.heap.size + 1) 34 (mZero.ex (.slice none 0 0)).cells by rw [show (mZero.ex (.slice none 0 0)).cells = Z from HZ.out]; exact setRow_heap _ _ _ _ _ _ Hz5.out)
            have Hbe := Lib.hid (show Below w.heap.size w (((wq.setCell ⟨pb, 10, none⟩ (.int .i64 r)).setCell ⟨pb, 11, none⟩ (.int .i64 u)).setRow (w.heap.size + 1) Z.toArray) from below_setRow Hb5.out (by omega) _)
            go_wp2_with (first
              | (refine wpList_load_row (by rfl) 34 _ (by rfl) nb (by rfl) _ _ _ _ Hn5.out Tryz.underlying34 rfl Hzn.out ?_)
              | (refine wpList_store_row (by rfl) 34 _ _ (by rfl) (w.heap.size + 1) Z.toArray (by rfl) (by rfl) _ _ Hz5.out Hzn.out (by rfl) Hzo.out ?_)
              | fail)
            exact bodyPost_ret (results_row3 Tryz.results14 _ _ (w.heap.size + 1) _ (mZero.ex (.slice none 0 0)).cells.toArray _ _ (.int .i64 0) (.int .i64 q) (by rfl) (by rfl) (by rfl) Hend.out Tryz.underlying34 rfl (mb_size _)) rfl ⟨Hbe.out, .slice none 0 0, rfl, World.ownsRow_nil _ _ _ _⟩
        · have HA := Lib.hid (apK_path y m n)
          rw [HA.out] at Hok Hbad
          have Hrd := Lib.hid (refTReadA_any y wq (by have := Hy.out; omega))
          have Hrq := Lib.hid (txtRead_eq_iff y)
          clear HA
          by_cases h0 : 0 ∈ y
          · rw [if_pos h0] at Hbad
            have hRb := Hbad.out hkn (show (2 : Int) ≠ 0 by decide)
            subst hRb
            have hne : ¬ txtRead y = y := fun e => (Hrq.out.1 e) h0
            generalize txtRead y = z at *
            have e0 : (z == y) = false := by simpa using hne
            have e1 : (z != y) = true := by simpa using hne
            clear h0 hne Hok Hbad Hrq
            go_wp2_with (fail)
            refine Hrd.out.mono ?_
            rintro e w' ⟨rfl, rfl⟩
            have Hend := Lib.hid (show Holds (wq.setRow (w.heap.size + 1) Z.toArray) (w.heap.size + 1) 34 (mZero.ex (.slice none 0 0)).cells by rw [show (mZero.ex (.slice none 0 0)).cells = Z from HZ.out]; exact setRow_heap _ _ _ _ _ _ Hzq.out)
            have Hbe := Lib.hid (show Below w.heap.size w (wq.setRow (w.heap.size + 1) Z.toArray) from below_setRow Hbq.out (by omega) _)
            go_wp2_with (first
              | (refine wpList_load_row (by rfl) 34 _ (by rfl) nb (by rfl) _ _ _ _ Hnq.out Tryz.underlying34 rfl Hzn.out ?_)
              | (refine wpList_store_row (by rfl) 34 _ _ (by rfl) (w.heap.size + 1) Z.toArray (by rfl) (by rfl) _ _ Hzq.out Hzn.out (by rfl) Hzo.out ?_)
              | fail)
            exact bodyPost_ret (results_row3 Tryz.results14 _ _ (w.heap.size + 1) _ (mZero.ex (.slice none 0 0)).cells.toArray _ _ (.int .i64 0) (.int .i64 2) (by rfl) (by rfl) (by rfl) Hend.out Tryz.underlying34 rfl (mb_size _)) rfl ⟨Hbe.out, .slice none 0 0, rfl, World.ownsRow_nil _ _ _ _⟩
          · rw [if_neg h0] at Hok
            have Hn := Lib.hid (Hok.out hkn rfl)
            have hre : txtRead y = y := Hrq.out.2 h0
            rw [hre] at Hrd
            clear h0 hre Hok Hbad Hrq
            go_wp2_with (fail)
            refine Hrd.out.mono ?_
            rintro e w' ⟨rfl, rfl⟩
            have d0 := Hpq.out.at (i := 0) (v := .string ⟨m.name.toArray⟩) rfl
            have f0 := Hpq.out.frozen 0
            go_wp2
            go_roundw
            case rel =>
              refine ⟨k + 1, { m with name := y }, n, L, av, cs, rfl, by go_num, by omega, Hn.out, by have := HLl.out; omega, ?_, Hpq.out.put 0 _, Hdq.out.grown (grown_setCell wq ⟨pb, 0, none⟩ _) (fun k hk => by cases hk; exact .inl rfl)⟩
              exact (World.ownsRow.kept Hoq.out (grown_setCell wq ⟨pb, 0, none⟩ _) (by
                rcases hv2 : (Value.slice av L.length cs).ownBlock with _ | g
                · exact .inl rfl
                · right
                  have h1 := (Hoq.out.lt g hv2).1
                  have h2 := Hpb.out
                  have h3 := Hs4.out
                  intro e
                  injection e with e
                  have e : g = pb := e
                  omega))
            case measure => simp [intOf]; omega
        · have HA := Lib.hid (apK_size y m n)
          rw [HA.out] at Hok Hbad
          have Hnum := Lib.hid (refAtNumber_any y wq (by have := Hy.out; unfold maxLen; omega))
          clear HA
          generalize atNum y = Rn at *
          obtain ⟨r, q⟩ := Rn
          simp only at Hok Hbad Hnum
          by_cases h0 : q = 0
          · subst h0
            have Hn := Lib.hid (Hok.out hkn rfl)
            clear Hok Hbad
            go_wp2_with (fail)
            refine Hnum.out.mono ?_
            rintro e w' ⟨rfl, rfl⟩
            go_wp2
            go_roundw
            case rel =>
              exact ⟨k + 1, m, r, L, av, cs, rfl, by go_num, by omega, Hn.out, by have := HLl.out; omega, Hoq.out, Hpq.out, Hdq.out⟩
            case measure => simp [intOf]; omega
          · have e0 : (q == 0) = false := by simpa using h0
            have e1 : (q != 0) = true := by simpa using h0
            have hRb := Hbad.out hkn h0
            subst hRb
            clear h0 Hok Hbad
            go_wp2_with (fail)
            refine Hnum.out.mono ?_
            rintro e w' ⟨rfl, rfl⟩
            have Hend := Lib.hid (show Holds (wq.setRow (w.heap.size + 1) Z.toArray) (w.heap.size + 1) 34 (mZero.ex (.slice none 0 0)).cells by rw [show (mZero.ex (.slice none 0 0)).cells = Z from HZ.out]; exact setRow_heap _ _ _ _ _ _ Hzq.out)
            have Hbe := Lib.hid (show Below w.heap.size w (wq.setRow (w.heap.size + 1) Z.toArray) from below_setRow Hbq.out (by omega) _)
            go_wp2_with (first
              | (refine wpList_load_row (by rfl) 34 _ (by rfl) nb (by rfl) _ _ _ _ Hnq.out Tryz.underlying34 rfl Hzn.out ?_)
              | (refine wpList_store_row (by rfl) 34 _ _ (by rfl) (w.heap.size + 1) Z.toArray (by rfl) (by rfl) _ _ Hzq.out Hzn.out (by rfl) Hzo.out ?_)
              | fail)
            exact bodyPost_ret (results_row3 Tryz.results14 _ _ (w.heap.size + 1) _ (mZero.ex (.slice none 0 0)).cells.toArray _ _ (.int .i64 0) (.int .i64 q) (by rfl) (by rfl) (by rfl) Hend.out Tryz.underlying34 rfl (mb_size _)) rfl ⟨Hbe.out, .slice none 0 0, rfl, World.ownsRow_nil _ _ _ _⟩
        · have HA := Lib.hid (apK_uid y m n)
          rw [HA.out] at Hok Hbad
          have Hnum := Lib.hid (refAtNumber_any y wq (by have := Hy.out; unfold maxLen; omega))
          clear HA
          generalize atNum y = Rn at *
          obtain ⟨r, q⟩ := Rn
          simp only at Hok Hbad Hnum
          by_cases h0 : q = 0
          · subst h0
            have Hn := Lib.hid (Hok.out hkn rfl)
            clear Hok Hbad
            go_wp2_with (fail)
            refine Hnum.out.mono ?_
            rintro e w' ⟨rfl, rfl⟩
            have d0 := Hpq.out.at (i := 4) (v := .int .i64 m.uid) rfl
            have f0 := Hpq.out.frozen 4
            go_wp2
            go_roundw
            case rel =>
              refine ⟨k + 1, { m with uid := r }, n, L, av, cs, rfl, by go_num, by omega, Hn.out, by have := HLl.out; omega, ?_, Hpq.out.put 4 _, Hdq.out.grown (grown_setCell wq ⟨pb, 4, none⟩ _) (fun k hk => by cases hk; exact .inl rfl)⟩
              exact (World.ownsRow.kept Hoq.out (grown_setCell wq ⟨pb, 4, none⟩ _) (by
                rcases hv2 : (Value.slice av L.length cs).ownBlock with _ | g
                · exact .inl rfl
                · right
                  have h1 := (Hoq.out.lt g hv2).1
                  have h2 := Hpb.out
                  have h3 := Hs4.out
                  intro e
                  injection e with e
                  have e : g = pb := e
                  omega))
            case measure => simp [intOf]; omega
          · have e0 : (q == 0) = false := by simpa using h0
            have e1 : (q != 0) = true := by simpa using h0
            have hRb := Hbad.out hkn h0
            subst hRb
            clear h0 Hok Hbad
            go_wp2_with (fail)
            refine Hnum.out.mono ?_
            rintro e w' ⟨rfl, rfl⟩
            have Hend := Lib.hid (show Holds (wq.setRow (w.heap.size + 1) Z.toArray) (w.heap.size + 1) 34 (mZero.ex (.slice none 0 0)).cells by rw [show (mZero.ex (.slice none 0 0)).cells = Z from HZ.out]; exact setRow_heap _ _ _ _ _ _ Hzq.out)
            have Hbe := Lib.hid (show Below w.heap.size w (wq.setRow (w.heap.size + 1) Z.toArray) from below_setRow Hbq.out (by omega) _)
            go_wp2_with (first
              | (refine wpList_load_row (by rfl) 34 _ (by rfl) nb (by rfl) _ _ _ _ Hnq.out Tryz.underlying34 rfl Hzn.out ?_)
              | (refine wpList_store_row (by rfl) 34 _ _ (by rfl) (w.heap.size + 1) Z.toArray (by rfl) (by rfl) _ _ Hzq.out Hzn.out (by rfl) Hzo.out ?_)
              | fail)
            exact bodyPost_ret (results_row3 Tryz.results14 _ _ (w.heap.size + 1) _ (mZero.ex (.slice none 0 0)).cells.toArray _ _ (.int .i64 0) (.int .i64 q) (by rfl) (by rfl) (by rfl) Hend.out Tryz.underlying34 rfl (mb_size _)) rfl ⟨Hbe.out, .slice none 0 0, rfl, World.ownsRow_nil _ _ _ _⟩
        · have HA := Lib.hid (apK_uname y m n)
          rw [HA.out] at Hok Hbad
          have Hrd := Lib.hid (refTReadA_any y wq (by have := Hy.out; omega))
          have Hrq := Lib.hid (txtRead_eq_iff y)
          clear HA
          by_cases h0 : 0 ∈ y
          · rw [if_pos h0] at Hbad
            have hRb := Hbad.out hkn (show (2 : Int) ≠ 0 by decide)
            subst hRb
            have hne : ¬ txtRead y = y := fun e => (Hrq.out.1 e) h0
            generalize txtRead y = z at *
            have e0 : (z == y) = false := by simpa using hne
            have e1 : (z != y) = true := by simpa using hne
            clear h0 hne Hok Hbad Hrq
            go_wp2_with (fail)
            refine Hrd.out.mono ?_
            rintro e w' ⟨rfl, rfl⟩
            have Hend := Lib.hid (show Holds (wq.setRow (w.heap.size + 1) Z.toArray) (w.heap.size + 1) 34 (mZero.ex (.slice none 0 0)).cells by rw [show (mZero.ex (.slice none 0 0)).cells = Z from HZ.out]; exact setRow_heap _ _ _ _ _ _ Hzq.out)
            have Hbe := Lib.hid (show Below w.heap.size w (wq.setRow (w.heap.size + 1) Z.toArray) from below_setRow Hbq.out (by omega) _)
            go_wp2_with (first
              | (refine wpList_load_row (by rfl) 34 _ (by rfl) nb (by rfl) _ _ _ _ Hnq.out Tryz.underlying34 rfl Hzn.out ?_)
              | (refine wpList_store_row (by rfl) 34 _ _ (by rfl) (w.heap.size + 1) Z.toArray (by rfl) (by rfl) _ _ Hzq.out Hzn.out (by rfl) Hzo.out ?_)
              | fail)
            exact bodyPost_ret (results_row3 Tryz.results14 _ _ (w.heap.size + 1) _ (mZero.ex (.slice none 0 0)).cells.toArray _ _ (.int .i64 0) (.int .i64 2) (by rfl) (by rfl) (by rfl) Hend.out Tryz.underlying34 rfl (mb_size _)) rfl ⟨Hbe.out, .slice none 0 0, rfl, World.ownsRow_nil _ _ _ _⟩
          · rw [if_neg h0] at Hok
            have Hn := Lib.hid (Hok.out hkn rfl)
            have hre : txtRead y = y := Hrq.out.2 h0
            rw [hre] at Hrd
            clear h0 hre Hok Hbad Hrq
            go_wp2_with (fail)
            refine Hrd.out.mono ?_
            rintro e w' ⟨rfl, rfl⟩
            have d0 := Hpq.out.at (i := 6) (v := .string ⟨m.uname.toArray⟩) rfl
            have f0 := Hpq.out.frozen 6
            go_wp2
            go_roundw
            case rel =>
              refine ⟨k + 1, { m with uname := y }, n, L, av, cs, rfl, by go_num, by omega, Hn.out, by have := HLl.out; omega, ?_, Hpq.out.put 6 _, Hdq.out.grown (grown_setCell wq ⟨pb, 6, none⟩ _) (fun k hk => by cases hk; exact .inl rfl)⟩
              exact (World.ownsRow.kept Hoq.out (grown_setCell wq ⟨pb, 6, none⟩ _) (by
                rcases hv2 : (Value.slice av L.length cs).ownBlock with _ | g
                · exact .inl rfl
                · right
                  have h1 := (Hoq.out.lt g hv2).1
                  have h2 := Hpb.out
                  have h3 := Hs4.out
                  intro e
                  injection e with e
                  have e : g = pb := e
                  omega))
            case measure => simp [intOf]; omega
      · have hkf : isKnown x = false := by simpa using hkn
        have Hnw := Lib.hid (Hnew.out hkf)
        rw [hkf] at Hkn
        clear hkn hkf Hok Hbad Hnew
        go_wp2_with (fail)
        refine Hkn.out.mono ?_
        rintro e w' ⟨rfl, rfl⟩
        have c12 := Hpq.out.at (i := 12) (v := .slice av L.length cs) rfl
        obtain ⟨i0, hi, hz0, hz1, hz2⟩ := info_parts zero_pair
        have Hown2 := Lib.hid (show OwnP (wq.alloc (.cells #[.string ⟨x.toArray⟩, .string ⟨y.toArray⟩] 27)).drew w4.heap.size (.slice av L.length cs) L from World.ownsRow.alloc Hoq.out _)
        have Hnews := Lib.hid (show ∀ j u, ([.string ⟨x.toArray⟩, .string ⟨y.toArray⟩] : List Value)[j]? = some u → (wq.alloc (.cells #[.string ⟨x.toArray⟩, .string ⟨y.toArray⟩] 27)).drew.cell? ((⟨wq.heap.size, 0, none⟩ : Addr).add j) = some u from cell_two_new wq _ _ _)
        have Hone := Lib.hid (show ∀ u ∈ ([.string ⟨x.toArray⟩, .string ⟨y.toArray⟩] : List Value), u.oneCell' = true by
          intro u hu; simp only [List.mem_cons, List.mem_nil_iff, or_false] at hu; rcases hu with rfl | rfl <;> rfl)
        have Hsz := Lib.hid (show w4.heap.size ≤ (wq.alloc (.cells #[.string ⟨x.toArray⟩, .string ⟨y.toArray⟩] 27)).drew.heap.size by
          have := Hdq.out.size; simp; omega)
        have Hpa := Lib.hid (show Holds (wq.alloc (.cells #[.string ⟨x.toArray⟩, .string ⟨y.toArray⟩] 27)).drew pb 34 (m.ex (.slice av L.length cs)).cells from Hpq.out.behind _)
        have Hda := Lib.hid (show DvK w4 (wq.alloc (.cells #[.string ⟨x.toArray⟩, .string ⟨y.toArray⟩] 27)).drew pb pb from (Hdq.out.grown (World.grownBy_alloc wq (.cells #[.string ⟨x.toArray⟩, .string ⟨y.toArray⟩] 27) none) (by simp)).grown (grown_drewN _ 1 none) (by simp))
        have c12a := Hpa.out.at (i := 12) (v := .slice av L.length cs) rfl
        have hpw : pb < w4.heap.size := by have := Hpb.out; have := Hs4.out; omega
        have Hpar := Lib.hid (show ∀ (w5 : World) (row : Option Nat), World.grownBy (wq.alloc (.cells #[.string ⟨x.toArray⟩, .string ⟨y.toArray⟩] 27)).drew w5 row → (∀ {g : Nat}, row = some g → w4.heap.size ≤ g ∧ True) → Holds w5 pb 34 (m.ex (.slice av L.length cs)).cells from fun w5 row h hr => Hpa.out.grown h (fun e => by have := (hr e.symm).1; omega))
        have hLk : L.length ≤ k := HLl.out
        have hln : l.length ≤ 4398046511104 := Hlen.out
        go_wp2_with (fail)
        go_region_law (refine step_append_lies _ rfl (.tmp 66) (.tmp 71) 22 rfl w4.heap.size 27 i0 (.agg #[.string ⟨#[]⟩, .string ⟨#[]⟩]) 2 32 Tryz.underlying22 hi hz0 hz1 hz2 rfl (by decide) (.slice av L.length cs) L.length (pairCells L) (by simp [Act.eval]) Hown2.out ⟨wq.heap.size, 0, none⟩ 1 1 [.string ⟨x.toArray⟩, .string ⟨y.toArray⟩] (by simp [Act.eval]) rfl Hnews.out Hone.out (by decide) (by unfold maxLen; omega) (by omega) Hsz.out _ rfl ?_; intro g2 cap2 w5 hown2 hgrow2 _ _; have Hp5 := Lib.hid (show Holds w5 pb 34 (m.ex (.slice av L.length cs)).cells from Hpar.out w5 _ hgrow2 (fun e => ⟨(Hown2.out.lt _ e).1, trivial⟩)); have d12 := Hp5.out.at (i := 12) (v := .slice av L.length cs) rfl; have f12 := Hp5.out.frozen 12)
        all_goals
          have Hown5 := Lib.hid (show OwnP w5 w4.heap.size (.slice (some ⟨g2, 0, none⟩) (L ++ [(x, y)]).length cap2) (L ++ [(x, y)]) by
            show w5.ownsRow w4.heap.size _ 2 (.slice (some ⟨g2, 0, none⟩) (L ++ [(x, y)]).length cap2) (L ++ [(x, y)]).length (pairCells (L ++ [(x, y)]))
            rw [pairCells_append, List.length_append]
            exact hown2)
          have Hd5 := Lib.hid (Hda.out.grown hgrow2 (fun k hk => .inr (.inr (Hown2.out.lt k hk).1)))
          clear hown2 hgrow2 d12 f12 c12 c12a c1 c2
          go_wp2
          go_roundw
          case rel =>
            refine ⟨k + 1, m, n, L ++ [(x, y)], some ⟨g2, 0, none⟩, cap2, rfl, by go_num, by omega, Hnw.out, by rw [List.length_append]; simp; omega, ?_, (by have h := Hp5.out.put 12 (.slice (some ⟨g2, 0, none⟩) (L.length + 1) cap2); rw [show (L ++ [(x, y)]).length = L.length + 1 by simp]; exact h), Hd5.out.grown (grown_setCell w5 ⟨pb, 12, none⟩ _) (fun k hk => by cases hk; exact .inl rfl)⟩
            refine World.ownsRow.kept Hown5.out (grown_setCell w5 ⟨pb, 12, none⟩ _) ?_
            right
            have h1 := (Hown5.out.lt g2 rfl).1
            intro e
            injection e with e
            have e : g2 = pb := e
            omega
          case measure => simp [intOf]; omega
    · have hkl : k = l.length := by omega
      subst hkl
      have hRe : R = ⟨m, n, L, 0⟩ := by rw [← HR.out]; exact apRun_end
      subst hRe
      have Hmn2 := Lib.hid (show (Tryz.prog.info? 34).map (·.size) = some (m.ex (.slice av L.length cs)).cells.toArray.size from mb_size _)
      have Hmo2 := Lib.hid (mb_one m (.slice av L.length cs) rfl)
      have Hzl := Lib.hid (show Z.toArray.size = (m.ex (.slice av L.length cs)).cells.toArray.size by rw [← HZ.out]; rfl)
      have Hend := Lib.hid (show Holds (wr.setRow (w.heap.size + 1) (m.ex (.slice av L.length cs)).cells.toArray) (w.heap.size + 1) 34 (m.ex (.slice av L.length cs)).cells from setRow_heap _ _ _ _ _ _ Hzr.out)
      have Hbe := Lib.hid (show Below w.heap.size w (wr.setRow (w.heap.size + 1) (m.ex (.slice av L.length cs)).cells.toArray) from below_setRow Hbw.out (by omega) _)
      have Hoe := Lib.hid (show OwnP (wr.setRow (w.heap.size + 1) (m.ex (.slice av L.length cs)).cells.toArray) w.heap.size (.slice av L.length cs) L from OwnP.base (World.ownsRow.kept Hown0.out (row := some (w.heap.size + 1)) ⟨rfl, rfl, rfl, by simp [World.setRow], fun j _ hj => setRow_other _ _ _ _ (fun e => hj (by rw [e]))⟩ (by
        rcases hv2 : (Value.slice av L.length cs).ownBlock with _ | g
        · exact .inl rfl
        · right
          have h1 := (Hown0.out.lt g hv2).1
          have h2 := Hs4.out
          intro e
          injection e with e
          omega)) Hb4.out.size)
      have HE2 := Lib.hid (show ((Mb.ex m (.slice av L.length cs)).cells.toArray = (m.ex (.slice av L.length cs)).cells.toArray) from rfl)
      generalize hE : (m.ex (.slice av L.length cs)).cells = E at *
      have HE := Lib.hid hE
      clear hE
      go_wp2_with (first
        | (refine wpList_load_row (by rfl) 34 _ (by rfl) pb (by rfl) _ _ _ _ Hp.out Tryz.underlying34 rfl Hmn2.out ?_)
        | (refine wpList_store_row (by rfl) 34 _ _ (by rfl) (w.heap.size + 1) E.toArray (by rfl) (by rfl) _ _ Hzr.out Hmn2.out (by exact Hzl.out) Hmo2.out ?_)
        | fail)
      refine bodyPost_ret (results_row3 Tryz.results14 _ _ (w.heap.size + 1) _ E.toArray _ _ (.int .i64 n) (.int .i64 0) (by rfl) (by rfl) (by rfl) Hend.out Tryz.underlying34 rfl Hmn2.out) rfl ⟨Hbe.out, .slice av L.length cs, ?_, Hoe.out⟩
      rw [← HE.out]
      rfl
end Go.Proofs.YtjmmecokfijglaaGreatDoor
