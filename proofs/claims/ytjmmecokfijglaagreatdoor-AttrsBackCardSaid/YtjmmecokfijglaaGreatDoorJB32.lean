/-
  Texts of this seat's proof, joined: their order is that of the build.
-/
import Derived.Test.YtjmmecokfijglaaGreatDoorJB25
namespace Go.Proofs.YtjmmecokfijglaaGreatDoor
open Go.ChangeShapes Go.WideShapes Go.ChangeAt Go.RowKit Go.Maps

theorem builtAp (nm lk un gn : List UInt8) (kd md ui gi sz tm mj mi fm : Int) : Tryz.prog.built 34 [(0, .string ⟨nm.toArray⟩), (1, .string ⟨lk.toArray⟩), (2, .int .u8 kd), (3, .int .i64 md), (4, .int .i64 ui), (5, .int .i64 gi), (6, .string ⟨un.toArray⟩), (7, .string ⟨gn.toArray⟩), (8, .int .i64 mj), (9, .int .i64 mi), (10, .agg #[.int .i64 tm, .int .i64 0])] = some (mOf ⟨nm, lk, kd, md, ui, gi, sz, tm, un, gn, mj, mi, fm⟩).cells.toArray := by kernel_rfl
theorem builtSt (tm : Int) : Tryz.prog.built 32 [(0, .int .i64 tm)] = some #[.int .i64 tm, .int .i64 0] := by kernel_rfl
theorem builtAq (h : Hd) : Tryz.prog.built 78 [(1, .int .i64 h.size), (0, (mOf h).val)] = some (apCells (mOf h) (.slice none 0 0) h.size).toArray := by kernel_rfl
set_option maxRecDepth 100000 in
set_option maxHeartbeats 4000000 in
theorem apply_any (h : Hd) (l : List Pr) (al : Option Addr) (cl : Nat) (w : World) (hl : PairsIn w (.slice al l.length cl) l) (hfl : prFits 140737488355328 l) (hlen : l.length ≤ 4398046511104) :
    Calls Tryz.prog 13 #[h.val, .slice al l.length cl] w fun e w' => ApPost w (apRun l (mOf h) h.size []) e w' := by
  have Hl := Lib.hid (show ∀ k (hk : k < l.length), ∃ b o, al = some ⟨b, o, none⟩ ∧ b < w.heap.size ∧ w.cell? ⟨b, o + k * 2, none⟩ = some (.string ⟨l[k].1.toArray⟩) ∧ w.cell? ⟨b, o + k * 2 + 1, none⟩ = some (.string ⟨l[k].2.toArray⟩) by
    intro k hk
    obtain ⟨ad, cap, hv, h⟩ := hl
    cases hv
    rcases h with rfl | ⟨b, o, ha, hb, hp⟩
    · simp at hk
    · exact ⟨b, o, ha, hb, hp k hk⟩)
  have Hfl := Lib.hid hfl
  have Hlen := Lib.hid hlen
  have hz := (zero_of_info infoMb).1
  have hzp := (zero_of_info infoPa).1
  have HR0 := Lib.hid (show apRun (l.drop 0) (mOf h) h.size [] = apRun l (mOf h) h.size [] from rfl)
  generalize apRun l (mOf h) h.size [] = R at *
  have Ho := Lib.hid (show Holds ((w.alloc (.cells h.cells.toArray 30)).alloc (.cells mZero.cells.toArray 34)) w.heap.size 30 h.cells from (Holds.new w _ _).behind _)
  have Hz := Lib.hid (show Holds ((w.alloc (.cells h.cells.toArray 30)).alloc (.cells mZero.cells.toArray 34)) (w.heap.size + 1) 34 mZero.cells from by
    have := Holds.new (w.alloc (.cells h.cells.toArray 30)) 34 mZero.cells
    rwa [World.size_alloc] at this)
  have Hb0 := Lib.hid (((Below.refl w.heap.size w).alloc (Nat.le_refl _) (.cells h.cells.toArray 30)).alloc (by simp) (.cells mZero.cells.toArray 34))
  have Hbq := Lib.hid (builtAq h)
  have HbZ := Lib.hid builtZ
  have Hpone := Lib.hid (show (apCells (mOf h) (.slice none 0 0) h.size).toArray.all (·.oneCell') = true by simp [apCells, mOf, Mb.ex, Mb.cells, Hd.zero, Hd.cells, Value.oneCell'])
  have Hsp := Lib.hid (show (Tryz.prog.info? 78).map (·.size) = some (apCells (mOf h) (.slice none 0 0) h.size).toArray.size by rw [show (apCells (mOf h) (.slice none 0 0) h.size).toArray.size = 28 from rfl]; exact (zero_of_info infoPa).2)
  have Hsq := Lib.hid (show zParts.toArray.size = (apCells (mOf h) (.slice none 0 0) h.size).toArray.size from rfl)
  clear hl hfl hlen
  obtain ⟨nm, lk, kd, md, ui, gi, sz, tm, un, gn, mj, mi, fm⟩ := h
  have Hba := Lib.hid (builtAp nm lk un gn kd md ui gi sz tm mj mi fm)
  have Hbs := Lib.hid (builtSt tm)
  have k0 := Ho.out.at (i := 0) (v := .string ⟨nm.toArray⟩) rfl
  have k1 := Ho.out.at (i := 1) (v := .string ⟨lk.toArray⟩) rfl
  have k2 := Ho.out.at (i := 2) (v := .int .u8 kd) rfl
  have k3 := Ho.out.at (i := 3) (v := .int .i64 md) rfl
  have k4 := Ho.out.at (i := 4) (v := .int .i64 ui) rfl
  have k5 := Ho.out.at (i := 5) (v := .int .i64 gi) rfl
  have k6 := Ho.out.at (i := 6) (v := .int .i64 sz) rfl
  have k7 := Ho.out.at (i := 7) (v := .int .i64 tm) rfl
  have k8 := Ho.out.at (i := 8) (v := .string ⟨un.toArray⟩) rfl
  have k9 := Ho.out.at (i := 9) (v := .string ⟨gn.toArray⟩) rfl
  have k10 := Ho.out.at (i := 10) (v := .int .i64 mj) rfl
  have k11 := Ho.out.at (i := 11) (v := .int .i64 mi) rfl
  simp only [Hd.val] at *
  generalize hC : (Hd.mk nm lk kd md ui gi sz tm un gn mj mi fm).cells = C at *
  generalize hM : mOf (Hd.mk nm lk kd md ui gi sz tm un gn mj mi fm) = M at *
  unfold Mb.val at *
  generalize hMC : M.cells = MC at *
  generalize hZ : mZero.cells = Z at *
  generalize hZP : zParts = ZP at *
  generalize hA : apCells M (.slice none 0 0) sz = PC at *
  go_enter Tryz.func13, Tryz.ntmps13
  have HM := Lib.hid hM
  have HMC := Lib.hid hMC
  have HZ := Lib.hid hZ
  have HA := Lib.hid hA
  clear hC hM hMC hZ hZP hA
  go_upto_region 1 with (fail)
  generalize hW : (w.alloc (.cells C.toArray 30)).alloc (.cells Z.toArray 34) = w1 at *
  have Hsz1 := Lib.hid (show w1.heap.size = w.heap.size + 2 by rw [← hW]; simp)
  clear hW
  have Hnp := Lib.hid (Holds.new w1 78 ZP)
  go_wp2_with (first
    | (refine wpList_build_is (by rfl) 32 _ (by rfl) _ _ Hbs.out ?_ ?_; kernel_rfl)
    | (refine wpList_build_is (by rfl) 34 _ (by rfl) _ _ Hba.out ?_ ?_; kernel_rfl)
    | (refine wpList_build_is (by rfl) 78 _ (by rfl) _ _ Hbq.out ?_ ?_; kernel_rfl)
    | (refine wpList_store_row (by rfl) 78 _ _ (by rfl) w1.heap.size PC.toArray (by rfl) (by rfl) _ _ Hnp.out Hsp.out (by exact Hsq.out) Hpone.out ?_; rw [World.setRow_alloc_new])
    | fail)
  refine (known_any _).mono ?_
  rintro e w2 ⟨hb2, t, hown, htbl, htin, rfl⟩
  rw [World.size_alloc] at htin
  rw [World.size_alloc] at hown
  have hPs : Holds w2 w1.heap.size 78 PC := (Holds.new w1 _ PC).under hb2 (by simp)
  have hbz := hb2.size
  rw [World.size_alloc] at hbz
  have Hbz := Lib.hid hbz
  have Hb2 := Lib.hid (Hb0.out.trans (((Below.refl w1.heap.size w1).alloc (Nat.le_refl _) (.cells PC.toArray 78)).trans (hb2.mono (by simp)) |>.mono Hb0.out.size))
  have Hz2 := Lib.hid ((Hz.out.behind (.cells PC.toArray 78)).under hb2 (by have := Hz.out.lt; simp; omega))
  clear hb2 k0 k1 k2 k3 k4 k5 k6 k7 k8 k9 k10 k11 Hnp Hb0 Ho Hz hz hzp hbz
  have Hown := Lib.hid (show ∀ w4 : World, DvK w2 w4 w1.heap.size w1.heap.size → w4.ownsMap Tryz.prog 9 heldElem (w1.heap.size + 1) 8 (knownD t) from fun w4 h => World.ownsMap.kept hown h.grownBy (by intro e; injection e with e; omega))
  have Ht := Lib.hid (show ∀ w4 : World, DvK w2 w4 w1.heap.size w1.heap.size → TblAt t w4 from fun w4 h => by
    obtain ⟨t1, t2, t3, t4, t5, t6, t7⟩ := htbl
    obtain ⟨i1, i2, i3, i4, i5, i6, i7⟩ := htin
    have hh : ∀ (g : Nat) (T : TypeId) (cs : List Value), w1.heap.size + 1 < g → Holds w2 g T cs → Holds w4 g T cs := fun g T cs hg hw => h.holds hw (by omega) (by omega)
    exact ⟨hh _ _ _ i1 t1, hh _ _ _ i2 t2, hh _ _ _ i3 t3, hh _ _ _ i4 t4, hh _ _ _ i5 t5, hh _ _ _ i6 t6, hh _ _ _ i7 t7⟩)
  have Hps := Lib.hid hPs
  clear hown htbl htin hPs
  have HaP := Lib.hid (show ∀ (v : Value), True from fun _ => trivial)
  go_wp2
  go_loopw [44] (fun i wr => ∃ (k : Nat) (m : Mb) (n : Int) (L : List Pr) (av : Option Addr) (cs : Nat), i = .int .i64 k ∧ k ≤ l.length ∧ apRun (l.drop k) m n L = R ∧ L.length ≤ k ∧ OwnP wr w2.heap.size (.slice av L.length cs) L ∧ Holds wr w1.heap.size 78 (apCells m (.slice av L.length cs) n) ∧ DvK w2 wr w1.heap.size w1.heap.size) (fun i _ => l.length - (intOf i).toNat)
  case atStart => exact ⟨0, M, sz, [], none, 0, rfl, Nat.zero_le _, HR0.out, Nat.le_refl _, World.ownsRow_nil _ _ _ _, by rw [show apCells M (.slice none ([] : List Pr).length 0) sz = PC from HA.out]; exact Hps.out, DvK.refl _ _ _⟩
  case round =>
    obtain ⟨k, m, n, L, av, cs, rfl, hk, hR, hLl, hown, hp, hdv⟩ := hrel
    have Hown0 := Lib.hid hown
    have Hp := Lib.hid hp
    have Hdv := Lib.hid hdv
    have Hp1 := Lib.hid (show w.heap.size ≤ w1.heap.size by have := Hsz1.out; omega)
    have Hbw := Lib.hid (Hdv.out.below Hb2.out Hp1.out Hp1.out)
    have HR := Lib.hid hR
    have HLl := Lib.hid hLl
    clear hown hp hdv hR hLl
    by_cases hlt : k < l.length
    · obtain ⟨b, o, rfl, hb0, c1, c2⟩ := Hl.out k hlt
      rw [← Hbw.out.cell (p := ⟨b, o + k * 2, none⟩) hb0] at c1
      rw [← Hbw.out.cell (p := ⟨b, o + k * 2 + 1, none⟩) hb0] at c2
      have hpf := Hfl.out _ (List.getElem_mem hlt)
      have hpg := Hfl.out _ (List.getElem_mem hlt)
      have Hok := Lib.hid (show isKnown l[k].1 = true → (apK l[k].1 l[k].2 m n).e = 0 → apRun (l.drop (k + 1)) (apK l[k].1 l[k].2 m n).m (apK l[k].1 l[k].2 m n).n L = R from fun h h0 => (apRun_ok hlt h h0).symm.trans HR.out)
      have Hbad := Lib.hid (show isKnown l[k].1 = true → (apK l[k].1 l[k].2 m n).e ≠ 0 → R = ⟨mZero, 0, [], (apK l[k].1 l[k].2 m n).e⟩ from fun h h0 => HR.out.symm.trans (apRun_bad hlt h h0))
      have Hnew := Lib.hid (show isKnown l[k].1 = false → apRun (l.drop (k + 1)) m n (L ++ [l[k]]) = R from fun h => (apRun_new hlt h).symm.trans HR.out)
      have hkb : (k : Int) ≤ 4398046511104 := by have := Hlen.out; omega
      clear HR
      generalize l[k] = p at *
      obtain ⟨x, y⟩ := p
      simp only at c1 c2 hpf Hok Hbad Hnew
      have Hkey := Lib.hid (WideMaps.keyOf_string_mk Tryz.underlying9 (s := ⟨x.toArray⟩) (by simp only [ByteArray.size, List.size_toArray]; unfold maxLen; omega))
      have Hy := Lib.hid (show y.length ≤ maxLen by unfold maxLen; omega)
      clear hpf hpg
      go_upto_region 6 with (fail)
      have Hq := Lib.hid (Holds.new wr 27 [.string ⟨x.toArray⟩, .string ⟨y.toArray⟩])
      have Hsq2 := Lib.hid (show (wr.alloc (.cells #[.string ⟨x.toArray⟩, .string ⟨y.toArray⟩] 27)).heap.size = wr.heap.size + 1 by simp)
      have Hpq := Lib.hid (Hp.out.behind (.cells #[.string ⟨x.toArray⟩, .string ⟨y.toArray⟩] 27))
      have Hdq := Lib.hid (Hdv.out.grown (World.grownBy_alloc wr (.cells #[.string ⟨x.toArray⟩, .string ⟨y.toArray⟩] 27) none) (by simp))
      have Hoq := Lib.hid (World.ownsRow.alloc Hown0.out (.cells #[.string ⟨x.toArray⟩, .string ⟨y.toArray⟩] 27))
      generalize wr.alloc (.cells #[.string ⟨x.toArray⟩, .string ⟨y.toArray⟩] 27) = wq at *
      generalize wr.heap.size = qb at *
      have q0 := Hq.out.at (i := 0) (v := .string ⟨x.toArray⟩) rfl
      have q1 := Hq.out.at (i := 1) (v := .string ⟨y.toArray⟩) rfl
      clear c1 c2
      by_cases hkn : isKnown x = true
      · have hcase : x = [103, 105, 100] ∨ x = [103, 110, 97, 109, 101] ∨ x = [108, 105, 110, 107, 112, 97, 116, 104] ∨ x = [109, 116, 105, 109, 101] ∨ x = [112, 97, 116, 104] ∨ x = [115, 105, 122, 101] ∨ x = [117, 105, 100] ∨ x = [117, 110, 97, 109, 101] := of_decide_eq_true hkn
        rcases hcase with rfl | rfl | rfl | rfl | rfl | rfl | rfl | rfl
        · have Hat := Lib.hid (show (knownD t).atKey (.string [103, 105, 100]) (.held zField) = .held (.agg #[Value.func (.func 128) #[] #[.pointer (some ⟨t.g, 0, none⟩)], Value.func (.func 130) #[] #[.pointer (some ⟨t.g, 0, none⟩)], Value.func (.func 132) #[] #[.pointer (some ⟨t.g, 0, none⟩)]]) by rw [knownD_eq]; rfl)
          have Hhas := Lib.hid (show Maps.has (knownD t) (.string [103, 105, 100]) = true from (known_has t _).trans hkn)
          have Hst := Lib.hid (Holds.new wq 85 [.nilFunc, .nilFunc, .nilFunc])
          have Hone := Lib.hid (show #[Value.func (.func 128) #[] #[.pointer (some ⟨t.g, 0, none⟩)], Value.func (.func 130) #[] #[.pointer (some ⟨t.g, 0, none⟩)], Value.func (.func 132) #[] #[.pointer (some ⟨t.g, 0, none⟩)]].all (·.oneCell') = true by simp [Value.oneCell'])
          have Hs1 := Lib.hid (show (Tryz.prog.info? 85).map (·.size) = some 3 by kernel_rfl)
          go_upto_region 7 with (first
            | (refine wpList_look_held _ (by rfl) _ _ 79 (by rfl) 9 85 (string_keyed Tryz.underlying9) Tryz.underlying79 (zero_field _) (w1.heap.size + 1) 8 (knownD t) (by rfl) (Hown.out _ Hdq.out) _ (.string [103, 105, 100]) (by rfl) Hkey.out (.agg #[Value.func (.func 128) #[] #[.pointer (some ⟨t.g, 0, none⟩)], Value.func (.func 130) #[] #[.pointer (some ⟨t.g, 0, none⟩)], Value.func (.func 132) #[] #[.pointer (some ⟨t.g, 0, none⟩)]]) true Hat.out Hhas.out ?_)
            | (refine wpList_store_row (by rfl) 85 _ _ (by rfl) wq.heap.size #[Value.func (.func 128) #[] #[.pointer (some ⟨t.g, 0, none⟩)], Value.func (.func 130) #[] #[.pointer (some ⟨t.g, 0, none⟩)], Value.func (.func 132) #[] #[.pointer (some ⟨t.g, 0, none⟩)]] (by rfl) (by rfl) 85 #[.nilFunc, .nilFunc, .nilFunc] Hst.out Hs1.out (by rfl) Hone.out ?_; rw [World.setRow_alloc_new])
            | fail)
          have Hff := Lib.hid (Holds.new wq 85 [Value.func (.func 128) #[] #[.pointer (some ⟨t.g, 0, none⟩)], Value.func (.func 130) #[] #[.pointer (some ⟨t.g, 0, none⟩)], Value.func (.func 132) #[] #[.pointer (some ⟨t.g, 0, none⟩)]])
          have Hpf := Lib.hid (Hpq.out.behind (.cells #[Value.func (.func 128) #[] #[.pointer (some ⟨t.g, 0, none⟩)], Value.func (.func 130) #[] #[.pointer (some ⟨t.g, 0, none⟩)], Value.func (.func 132) #[] #[.pointer (some ⟨t.g, 0, none⟩)]] 85))
          have Hqf := Lib.hid (Hq.out.behind (.cells #[Value.func (.func 128) #[] #[.pointer (some ⟨t.g, 0, none⟩)], Value.func (.func 130) #[] #[.pointer (some ⟨t.g, 0, none⟩)], Value.func (.func 132) #[] #[.pointer (some ⟨t.g, 0, none⟩)]] 85))
          have Hdf := Lib.hid (Hdq.out.grown (World.grownBy_alloc wq (.cells #[Value.func (.func 128) #[] #[.pointer (some ⟨t.g, 0, none⟩)], Value.func (.func 130) #[] #[.pointer (some ⟨t.g, 0, none⟩)], Value.func (.func 132) #[] #[.pointer (some ⟨t.g, 0, none⟩)]] 85) none) (by simp))
          have Hof := Lib.hid (World.ownsRow.alloc Hoq.out (.cells #[Value.func (.func 128) #[] #[.pointer (some ⟨t.g, 0, none⟩)], Value.func (.func 130) #[] #[.pointer (some ⟨t.g, 0, none⟩)], Value.func (.func 132) #[] #[.pointer (some ⟨t.g, 0, none⟩)]] 85))
          clear Hst q0 q1
          generalize wq.alloc (.cells #[Value.func (.func 128) #[] #[.pointer (some ⟨t.g, 0, none⟩)], Value.func (.func 130) #[] #[.pointer (some ⟨t.g, 0, none⟩)], Value.func (.func 132) #[] #[.pointer (some ⟨t.g, 0, none⟩)]] 85) = wf at *
          generalize wq.heap.size = fb at *
          have f0 := Hff.out.at (i := 0) (v := Value.func (.func 128) #[] #[.pointer (some ⟨t.g, 0, none⟩)]) rfl
          have p1 := Hqf.out.at (i := 1) (v := .string ⟨y.toArray⟩) rfl
          have Hset := Lib.hid (apSetGid m (.slice av L.length cs) n y Hy.out w1.heap.size t.g wf Hpf.out (Ht.out _ Hdf.out).1)
          unfold Sets at Hset
          clear Hat Hhas Hone Hs1 Hnew
          generalize apK [103, 105, 100] y m n = A at *
          obtain ⟨Am, An, Ae⟩ := A
          simp only at Hset Hok Hbad
          go_wp2_with (fail)
          refine Hset.out.mono ?_
          rintro e w5 ⟨g5, hp5, rfl⟩
          have Hp5 := Lib.hid hp5
          have Hd5 := Lib.hid (Hdf.out.grown g5 (fun k hk => by cases hk; exact .inl rfl))
          have Ho5 := Lib.hid (show OwnP w5 w2.heap.size (.slice av L.length cs) L from World.ownsRow.kept Hof.out g5 (by
            rcases hv2 : (Value.slice av L.length cs).ownBlock with _ | g
            · exact .inl rfl
            · right
              have h1 := (Hof.out.lt g hv2).1
              have h2 := Hbz.out
              intro e
              injection e with e
              omega))
          clear hp5 g5 f0 p1 Hset
          by_cases h0 : Ae = 0
          · subst h0
            have Hn := Lib.hid (Hok.out hkn rfl)
            go_wp2
            go_roundw
            case rel => exact ⟨k + 1, Am, An, L, av, cs, by go_num, by omega, Hn.out, by have := HLl.out; omega, Ho5.out, Hp5.out, Hd5.out⟩
            case measure => simp [intOf]; omega
          · have e0 : (Ae == 0) = false := by simpa using h0
            have e1 : (Ae != 0) = true := by simpa using h0
            have hRb := Hbad.out hkn h0
            subst hRb
            clear h0 Hok Hbad
            have Hz5 := Lib.hid (Hd5.out.holds Hz2.out (by have := Hsz1.out; omega) (by have := Hsz1.out; omega))
            have Hb5 := Lib.hid (Hd5.out.below Hb2.out Hp1.out Hp1.out)
            have Hzn := Lib.hid (show (Tryz.prog.info? 34).map (·.size) = some Z.toArray.size by rw [← HZ.out]; exact mb_size mZero)
            have Hzo := Lib.hid (show Z.toArray.all (·.oneCell') = true by rw [← HZ.out]; simp [mZero, Mb.cells, Value.oneCell'])
            have Hend := Lib.hid (show Holds (w5.setRow (w.heap.size + 1) Z.toArray) (w.heap.size + 1) 34 (mZero.ex (.slice none 0 0)).cells by rw [show (mZero.ex (.slice none 0 0)).cells = Z from HZ.out]; exact setRow_heap _ _ _ _ _ _ Hz5.out)
            have Hbe := Lib.hid (show Below w.heap.size w (w5.setRow (w.heap.size + 1) Z.toArray) from below_setRow Hb5.out (by omega) _)
            go_wp2_with (first
              | (refine wpList_build_is (by rfl) 34 _ (by rfl) _ _ HbZ.out ?_ ?_; kernel_rfl)
              | (refine wpList_store_row (by rfl) 34 _ _ (by rfl) (w.heap.size + 1) Z.toArray (by rfl) (by rfl) _ _ Hz5.out Hzn.out (by rfl) Hzo.out ?_)
              | fail)
            exact bodyPost_ret (results_row3 Tryz.results13 _ _ (w.heap.size + 1) _ (mZero.ex (.slice none 0 0)).cells.toArray _ _ (.int .i64 0) (.int .i64 Ae) (by rfl) (by rfl) (by rfl) Hend.out Tryz.underlying34 rfl (mb_size _)) rfl ⟨Hbe.out, .slice none 0 0, rfl, World.ownsRow_nil _ _ _ _⟩
        · have Hat := Lib.hid (show (knownD t).atKey (.string [103, 110, 97, 109, 101]) (.held zField) = .held (.agg #[Value.func (.func 134) #[] #[.pointer (some ⟨t.gn, 0, none⟩)], Value.func (.func 136) #[] #[.pointer (some ⟨t.gn, 0, none⟩)], Value.func (.func 137) #[] #[.pointer (some ⟨t.gn, 0, none⟩)]]) by rw [knownD_eq]; rfl)
          have Hhas := Lib.hid (show Maps.has (knownD t) (.string [103, 110, 97, 109, 101]) = true from (known_has t _).trans hkn)
          have Hst := Lib.hid (Holds.new wq 85 [.nilFunc, .nilFunc, .nilFunc])
          have Hone := Lib.hid (show #[Value.func (.func 134) #[] #[.pointer (some ⟨t.gn, 0, none⟩)], Value.func (.func 136) #[] #[.pointer (some ⟨t.gn, 0, none⟩)], Value.func (.func 137) #[] #[.pointer (some ⟨t.gn, 0, none⟩)]].all (·.oneCell') = true by simp [Value.oneCell'])
          have Hs1 := Lib.hid (show (Tryz.prog.info? 85).map (·.size) = some 3 by kernel_rfl)
          go_upto_region 7 with (first
            | (refine wpList_look_held _ (by rfl) _ _ 79 (by rfl) 9 85 (string_keyed Tryz.underlying9) Tryz.underlying79 (zero_field _) (w1.heap.size + 1) 8 (knownD t) (by rfl) (Hown.out _ Hdq.out) _ (.string [103, 110, 97, 109, 101]) (by rfl) Hkey.out (.agg #[Value.func (.func 134) #[] #[.pointer (some ⟨t.gn, 0, none⟩)], Value.func (.func 136) #[] #[.pointer (some ⟨t.gn, 0, none⟩)], Value.func (.func 137) #[] #[.pointer (some ⟨t.gn, 0, none⟩)]]) true Hat.out Hhas.out ?_)
            | (refine wpList_store_row (by rfl) 85 _ _ (by rfl) wq.heap.size #[Value.func (.func 134) #[] #[.pointer (some ⟨t.gn, 0, none⟩)], Value.func (.func 136) #[] #[.pointer (some ⟨t.gn, 0, none⟩)], Value.func (.func 137) #[] #[.pointer (some ⟨t.gn, 0, none⟩)]] (by rfl) (by rfl) 85 #[.nilFunc, .nilFunc, .nilFunc] Hst.out Hs1.out (by rfl) Hone.out ?_; rw [World.setRow_alloc_new])
            | fail)
          have Hff := Lib.hid (Holds.new wq 85 [Value.func (.func 134) #[] #[.pointer (some ⟨t.gn, 0, none⟩)], Value.func (.func 136) #[] #[.pointer (some ⟨t.gn, 0, none⟩)], Value.func (.func 137) #[] #[.pointer (some ⟨t.gn, 0, none⟩)]])
          have Hpf := Lib.hid (Hpq.out.behind (.cells #[Value.func (.func 134) #[] #[.pointer (some ⟨t.gn, 0, none⟩)], Value.func (.func 136) #[] #[.pointer (some ⟨t.gn, 0, none⟩)], Value.func (.func 137) #[] #[.pointer (some ⟨t.gn, 0, none⟩)]] 85))
          have Hqf := Lib.hid (Hq.out.behind (.cells #[Value.func (.func 134) #[] #[.pointer (some ⟨t.gn, 0, none⟩)], Value.func (.func 136) #[] #[.pointer (some ⟨t.gn, 0, none⟩)], Value.func (.func 137) #[] #[.pointer (some ⟨t.gn, 0, none⟩)]] 85))
          have Hdf := Lib.hid (Hdq.out.grown (World.grownBy_alloc wq (.cells #[Value.func (.func 134) #[] #[.pointer (some ⟨t.gn, 0, none⟩)], Value.func (.func 136) #[] #[.pointer (some ⟨t.gn, 0, none⟩)], Value.func (.func 137) #[] #[.pointer (some ⟨t.gn, 0, none⟩)]] 85) none) (by simp))
          have Hof := Lib.hid (World.ownsRow.alloc Hoq.out (.cells #[Value.func (.func 134) #[] #[.pointer (some ⟨t.gn, 0, none⟩)], Value.func (.func 136) #[] #[.pointer (some ⟨t.gn, 0, none⟩)], Value.func (.func 137) #[] #[.pointer (some ⟨t.gn, 0, none⟩)]] 85))
          clear Hst q0 q1
          generalize wq.alloc (.cells #[Value.func (.func 134) #[] #[.pointer (some ⟨t.gn, 0, none⟩)], Value.func (.func 136) #[] #[.pointer (some ⟨t.gn, 0, none⟩)], Value.func (.func 137) #[] #[.pointer (some ⟨t.gn, 0, none⟩)]] 85) = wf at *
          generalize wq.heap.size = fb at *
          have f0 := Hff.out.at (i := 0) (v := Value.func (.func 134) #[] #[.pointer (some ⟨t.gn, 0, none⟩)]) rfl
          have p1 := Hqf.out.at (i := 1) (v := .string ⟨y.toArray⟩) rfl
          have Hset := Lib.hid (apSetGname m (.slice av L.length cs) n y w1.heap.size t.gn wf Hpf.out (Ht.out _ Hdf.out).2.1)
          unfold Sets at Hset
          clear Hat Hhas Hone Hs1 Hnew
          generalize apK [103, 110, 97, 109, 101] y m n = A at *
          obtain ⟨Am, An, Ae⟩ := A
          simp only at Hset Hok Hbad
          go_wp2_with (fail)
          refine Hset.out.mono ?_
          rintro e w5 ⟨g5, hp5, rfl⟩
          have Hp5 := Lib.hid hp5
          have Hd5 := Lib.hid (Hdf.out.grown g5 (fun k hk => by cases hk; exact .inl rfl))
          have Ho5 := Lib.hid (show OwnP w5 w2.heap.size (.slice av L.length cs) L from World.ownsRow.kept Hof.out g5 (by
            rcases hv2 : (Value.slice av L.length cs).ownBlock with _ | g
            · exact .inl rfl
            · right
              have h1 := (Hof.out.lt g hv2).1
              have h2 := Hbz.out
              intro e
              injection e with e
              omega))
          clear hp5 g5 f0 p1 Hset
          by_cases h0 : Ae = 0
          · subst h0
            have Hn := Lib.hid (Hok.out hkn rfl)
            go_wp2
            go_roundw
            case rel => exact ⟨k + 1, Am, An, L, av, cs, by go_num, by omega, Hn.out, by have := HLl.out; omega, Ho5.out, Hp5.out, Hd5.out⟩
            case measure => simp [intOf]; omega
          · have e0 : (Ae == 0) = false := by simpa using h0
            have e1 : (Ae != 0) = true := by simpa using h0
            have hRb := Hbad.out hkn h0
            subst hRb
            clear h0 Hok Hbad
            have Hz5 := Lib.hid (Hd5.out.holds Hz2.out (by have := Hsz1.out; omega) (by have := Hsz1.out; omega))
            have Hb5 := Lib.hid (Hd5.out.below Hb2.out Hp1.out Hp1.out)
            have Hzn := Lib.hid (show (Tryz.prog.info? 34).map (·.size) = some Z.toArray.size by rw [← HZ.out]; exact mb_size mZero)
            have Hzo := Lib.hid (show Z.toArray.all (·.oneCell') = true by rw [← HZ.out]; simp [mZero, Mb.cells, Value.oneCell'])
            have Hend := Lib.hid (show Holds (w5.setRow (w.heap.size + 1) Z.toArray) (w.heap.size + 1) 34 (mZero.ex (.slice none 0 0)).cells by rw [show (mZero.ex (.slice none 0 0)).cells = Z from HZ.out]; exact setRow_heap _ _ _ _ _ _ Hz5.out)
            have Hbe := Lib.hid (show Below w.heap.size w (w5.setRow (w.heap.size + 1) Z.toArray) from below_setRow Hb5.out (by omega) _)
            go_wp2_with (first
              | (refine wpList_build_is (by rfl) 34 _ (by rfl) _ _ HbZ.out ?_ ?_; kernel_rfl)
              | (refine wpList_store_row (by rfl) 34 _ _ (by rfl) (w.heap.size + 1) Z.toArray (by rfl) (by rfl) _ _ Hz5.out Hzn.out (by rfl) Hzo.out ?_)
              | fail)
            exact bodyPost_ret (results_row3 Tryz.results13 _ _ (w.heap.size + 1) _ (mZero.ex (.slice none 0 0)).cells.toArray _ _ (.int .i64 0) (.int .i64 Ae) (by rfl) (by rfl) (by rfl) Hend.out Tryz.underlying34 rfl (mb_size _)) rfl ⟨Hbe.out, .slice none 0 0, rfl, World.ownsRow_nil _ _ _ _⟩
        · have Hat := Lib.hid (show (knownD t).atKey (.string [108, 105, 110, 107, 112, 97, 116, 104]) (.held zField) = .held (.agg #[Value.func (.func 134) #[] #[.pointer (some ⟨t.l, 0, none⟩)], Value.func (.func 136) #[] #[.pointer (some ⟨t.l, 0, none⟩)], Value.func (.func 137) #[] #[.pointer (some ⟨t.l, 0, none⟩)]]) by rw [knownD_eq]; rfl)
          have Hhas := Lib.hid (show Maps.has (knownD t) (.string [108, 105, 110, 107, 112, 97, 116, 104]) = true from (known_has t _).trans hkn)
          have Hst := Lib.hid (Holds.new wq 85 [.nilFunc, .nilFunc, .nilFunc])
          have Hone := Lib.hid (show #[Value.func (.func 134) #[] #[.pointer (some ⟨t.l, 0, none⟩)], Value.func (.func 136) #[] #[.pointer (some ⟨t.l, 0, none⟩)], Value.func (.func 137) #[] #[.pointer (some ⟨t.l, 0, none⟩)]].all (·.oneCell') = true by simp [Value.oneCell'])
          have Hs1 := Lib.hid (show (Tryz.prog.info? 85).map (·.size) = some 3 by kernel_rfl)
          go_upto_region 7 with (first
            | (refine wpList_look_held _ (by rfl) _ _ 79 (by rfl) 9 85 (string_keyed Tryz.underlying9) Tryz.underlying79 (zero_field _) (w1.heap.size + 1) 8 (knownD t) (by rfl) (Hown.out _ Hdq.out) _ (.string [108, 105, 110, 107, 112, 97, 116, 104]) (by rfl) Hkey.out (.agg #[Value.func (.func 134) #[] #[.pointer (some ⟨t.l, 0, none⟩)], Value.func (.func 136) #[] #[.pointer (some ⟨t.l, 0, none⟩)], Value.func (.func 137) #[] #[.pointer (some ⟨t.l, 0, none⟩)]]) true Hat.out Hhas.out ?_)
            | (refine wpList_store_row (by rfl) 85 _ _ (by rfl) wq.heap.size #[Value.func (.func 134) #[] #[.pointer (some ⟨t.l, 0, none⟩)], Value.func (.func 136) #[] #[.pointer (some ⟨t.l, 0, none⟩)], Value.func (.func 137) #[] #[.pointer (some ⟨t.l, 0, none⟩)]] (by rfl) (by rfl) 85 #[.nilFunc, .nilFunc, .nilFunc] Hst.out Hs1.out (by rfl) Hone.out ?_; rw [World.setRow_alloc_new])
            | fail)
          have Hff := Lib.hid (Holds.new wq 85 [Value.func (.func 134) #[] #[.pointer (some ⟨t.l, 0, none⟩)], Value.func (.func 136) #[] #[.pointer (some ⟨t.l, 0, none⟩)], Value.func (.func 137) #[] #[.pointer (some ⟨t.l, 0, none⟩)]])
          have Hpf := Lib.hid (Hpq.out.behind (.cells #[Value.func (.func 134) #[] #[.pointer (some ⟨t.l, 0, none⟩)], Value.func (.func 136) #[] #[.pointer (some ⟨t.l, 0, none⟩)], Value.func (.func 137) #[] #[.pointer (some ⟨t.l, 0, none⟩)]] 85))
          have Hqf := Lib.hid (Hq.out.behind (.cells #[Value.func (.func 134) #[] #[.pointer (some ⟨t.l, 0, none⟩)], Value.func (.func 136) #[] #[.pointer (some ⟨t.l, 0, none⟩)], Value.func (.func 137) #[] #[.pointer (some ⟨t.l, 0, none⟩)]] 85))
          have Hdf := Lib.hid (Hdq.out.grown (World.grownBy_alloc wq (.cells #[Value.func (.func 134) #[] #[.pointer (some ⟨t.l, 0, none⟩)], Value.func (.func 136) #[] #[.pointer (some ⟨t.l, 0, none⟩)], Value.func (.func 137) #[] #[.pointer (some ⟨t.l, 0, none⟩)]] 85) none) (by simp))
          have Hof := Lib.hid (World.ownsRow.alloc Hoq.out (.cells #[Value.func (.func 134) #[] #[.pointer (some ⟨t.l, 0, none⟩)], Value.func (.func 136) #[] #[.pointer (some ⟨t.l, 0, none⟩)], Value.func (.func 137) #[] #[.pointer (some ⟨t.l, 0, none⟩)]] 85))
          clear Hst q0 q1
          generalize wq.alloc (.cells #[Value.func (.func 134) #[] #[.pointer (some ⟨t.l, 0, none⟩)], Value.func (.func 136) #[] #[.pointer (some ⟨t.l, 0, none⟩)], Value.func (.func 137) #[] #[.pointer (some ⟨t.l, 0, none⟩)]] 85) = wf at *
          generalize wq.heap.size = fb at *
          have f0 := Hff.out.at (i := 0) (v := Value.func (.func 134) #[] #[.pointer (some ⟨t.l, 0, none⟩)]) rfl
          have p1 := Hqf.out.at (i := 1) (v := .string ⟨y.toArray⟩) rfl
          have Hset := Lib.hid (apSetLink m (.slice av L.length cs) n y w1.heap.size t.l wf Hpf.out (Ht.out _ Hdf.out).2.2.1)
          unfold Sets at Hset
          clear Hat Hhas Hone Hs1 Hnew
          generalize apK [108, 105, 110, 107, 112, 97, 116, 104] y m n = A at *
          obtain ⟨Am, An, Ae⟩ := A
          simp only at Hset Hok Hbad
          go_wp2_with (fail)
          refine Hset.out.mono ?_
          rintro e w5 ⟨g5, hp5, rfl⟩
          have Hp5 := Lib.hid hp5
          have Hd5 := Lib.hid (Hdf.out.grown g5 (fun k hk => by cases hk; exact .inl rfl))
          have Ho5 := Lib.hid (show OwnP w5 w2.heap.size (.slice av L.length cs) L from World.ownsRow.kept Hof.out g5 (by
            rcases hv2 : (Value.slice av L.length cs).ownBlock with _ | g
            · exact .inl rfl
            · right
              have h1 := (Hof.out.lt g hv2).1
              have h2 := Hbz.out
              intro e
              injection e with e
              omega))
          clear hp5 g5 f0 p1 Hset
          by_cases h0 : Ae = 0
          · subst h0
            have Hn := Lib.hid (Hok.out hkn rfl)
            go_wp2
            go_roundw
            case rel => exact ⟨k + 1, Am, An, L, av, cs, by go_num, by omega, Hn.out, by have := HLl.out; omega, Ho5.out, Hp5.out, Hd5.out⟩
            case measure => simp [intOf]; omega
          · have e0 : (Ae == 0) = false := by simpa using h0
            have e1 : (Ae != 0) = true := by simpa using h0
            have hRb := Hbad.out hkn h0
            subst hRb
            clear h0 Hok Hbad
            have Hz5 := Lib.hid (Hd5.out.holds Hz2.out (by have := Hsz1.out; omega) (by have := Hsz1.out; omega))
            have Hb5 := Lib.hid (Hd5.out.below Hb2.out Hp1.out Hp1.out)
            have Hzn := Lib.hid (show (Tryz.prog.info? 34).map (·.size) = some Z.toArray.size by rw [← HZ.out]; exact mb_size mZero)
            have Hzo := Lib.hid (show Z.toArray.all (·.oneCell') = true by rw [← HZ.out]; simp [mZero, Mb.cells, Value.oneCell'])
            have Hend := Lib.hid (show Holds (w5.setRow (w.heap.size + 1) Z.toArray) (w.heap.size + 1) 34 (mZero.ex (.slice none 0 0)).cells by rw [show (mZero.ex (.slice none 0 0)).cells = Z from HZ.out]; exact setRow_heap _ _ _ _ _ _ Hz5.out)
            have Hbe := Lib.hid (show Below w.heap.size w (w5.setRow (w.heap.size + 1) Z.toArray) from below_setRow Hb5.out (by omega) _)
            go_wp2_with (first
              | (refine wpList_build_is (by rfl) 34 _ (by rfl) _ _ HbZ.out ?_ ?_; kernel_rfl)
              | (refine wpList_store_row (by rfl) 34 _ _ (by rfl) (w.heap.size + 1) Z.toArray (by rfl) (by rfl) _ _ Hz5.out Hzn.out (by rfl) Hzo.out ?_)
              | fail)
            exact bodyPost_ret (results_row3 Tryz.results13 _ _ (w.heap.size + 1) _ (mZero.ex (.slice none 0 0)).cells.toArray _ _ (.int .i64 0) (.int .i64 Ae) (by rfl) (by rfl) (by rfl) Hend.out Tryz.underlying34 rfl (mb_size _)) rfl ⟨Hbe.out, .slice none 0 0, rfl, World.ownsRow_nil _ _ _ _⟩
        · have Hat := Lib.hid (show (knownD t).atKey (.string [109, 116, 105, 109, 101]) (.held zField) = .held (.agg #[Value.func (.func 139) #[] #[], Value.func (.func 141) #[] #[], Value.func (.func 143) #[] #[]]) by rw [knownD_eq]; rfl)
          have Hhas := Lib.hid (show Maps.has (knownD t) (.string [109, 116, 105, 109, 101]) = true from (known_has t _).trans hkn)
          have Hst := Lib.hid (Holds.new wq 85 [.nilFunc, .nilFunc, .nilFunc])
          have Hone := Lib.hid (show #[Value.func (.func 139) #[] #[], Value.func (.func 141) #[] #[], Value.func (.func 143) #[] #[]].all (·.oneCell') = true by simp [Value.oneCell'])
          have Hs1 := Lib.hid (show (Tryz.prog.info? 85).map (·.size) = some 3 by kernel_rfl)
          go_upto_region 7 with (first
            | (refine wpList_look_held _ (by rfl) _ _ 79 (by rfl) 9 85 (string_keyed Tryz.underlying9) Tryz.underlying79 (zero_field _) (w1.heap.size + 1) 8 (knownD t) (by rfl) (Hown.out _ Hdq.out) _ (.string [109, 116, 105, 109, 101]) (by rfl) Hkey.out (.agg #[Value.func (.func 139) #[] #[], Value.func (.func 141) #[] #[], Value.func (.func 143) #[] #[]]) true Hat.out Hhas.out ?_)
            | (refine wpList_store_row (by rfl) 85 _ _ (by rfl) wq.heap.size #[Value.func (.func 139) #[] #[], Value.func (.func 141) #[] #[], Value.func (.func 143) #[] #[]] (by rfl) (by rfl) 85 #[.nilFunc, .nilFunc, .nilFunc] Hst.out Hs1.out (by rfl) Hone.out ?_; rw [World.setRow_alloc_new])
            | fail)
          have Hff := Lib.hid (Holds.new wq 85 [Value.func (.func 139) #[] #[], Value.func (.func 141) #[] #[], Value.func (.func 143) #[] #[]])
          have Hpf := Lib.hid (Hpq.out.behind (.cells #[Value.func (.func 139) #[] #[], Value.func (.func 141) #[] #[], Value.func (.func 143) #[] #[]] 85))
          have Hqf := Lib.hid (Hq.out.behind (.cells #[Value.func (.func 139) #[] #[], Value.func (.func 141) #[] #[], Value.func (.func 143) #[] #[]] 85))
          have Hdf := Lib.hid (Hdq.out.grown (World.grownBy_alloc wq (.cells #[Value.func (.func 139) #[] #[], Value.func (.func 141) #[] #[], Value.func (.func 143) #[] #[]] 85) none) (by simp))
          have Hof := Lib.hid (World.ownsRow.alloc Hoq.out (.cells #[Value.func (.func 139) #[] #[], Value.func (.func 141) #[] #[], Value.func (.func 143) #[] #[]] 85))
          clear Hst q0 q1
          generalize wq.alloc (.cells #[Value.func (.func 139) #[] #[], Value.func (.func 141) #[] #[], Value.func (.func 143) #[] #[]] 85) = wf at *
          generalize wq.heap.size = fb at *
          have f0 := Hff.out.at (i := 0) (v := Value.func (.func 139) #[] #[]) rfl
          have p1 := Hqf.out.at (i := 1) (v := .string ⟨y.toArray⟩) rfl
          have Hset := Lib.hid (apSetTime m (.slice av L.length cs) n y Hy.out w1.heap.size wf Hpf.out)
          unfold Sets at Hset
          clear Hat Hhas Hone Hs1 Hnew
          generalize apK [109, 116, 105, 109, 101] y m n = A at *
          obtain ⟨Am, An, Ae⟩ := A
          simp only at Hset Hok Hbad
          go_wp2_with (fail)
          refine Hset.out.mono ?_
          rintro e w5 ⟨g5, hp5, rfl⟩
          have Hp5 := Lib.hid hp5
          have Hd5 := Lib.hid (Hdf.out.grown g5 (fun k hk => by cases hk; exact .inl rfl))
          have Ho5 := Lib.hid (show OwnP w5 w2.heap.size (.slice av L.length cs) L from World.ownsRow.kept Hof.out g5 (by
            rcases hv2 : (Value.slice av L.length cs).ownBlock with _ | g
            · exact .inl rfl
            · right
              have h1 := (Hof.out.lt g hv2).1
              have h2 := Hbz.out
              intro e
              injection e with e
              omega))
          clear hp5 g5 f0 p1 Hset
          by_cases h0 : Ae = 0
          · subst h0
            have Hn := Lib.hid (Hok.out hkn rfl)
            go_wp2
            go_roundw
            case rel => exact ⟨k + 1, Am, An, L, av, cs, by go_num, by omega, Hn.out, by have := HLl.out; omega, Ho5.out, Hp5.out, Hd5.out⟩
            case measure => simp [intOf]; omega
          · have e0 : (Ae == 0) = false := by simpa using h0
            have e1 : (Ae != 0) = true := by simpa using h0
            have hRb := Hbad.out hkn h0
            subst hRb
            clear h0 Hok Hbad
            have Hz5 := Lib.hid (Hd5.out.holds Hz2.out (by have := Hsz1.out; omega) (by have := Hsz1.out; omega))
            have Hb5 := Lib.hid (Hd5.out.below Hb2.out Hp1.out Hp1.out)
            have Hzn := Lib.hid (show (Tryz.prog.info? 34).map (·.size) = some Z.toArray.size by rw [← HZ.out]; exact mb_size mZero)
            have Hzo := Lib.hid (show Z.toArray.all (·.oneCell') = true by rw [← HZ.out]; simp [mZero, Mb.cells, Value.oneCell'])
            have Hend := Lib.hid (show Holds (w5.setRow (w.heap.size + 1) Z.toArray) (w.heap.size + 1) 34 (mZero.ex (.slice none 0 0)).cells by rw [show (mZero.ex (.slice none 0 0)).cells = Z from HZ.out]; exact setRow_heap _ _ _ _ _ _ Hz5.out)
            have Hbe := Lib.hid (show Below w.heap.size w (w5.setRow (w.heap.size + 1) Z.toArray) from below_setRow Hb5.out (by omega) _)
            go_wp2_with (first
              | (refine wpList_build_is (by rfl) 34 _ (by rfl) _ _ HbZ.out ?_ ?_; kernel_rfl)
              | (refine wpList_store_row (by rfl) 34 _ _ (by rfl) (w.heap.size + 1) Z.toArray (by rfl) (by rfl) _ _ Hz5.out Hzn.out (by rfl) Hzo.out ?_)
              | fail)
            exact bodyPost_ret (results_row3 Tryz.results13 _ _ (w.heap.size + 1) _ (mZero.ex (.slice none 0 0)).cells.toArray _ _ (.int .i64 0) (.int .i64 Ae) (by rfl) (by rfl) (by rfl) Hend.out Tryz.underlying34 rfl (mb_size _)) rfl ⟨Hbe.out, .slice none 0 0, rfl, World.ownsRow_nil _ _ _ _⟩
        · have Hat := Lib.hid (show (knownD t).atKey (.string [112, 97, 116, 104]) (.held zField) = .held (.agg #[Value.func (.func 134) #[] #[.pointer (some ⟨t.p, 0, none⟩)], Value.func (.func 136) #[] #[.pointer (some ⟨t.p, 0, none⟩)], Value.func (.func 137) #[] #[.pointer (some ⟨t.p, 0, none⟩)]]) by rw [knownD_eq]; rfl)
          have Hhas := Lib.hid (show Maps.has (knownD t) (.string [112, 97, 116, 104]) = true from (known_has t _).trans hkn)
          have Hst := Lib.hid (Holds.new wq 85 [.nilFunc, .nilFunc, .nilFunc])
          have Hone := Lib.hid (show #[Value.func (.func 134) #[] #[.pointer (some ⟨t.p, 0, none⟩)], Value.func (.func 136) #[] #[.pointer (some ⟨t.p, 0, none⟩)], Value.func (.func 137) #[] #[.pointer (some ⟨t.p, 0, none⟩)]].all (·.oneCell') = true by simp [Value.oneCell'])
          have Hs1 := Lib.hid (show (Tryz.prog.info? 85).map (·.size) = some 3 by kernel_rfl)
          go_upto_region 7 with (first
            | (refine wpList_look_held _ (by rfl) _ _ 79 (by rfl) 9 85 (string_keyed Tryz.underlying9) Tryz.underlying79 (zero_field _) (w1.heap.size + 1) 8 (knownD t) (by rfl) (Hown.out _ Hdq.out) _ (.string [112, 97, 116, 104]) (by rfl) Hkey.out (.agg #[Value.func (.func 134) #[] #[.pointer (some ⟨t.p, 0, none⟩)], Value.func (.func 136) #[] #[.pointer (some ⟨t.p, 0, none⟩)], Value.func (.func 137) #[] #[.pointer (some ⟨t.p, 0, none⟩)]]) true Hat.out Hhas.out ?_)
            | (refine wpList_store_row (by rfl) 85 _ _ (by rfl) wq.heap.size #[Value.func (.func 134) #[] #[.pointer (some ⟨t.p, 0, none⟩)], Value.func (.func 136) #[] #[.pointer (some ⟨t.p, 0, none⟩)], Value.func (.func 137) #[] #[.pointer (some ⟨t.p, 0, none⟩)]] (by rfl) (by rfl) 85 #[.nilFunc, .nilFunc, .nilFunc] Hst.out Hs1.out (by rfl) Hone.out ?_; rw [World.setRow_alloc_new])
            | fail)
          have Hff := Lib.hid (Holds.new wq 85 [Value.func (.func 134) #[] #[.pointer (some ⟨t.p, 0, none⟩)], Value.func (.func 136) #[] #[.pointer (some ⟨t.p, 0, none⟩)], Value.func (.func 137) #[] #[.pointer (some ⟨t.p, 0, none⟩)]])
          have Hpf := Lib.hid (Hpq.out.behind (.cells #[Value.func (.func 134) #[] #[.pointer (some ⟨t.p, 0, none⟩)], Value.func (.func 136) #[] #[.pointer (some ⟨t.p, 0, none⟩)], Value.func (.func 137) #[] #[.pointer (some ⟨t.p, 0, none⟩)]] 85))
          have Hqf := Lib.hid (Hq.out.behind (.cells #[Value.func (.func 134) #[] #[.pointer (some ⟨t.p, 0, none⟩)], Value.func (.func 136) #[] #[.pointer (some ⟨t.p, 0, none⟩)], Value.func (.func 137) #[] #[.pointer (some ⟨t.p, 0, none⟩)]] 85))
          have Hdf := Lib.hid (Hdq.out.grown (World.grownBy_alloc wq (.cells #[Value.func (.func 134) #[] #[.pointer (some ⟨t.p, 0, none⟩)], Value.func (.func 136) #[] #[.pointer (some ⟨t.p, 0, none⟩)], Value.func (.func 137) #[] #[.pointer (some ⟨t.p, 0, none⟩)]] 85) none) (by simp))
          have Hof := Lib.hid (World.ownsRow.alloc Hoq.out (.cells #[Value.func (.func 134) #[] #[.pointer (some ⟨t.p, 0, none⟩)], Value.func (.func 136) #[] #[.pointer (some ⟨t.p, 0, none⟩)], Value.func (.func 137) #[] #[.pointer (some ⟨t.p, 0, none⟩)]] 85))
          clear Hst q0 q1
          generalize wq.alloc (.cells #[Value.func (.func 134) #[] #[.pointer (some ⟨t.p, 0, none⟩)], Value.func (.func 136) #[] #[.pointer (some ⟨t.p, 0, none⟩)], Value.func (.func 137) #[] #[.pointer (some ⟨t.p, 0, none⟩)]] 85) = wf at *
          generalize wq.heap.size = fb at *
          have f0 := Hff.out.at (i := 0) (v := Value.func (.func 134) #[] #[.pointer (some ⟨t.p, 0, none⟩)]) rfl
          have p1 := Hqf.out.at (i := 1) (v := .string ⟨y.toArray⟩) rfl
          have Hset := Lib.hid (apSetPath m (.slice av L.length cs) n y w1.heap.size t.p wf Hpf.out (Ht.out _ Hdf.out).2.2.2.1)
          unfold Sets at Hset
          clear Hat Hhas Hone Hs1 Hnew
          generalize apK [112, 97, 116, 104] y m n = A at *
          obtain ⟨Am, An, Ae⟩ := A
          simp only at Hset Hok Hbad
          go_wp2_with (fail)
          refine Hset.out.mono ?_
          rintro e w5 ⟨g5, hp5, rfl⟩
          have Hp5 := Lib.hid hp5
          have Hd5 := Lib.hid (Hdf.out.grown g5 (fun k hk => by cases hk; exact .inl rfl))
          have Ho5 := Lib.hid (show OwnP w5 w2.heap.size (.slice av L.length cs) L from World.ownsRow.kept Hof.out g5 (by
            rcases hv2 : (Value.slice av L.length cs).ownBlock with _ | g
            · exact .inl rfl
            · right
              have h1 := (Hof.out.lt g hv2).1
              have h2 := Hbz.out
              intro e
              injection e with e
              omega))
          clear hp5 g5 f0 p1 Hset
          by_cases h0 : Ae = 0
          · subst h0
            have Hn := Lib.hid (Hok.out hkn rfl)
            go_wp2
            go_roundw
            case rel => exact ⟨k + 1, Am, An, L, av, cs, by go_num, by omega, Hn.out, by have := HLl.out; omega, Ho5.out, Hp5.out, Hd5.out⟩
            case measure => simp [intOf]; omega
          · have e0 : (Ae == 0) = false := by simpa using h0
            have e1 : (Ae != 0) = true := by simpa using h0
            have hRb := Hbad.out hkn h0
            subst hRb
            clear h0 Hok Hbad
            have Hz5 := Lib.hid (Hd5.out.holds Hz2.out (by have := Hsz1.out; omega) (by have := Hsz1.out; omega))
            have Hb5 := Lib.hid (Hd5.out.below Hb2.out Hp1.out Hp1.out)
            have Hzn := Lib.hid (show (Tryz.prog.info? 34).map (·.size) = some Z.toArray.size by rw [← HZ.out]; exact mb_size mZero)
            have Hzo := Lib.hid (show Z.toArray.all (·.oneCell') = true by rw [← HZ.out]; simp [mZero, Mb.cells, Value.oneCell'])
            have Hend := Lib.hid (show Holds (w5.setRow (w.heap.size + 1) Z.toArray) (w.heap.size + 1) 34 (mZero.ex (.slice none 0 0)).cells by rw [show (mZero.ex (.slice none 0 0)).cells = Z from HZ.out]; exact setRow_heap _ _ _ _ _ _ Hz5.out)
            have Hbe := Lib.hid (show Below w.heap.size w (w5.setRow (w.heap.size + 1) Z.toArray) from below_setRow Hb5.out (by omega) _)
            go_wp2_with (first
              | (refine wpList_build_is (by rfl) 34 _ (by rfl) _ _ HbZ.out ?_ ?_; kernel_rfl)
              | (refine wpList_store_row (by rfl) 34 _ _ (by rfl) (w.heap.size + 1) Z.toArray (by rfl) (by rfl) _ _ Hz5.out Hzn.out (by rfl) Hzo.out ?_)
              | fail)
            exact bodyPost_ret (results_row3 Tryz.results13 _ _ (w.heap.size + 1) _ (mZero.ex (.slice none 0 0)).cells.toArray _ _ (.int .i64 0) (.int .i64 Ae) (by rfl) (by rfl) (by rfl) Hend.out Tryz.underlying34 rfl (mb_size _)) rfl ⟨Hbe.out, .slice none 0 0, rfl, World.ownsRow_nil _ _ _ _⟩
        · have Hat := Lib.hid (show (knownD t).atKey (.string [115, 105, 122, 101]) (.held zField) = .held (.agg #[Value.func (.func 128) #[] #[.pointer (some ⟨t.s, 0, none⟩)], Value.func (.func 130) #[] #[.pointer (some ⟨t.s, 0, none⟩)], Value.func (.func 132) #[] #[.pointer (some ⟨t.s, 0, none⟩)]]) by rw [knownD_eq]; rfl)
          have Hhas := Lib.hid (show Maps.has (knownD t) (.string [115, 105, 122, 101]) = true from (known_has t _).trans hkn)
          have Hst := Lib.hid (Holds.new wq 85 [.nilFunc, .nilFunc, .nilFunc])
          have Hone := Lib.hid (show #[Value.func (.func 128) #[] #[.pointer (some ⟨t.s, 0, none⟩)], Value.func (.func 130) #[] #[.pointer (some ⟨t.s, 0, none⟩)], Value.func (.func 132) #[] #[.pointer (some ⟨t.s, 0, none⟩)]].all (·.oneCell') = true by simp [Value.oneCell'])
          have Hs1 := Lib.hid (show (Tryz.prog.info? 85).map (·.size) = some 3 by kernel_rfl)
          go_upto_region 7 with (first
            | (refine wpList_look_held _ (by rfl) _ _ 79 (by rfl) 9 85 (string_keyed Tryz.underlying9) Tryz.underlying79 (zero_field _) (w1.heap.size + 1) 8 (knownD t) (by rfl) (Hown.out _ Hdq.out) _ (.string [115, 105, 122, 101]) (by rfl) Hkey.out (.agg #[Value.func (.func 128) #[] #[.pointer (some ⟨t.s, 0, none⟩)], Value.func (.func 130) #[] #[.pointer (some ⟨t.s, 0, none⟩)], Value.func (.func 132) #[] #[.pointer (some ⟨t.s, 0, none⟩)]]) true Hat.out Hhas.out ?_)
            | (refine wpList_store_row (by rfl) 85 _ _ (by rfl) wq.heap.size #[Value.func (.func 128) #[] #[.pointer (some ⟨t.s, 0, none⟩)], Value.func (.func 130) #[] #[.pointer (some ⟨t.s, 0, none⟩)], Value.func (.func 132) #[] #[.pointer (some ⟨t.s, 0, none⟩)]] (by rfl) (by rfl) 85 #[.nilFunc, .nilFunc, .nilFunc] Hst.out Hs1.out (by rfl) Hone.out ?_; rw [World.setRow_alloc_new])
            | fail)
          have Hff := Lib.hid (Holds.new wq 85 [Value.func (.func 128) #[] #[.pointer (some ⟨t.s, 0, none⟩)], Value.func (.func 130) #[] #[.pointer (some ⟨t.s, 0, none⟩)], Value.func (.func 132) #[] #[.pointer (some ⟨t.s, 0, none⟩)]])
          have Hpf := Lib.hid (Hpq.out.behind (.cells #[Value.func (.func 128) #[] #[.pointer (some ⟨t.s, 0, none⟩)], Value.func (.func 130) #[] #[.pointer (some ⟨t.s, 0, none⟩)], Value.func (.func 132) #[] #[.pointer (some ⟨t.s, 0, none⟩)]] 85))
          have Hqf := Lib.hid (Hq.out.behind (.cells #[Value.func (.func 128) #[] #[.pointer (some ⟨t.s, 0, none⟩)], Value.func (.func 130) #[] #[.pointer (some ⟨t.s, 0, none⟩)], Value.func (.func 132) #[] #[.pointer (some ⟨t.s, 0, none⟩)]] 85))
          have Hdf := Lib.hid (Hdq.out.grown (World.grownBy_alloc wq (.cells #[Value.func (.func 128) #[] #[.pointer (some ⟨t.s, 0, none⟩)], Value.func (.func 130) #[] #[.pointer (some ⟨t.s, 0, none⟩)], Value.func (.func 132) #[] #[.pointer (some ⟨t.s, 0, none⟩)]] 85) none) (by simp))
          have Hof := Lib.hid (World.ownsRow.alloc Hoq.out (.cells #[Value.func (.func 128) #[] #[.pointer (some ⟨t.s, 0, none⟩)], Value.func (.func 130) #[] #[.pointer (some ⟨t.s, 0, none⟩)], Value.func (.func 132) #[] #[.pointer (some ⟨t.s, 0, none⟩)]] 85))
          clear Hst q0 q1
          generalize wq.alloc (.cells #[Value.func (.func 128) #[] #[.pointer (some ⟨t.s, 0, none⟩)], Value.func (.func 130) #[] #[.pointer (some ⟨t.s, 0, none⟩)], Value.func (.func 132) #[] #[.pointer (some ⟨t.s, 0, none⟩)]] 85) = wf at *
          generalize wq.heap.size = fb at *
          have f0 := Hff.out.at (i := 0) (v := Value.func (.func 128) #[] #[.pointer (some ⟨t.s, 0, none⟩)]) rfl
          have p1 := Hqf.out.at (i := 1) (v := .string ⟨y.toArray⟩) rfl
          have Hset := Lib.hid (apSetSize m (.slice av L.length cs) n y Hy.out w1.heap.size t.s wf Hpf.out (Ht.out _ Hdf.out).2.2.2.2.1)
          unfold Sets at Hset
          clear Hat Hhas Hone Hs1 Hnew
          generalize apK [115, 105, 122, 101] y m n = A at *
          obtain ⟨Am, An, Ae⟩ := A
          simp only at Hset Hok Hbad
          go_wp2_with (fail)
          refine Hset.out.mono ?_
          rintro e w5 ⟨g5, hp5, rfl⟩
          have Hp5 := Lib.hid hp5
          have Hd5 := Lib.hid (Hdf.out.grown g5 (fun k hk => by cases hk; exact .inl rfl))
          have Ho5 := Lib.hid (show OwnP w5 w2.heap.size (.slice av L.length cs) L from World.ownsRow.kept Hof.out g5 (by
            rcases hv2 : (Value.slice av L.length cs).ownBlock with _ | g
            · exact .inl rfl
            · right
              have h1 := (Hof.out.lt g hv2).1
              have h2 := Hbz.out
              intro e
              injection e with e
              omega))
          clear hp5 g5 f0 p1 Hset
          by_cases h0 : Ae = 0
          · subst h0
            have Hn := Lib.hid (Hok.out hkn rfl)
            go_wp2
            go_roundw
            case rel => exact ⟨k + 1, Am, An, L, av, cs, by go_num, by omega, Hn.out, by have := HLl.out; omega, Ho5.out, Hp5.out, Hd5.out⟩
            case measure => simp [intOf]; omega
          · have e0 : (Ae == 0) = false := by simpa using h0
            have e1 : (Ae != 0) = true := by simpa using h0
            have hRb := Hbad.out hkn h0
            subst hRb
            clear h0 Hok Hbad
            have Hz5 := Lib.hid (Hd5.out.holds Hz2.out (by have := Hsz1.out; omega) (by have := Hsz1.out; omega))
            have Hb5 := Lib.hid (Hd5.out.below Hb2.out Hp1.out Hp1.out)
            have Hzn := Lib.hid (show (Tryz.prog.info? 34).map (·.size) = some Z.toArray.size by rw [← HZ.out]; exact mb_size mZero)
            have Hzo := Lib.hid (show Z.toArray.all (·.oneCell') = true by rw [← HZ.out]; simp [mZero, Mb.cells, Value.oneCell'])
            have Hend := Lib.hid (show Holds (w5.setRow (w.heap.size + 1) Z.toArray) (w.heap.size + 1) 34 (mZero.ex (.slice none 0 0)).cells by rw [show (mZero.ex (.slice none 0 0)).cells = Z from HZ.out]; exact setRow_heap _ _ _ _ _ _ Hz5.out)
            have Hbe := Lib.hid (show Below w.heap.size w (w5.setRow (w.heap.size + 1) Z.toArray) from below_setRow Hb5.out (by omega) _)
            go_wp2_with (first
              | (refine wpList_build_is (by rfl) 34 _ (by rfl) _ _ HbZ.out ?_ ?_; kernel_rfl)
              | (refine wpList_store_row (by rfl) 34 _ _ (by rfl) (w.heap.size + 1) Z.toArray (by rfl) (by rfl) _ _ Hz5.out Hzn.out (by rfl) Hzo.out ?_)
              | fail)
            exact bodyPost_ret (results_row3 Tryz.results13 _ _ (w.heap.size + 1) _ (mZero.ex (.slice none 0 0)).cells.toArray _ _ (.int .i64 0) (.int .i64 Ae) (by rfl) (by rfl) (by rfl) Hend.out Tryz.underlying34 rfl (mb_size _)) rfl ⟨Hbe.out, .slice none 0 0, rfl, World.ownsRow_nil _ _ _ _⟩
        · have Hat := Lib.hid (show (knownD t).atKey (.string [117, 105, 100]) (.held zField) = .held (.agg #[Value.func (.func 128) #[] #[.pointer (some ⟨t.u, 0, none⟩)], Value.func (.func 130) #[] #[.pointer (some ⟨t.u, 0, none⟩)], Value.func (.func 132) #[] #[.pointer (some ⟨t.u, 0, none⟩)]]) by rw [knownD_eq]; rfl)
          have Hhas := Lib.hid (show Maps.has (knownD t) (.string [117, 105, 100]) = true from (known_has t _).trans hkn)
          have Hst := Lib.hid (Holds.new wq 85 [.nilFunc, .nilFunc, .nilFunc])
          have Hone := Lib.hid (show #[Value.func (.func 128) #[] #[.pointer (some ⟨t.u, 0, none⟩)], Value.func (.func 130) #[] #[.pointer (some ⟨t.u, 0, none⟩)], Value.func (.func 132) #[] #[.pointer (some ⟨t.u, 0, none⟩)]].all (·.oneCell') = true by simp [Value.oneCell'])
          have Hs1 := Lib.hid (show (Tryz.prog.info? 85).map (·.size) = some 3 by kernel_rfl)
          go_upto_region 7 with (first
            | (refine wpList_look_held _ (by rfl) _ _ 79 (by rfl) 9 85 (string_keyed Tryz.underlying9) Tryz.underlying79 (zero_field _) (w1.heap.size + 1) 8 (knownD t) (by rfl) (Hown.out _ Hdq.out) _ (.string [117, 105, 100]) (by rfl) Hkey.out (.agg #[Value.func (.func 128) #[] #[.pointer (some ⟨t.u, 0, none⟩)], Value.func (.func 130) #[] #[.pointer (some ⟨t.u, 0, none⟩)], Value.func (.func 132) #[] #[.pointer (some ⟨t.u, 0, none⟩)]]) true Hat.out Hhas.out ?_)
            | (refine wpList_store_row (by rfl) 85 _ _ (by rfl) wq.heap.size #[Value.func (.func 128) #[] #[.pointer (some ⟨t.u, 0, none⟩)], Value.func (.func 130) #[] #[.pointer (some ⟨t.u, 0, none⟩)], Value.func (.func 132) #[] #[.pointer (some ⟨t.u, 0, none⟩)]] (by rfl) (by rfl) 85 #[.nilFunc, .nilFunc, .nilFunc] Hst.out Hs1.out (by rfl) Hone.out ?_; rw [World.setRow_alloc_new])
            | fail)
          have Hff := Lib.hid (Holds.new wq 85 [Value.func (.func 128) #[] #[.pointer (some ⟨t.u, 0, none⟩)], Value.func (.func 130) #[] #[.pointer (some ⟨t.u, 0, none⟩)], Value.func (.func 132) #[] #[.pointer (some ⟨t.u, 0, none⟩)]])
          have Hpf := Lib.hid (Hpq.out.behind (.cells #[Value.func (.func 128) #[] #[.pointer (some ⟨t.u, 0, none⟩)], Value.func (.func 130) #[] #[.pointer (some ⟨t.u, 0, none⟩)], Value.func (.func 132) #[] #[.pointer (some ⟨t.u, 0, none⟩)]] 85))
          have Hqf := Lib.hid (Hq.out.behind (.cells #[Value.func (.func 128) #[] #[.pointer (some ⟨t.u, 0, none⟩)], Value.func (.func 130) #[] #[.pointer (some ⟨t.u, 0, none⟩)], Value.func (.func 132) #[] #[.pointer (some ⟨t.u, 0, none⟩)]] 85))
          have Hdf := Lib.hid (Hdq.out.grown (World.grownBy_alloc wq (.cells #[Value.func (.func 128) #[] #[.pointer (some ⟨t.u, 0, none⟩)], Value.func (.func 130) #[] #[.pointer (some ⟨t.u, 0, none⟩)], Value.func (.func 132) #[] #[.pointer (some ⟨t.u, 0, none⟩)]] 85) none) (by simp))
          have Hof := Lib.hid (World.ownsRow.alloc Hoq.out (.cells #[Value.func (.func 128) #[] #[.pointer (some ⟨t.u, 0, none⟩)], Value.func (.func 130) #[] #[.pointer (some ⟨t.u, 0, none⟩)], Value.func (.func 132) #[] #[.pointer (some ⟨t.u, 0, none⟩)]] 85))
          clear Hst q0 q1
          generalize wq.alloc (.cells #[Value.func (.func 128) #[] #[.pointer (some ⟨t.u, 0, none⟩)], Value.func (.func 130) #[] #[.pointer (some ⟨t.u, 0, none⟩)], Value.func (.func 132) #[] #[.pointer (some ⟨t.u, 0, none⟩)]] 85) = wf at *
          generalize wq.heap.size = fb at *
          have f0 := Hff.out.at (i := 0) (v := Value.func (.func 128) #[] #[.pointer (some ⟨t.u, 0, none⟩)]) rfl
          have p1 := Hqf.out.at (i := 1) (v := .string ⟨y.toArray⟩) rfl
          have Hset := Lib.hid (apSetUid m (.slice av L.length cs) n y Hy.out w1.heap.size t.u wf Hpf.out (Ht.out _ Hdf.out).2.2.2.2.2.1)
          unfold Sets at Hset
          clear Hat Hhas Hone Hs1 Hnew
          generalize apK [117, 105, 100] y m n = A at *
          obtain ⟨Am, An, Ae⟩ := A
          simp only at Hset Hok Hbad
          go_wp2_with (fail)
          refine Hset.out.mono ?_
          rintro e w5 ⟨g5, hp5, rfl⟩
          have Hp5 := Lib.hid hp5
          have Hd5 := Lib.hid (Hdf.out.grown g5 (fun k hk => by cases hk; exact .inl rfl))
          have Ho5 := Lib.hid (show OwnP w5 w2.heap.size (.slice av L.length cs) L from World.ownsRow.kept Hof.out g5 (by
            rcases hv2 : (Value.slice av L.length cs).ownBlock with _ | g
            · exact .inl rfl
            · right
              have h1 := (Hof.out.lt g hv2).1
              have h2 := Hbz.out
              intro e
              injection e with e
              omega))
          clear hp5 g5 f0 p1 Hset
          by_cases h0 : Ae = 0
          · subst h0
            have Hn := Lib.hid (Hok.out hkn rfl)
            go_wp2
            go_roundw
            case rel => exact ⟨k + 1, Am, An, L, av, cs, by go_num, by omega, Hn.out, by have := HLl.out; omega, Ho5.out, Hp5.out, Hd5.out⟩
            case measure => simp [intOf]; omega
          · have e0 : (Ae == 0) = false := by simpa using h0
            have e1 : (Ae != 0) = true := by simpa using h0
            have hRb := Hbad.out hkn h0
            subst hRb
            clear h0 Hok Hbad
            have Hz5 := Lib.hid (Hd5.out.holds Hz2.out (by have := Hsz1.out; omega) (by have := Hsz1.out; omega))
            have Hb5 := Lib.hid (Hd5.out.below Hb2.out Hp1.out Hp1.out)
            have Hzn := Lib.hid (show (Tryz.prog.info? 34).map (·.size) = some Z.toArray.size by rw [← HZ.out]; exact mb_size mZero)
            have Hzo := Lib.hid (show Z.toArray.all (·.oneCell') = true by rw [← HZ.out]; simp [mZero, Mb.cells, Value.oneCell'])
            have Hend := Lib.hid (show Holds (w5.setRow (w.heap.size + 1) Z.toArray) (w.heap.size + 1) 34 (mZero.ex (.slice none 0 0)).cells by rw [show (mZero.ex (.slice none 0 0)).cells = Z from HZ.out]; exact setRow_heap _ _ _ _ _ _ Hz5.out)
            have Hbe := Lib.hid (show Below w.heap.size w (w5.setRow (w.heap.size + 1) Z.toArray) from below_setRow Hb5.out (by omega) _)
            go_wp2_with (first
              | (refine wpList_build_is (by rfl) 34 _ (by rfl) _ _ HbZ.out ?_ ?_; kernel_rfl)
              | (refine wpList_store_row (by rfl) 34 _ _ (by rfl) (w.heap.size + 1) Z.toArray (by rfl) (by rfl) _ _ Hz5.out Hzn.out (by rfl) Hzo.out ?_)
              | fail)
            exact bodyPost_ret (results_row3 Tryz.results13 _ _ (w.heap.size + 1) _ (mZero.ex (.slice none 0 0)).cells.toArray _ _ (.int .i64 0) (.int .i64 Ae) (by rfl) (by rfl) (by rfl) Hend.out Tryz.underlying34 rfl (mb_size _)) rfl ⟨Hbe.out, .slice none 0 0, rfl, World.ownsRow_nil _ _ _ _⟩
        · have Hat := Lib.hid (show (knownD t).atKey (.string [117, 110, 97, 109, 101]) (.held zField) = .held (.agg #[Value.func (.func 134) #[] #[.pointer (some ⟨t.un, 0, none⟩)], Value.func (.func 136) #[] #[.pointer (some ⟨t.un, 0, none⟩)], Value.func (.func 137) #[] #[.pointer (some ⟨t.un, 0, none⟩)]]) by rw [knownD_eq]; rfl)
          have Hhas := Lib.hid (show Maps.has (knownD t) (.string [117, 110, 97, 109, 101]) = true from (known_has t _).trans hkn)
          have Hst := Lib.hid (Holds.new wq 85 [.nilFunc, .nilFunc, .nilFunc])
          have Hone := Lib.hid (show #[Value.func (.func 134) #[] #[.pointer (some ⟨t.un, 0, none⟩)], Value.func (.func 136) #[] #[.pointer (some ⟨t.un, 0, none⟩)], Value.func (.func 137) #[] #[.pointer (some ⟨t.un, 0, none⟩)]].all (·.oneCell') = true by simp [Value.oneCell'])
          have Hs1 := Lib.hid (show (Tryz.prog.info? 85).map (·.size) = some 3 by kernel_rfl)
          go_upto_region 7 with (first
            | (refine wpList_look_held _ (by rfl) _ _ 79 (by rfl) 9 85 (string_keyed Tryz.underlying9) Tryz.underlying79 (zero_field _) (w1.heap.size + 1) 8 (knownD t) (by rfl) (Hown.out _ Hdq.out) _ (.string [117, 110, 97, 109, 101]) (by rfl) Hkey.out (.agg #[Value.func (.func 134) #[] #[.pointer (some ⟨t.un, 0, none⟩)], Value.func (.func 136) #[] #[.pointer (some ⟨t.un, 0, none⟩)], Value.func (.func 137) #[] #[.pointer (some ⟨t.un, 0, none⟩)]]) true Hat.out Hhas.out ?_)
            | (refine wpList_store_row (by rfl) 85 _ _ (by rfl) wq.heap.size #[Value.func (.func 134) #[] #[.pointer (some ⟨t.un, 0, none⟩)], Value.func (.func 136) #[] #[.pointer (some ⟨t.un, 0, none⟩)], Value.func (.func 137) #[] #[.pointer (some ⟨t.un, 0, none⟩)]] (by rfl) (by rfl) 85 #[.nilFunc, .nilFunc, .nilFunc] Hst.out Hs1.out (by rfl) Hone.out ?_; rw [World.setRow_alloc_new])
            | fail)
          have Hff := Lib.hid (Holds.new wq 85 [Value.func (.func 134) #[] #[.pointer (some ⟨t.un, 0, none⟩)], Value.func (.func 136) #[] #[.pointer (some ⟨t.un, 0, none⟩)], Value.func (.func 137) #[] #[.pointer (some ⟨t.un, 0, none⟩)]])
          have Hpf := Lib.hid (Hpq.out.behind (.cells #[Value.func (.func 134) #[] #[.pointer (some ⟨t.un, 0, none⟩)], Value.func (.func 136) #[] #[.pointer (some ⟨t.un, 0, none⟩)], Value.func (.func 137) #[] #[.pointer (some ⟨t.un, 0, none⟩)]] 85))
          have Hqf := Lib.hid (Hq.out.behind (.cells #[Value.func (.func 134) #[] #[.pointer (some ⟨t.un, 0, none⟩)], Value.func (.func 136) #[] #[.pointer (some ⟨t.un, 0, none⟩)], Value.func (.func 137) #[] #[.pointer (some ⟨t.un, 0, none⟩)]] 85))
          have Hdf := Lib.hid (Hdq.out.grown (World.grownBy_alloc wq (.cells #[Value.func (.func 134) #[] #[.pointer (some ⟨t.un, 0, none⟩)], Value.func (.func 136) #[] #[.pointer (some ⟨t.un, 0, none⟩)], Value.func (.func 137) #[] #[.pointer (some ⟨t.un, 0, none⟩)]] 85) none) (by simp))
          have Hof := Lib.hid (World.ownsRow.alloc Hoq.out (.cells #[Value.func (.func 134) #[] #[.pointer (some ⟨t.un, 0, none⟩)], Value.func (.func 136) #[] #[.pointer (some ⟨t.un, 0, none⟩)], Value.func (.func 137) #[] #[.pointer (some ⟨t.un, 0, none⟩)]] 85))
          clear Hst q0 q1
          generalize wq.alloc (.cells #[Value.func (.func 134) #[] #[.pointer (some ⟨t.un, 0, none⟩)], Value.func (.func 136) #[] #[.pointer (some ⟨t.un, 0, none⟩)], Value.func (.func 137) #[] #[.pointer (some ⟨t.un, 0, none⟩)]] 85) = wf at *
          generalize wq.heap.size = fb at *
          have f0 := Hff.out.at (i := 0) (v := Value.func (.func 134) #[] #[.pointer (some ⟨t.un, 0, none⟩)]) rfl
          have p1 := Hqf.out.at (i := 1) (v := .string ⟨y.toArray⟩) rfl
          have Hset := Lib.hid (apSetUname m (.slice av L.length cs) n y w1.heap.size t.un wf Hpf.out (Ht.out _ Hdf.out).2.2.2.2.2.2)
          unfold Sets at Hset
          clear Hat Hhas Hone Hs1 Hnew
          generalize apK [117, 110, 97, 109, 101] y m n = A at *
          obtain ⟨Am, An, Ae⟩ := A
          simp only at Hset Hok Hbad
          go_wp2_with (fail)
          refine Hset.out.mono ?_
          rintro e w5 ⟨g5, hp5, rfl⟩
          have Hp5 := Lib.hid hp5
          have Hd5 := Lib.hid (Hdf.out.grown g5 (fun k hk => by cases hk; exact .inl rfl))
          have Ho5 := Lib.hid (show OwnP w5 w2.heap.size (.slice av L.length cs) L from World.ownsRow.kept Hof.out g5 (by
            rcases hv2 : (Value.slice av L.length cs).ownBlock with _ | g
            · exact .inl rfl
            · right
              have h1 := (Hof.out.lt g hv2).1
              have h2 := Hbz.out
              intro e
              injection e with e
              omega))
          clear hp5 g5 f0 p1 Hset
          by_cases h0 : Ae = 0
          · subst h0
            have Hn := Lib.hid (Hok.out hkn rfl)
            go_wp2
            go_roundw
            case rel => exact ⟨k + 1, Am, An, L, av, cs, by go_num, by omega, Hn.out, by have := HLl.out; omega, Ho5.out, Hp5.out, Hd5.out⟩
            case measure => simp [intOf]; omega
          · have e0 : (Ae == 0) = false := by simpa using h0
            have e1 : (Ae != 0) = true := by simpa using h0
            have hRb := Hbad.out hkn h0
            subst hRb
            clear h0 Hok Hbad
            have Hz5 := Lib.hid (Hd5.out.holds Hz2.out (by have := Hsz1.out; omega) (by have := Hsz1.out; omega))
            have Hb5 := Lib.hid (Hd5.out.below Hb2.out Hp1.out Hp1.out)
            have Hzn := Lib.hid (show (Tryz.prog.info? 34).map (·.size) = some Z.toArray.size by rw [← HZ.out]; exact mb_size mZero)
            have Hzo := Lib.hid (show Z.toArray.all (·.oneCell') = true by rw [← HZ.out]; simp [mZero, Mb.cells, Value.oneCell'])
            have Hend := Lib.hid (show Holds (w5.setRow (w.heap.size + 1) Z.toArray) (w.heap.size + 1) 34 (mZero.ex (.slice none 0 0)).cells by rw [show (mZero.ex (.slice none 0 0)).cells = Z from HZ.out]; exact setRow_heap _ _ _ _ _ _ Hz5.out)
            have Hbe := Lib.hid (show Below w.heap.size w (w5.setRow (w.heap.size + 1) Z.toArray) from below_setRow Hb5.out (by omega) _)
            go_wp2_with (first
              | (refine wpList_build_is (by rfl) 34 _ (by rfl) _ _ HbZ.out ?_ ?_; kernel_rfl)
              | (refine wpList_store_row (by rfl) 34 _ _ (by rfl) (w.heap.size + 1) Z.toArray (by rfl) (by rfl) _ _ Hz5.out Hzn.out (by rfl) Hzo.out ?_)
              | fail)
            exact bodyPost_ret (results_row3 Tryz.results13 _ _ (w.heap.size + 1) _ (mZero.ex (.slice none 0 0)).cells.toArray _ _ (.int .i64 0) (.int .i64 Ae) (by rfl) (by rfl) (by rfl) Hend.out Tryz.underlying34 rfl (mb_size _)) rfl ⟨Hbe.out, .slice none 0 0, rfl, World.ownsRow_nil _ _ _ _⟩
      · have hkf : isKnown x = false := by simpa using hkn
        have hnew := Hnew.out hkf
        have Hat := Lib.hid (known_at t x (.held zField) hkf)
        have Hhas := Lib.hid ((known_has t x).trans hkf)
        have Hst := Lib.hid (Holds.new wq 85 [.nilFunc, .nilFunc, .nilFunc])
        have Hone := Lib.hid (show #[Value.nilFunc, Value.nilFunc, Value.nilFunc].all (·.oneCell') = true by simp [Value.oneCell'])
        have Hs1 := Lib.hid (show (Tryz.prog.info? 85).map (·.size) = some 3 by kernel_rfl)
        have Hnw := Lib.hid hnew
        clear hkn hkf hnew Hok Hbad Hnew
        go_upto_region 7 with (first
          | (refine wpList_look_held _ (by rfl) _ _ 79 (by rfl) 9 85 (string_keyed Tryz.underlying9) Tryz.underlying79 (zero_field _) (w1.heap.size + 1) 8 (knownD t) (by rfl) (Hown.out _ Hdq.out) _ (.string x) (by rfl) Hkey.out zField false Hat.out Hhas.out ?_)
          | (refine wpList_store_row (by rfl) 85 _ _ (by rfl) wq.heap.size #[.nilFunc, .nilFunc, .nilFunc] (by rfl) (by rfl) 85 #[.nilFunc, .nilFunc, .nilFunc] Hst.out Hs1.out (by rfl) Hone.out ?_; rw [World.setRow_alloc_new])
          | fail)
        have Hpf := Lib.hid (Hpq.out.behind (.cells #[.nilFunc, .nilFunc, .nilFunc] 85))
        have Hqf := Lib.hid (Hq.out.behind (.cells #[.nilFunc, .nilFunc, .nilFunc] 85))
        have Hdf := Lib.hid (Hdq.out.grown (World.grownBy_alloc wq (.cells #[.nilFunc, .nilFunc, .nilFunc] 85) none) (by simp))
        have Hof := Lib.hid (World.ownsRow.alloc Hoq.out (.cells #[.nilFunc, .nilFunc, .nilFunc] 85))
        generalize wq.alloc (.cells #[.nilFunc, .nilFunc, .nilFunc] 85) = wf at *
        have c12 := Hpf.out.at (i := 12) (v := .slice av L.length cs) rfl
        have p0 := Hqf.out.at (i := 0) (v := .string ⟨x.toArray⟩) rfl
        have p1 := Hqf.out.at (i := 1) (v := .string ⟨y.toArray⟩) rfl
        have hownp : OwnP wf w2.heap.size (.slice av L.length cs) L := Hof.out
        obtain ⟨i0, hi, hz0, hz1, hz2⟩ := info_parts zero_pair
        clear q0 q1 Hst
        go_wp2_with (first | (at_builtin; refine wpList_append_own _ rfl _ _ 22 rfl w2.heap.size 27 i0 (.agg #[.string ⟨#[]⟩, .string ⟨#[]⟩]) 2 32 Tryz.underlying22 hi hz0 hz1 hz2 rfl (by decide) _ _ _ rfl (World.ownsRow.alloc hownp _) ⟨wf.heap.size, 0, none⟩ 1 1 [.string ⟨x.toArray⟩, .string ⟨y.toArray⟩] rfl rfl ?c1 ?c2 ?c3 ?c4 ?c5 ?_) | go_in)
        case c2 => exact ⟨rfl, rfl⟩
        case c3 => have := HLl.out; unfold maxLen; omega
        case c4 => have := HLl.out; have := Hlen.out; omega
        case c5 => have := Hdf.out.size; omega
        intro v' w3 hown2 hgrow hnil
        have hown3 : OwnP w3 w2.heap.size v' (L ++ [(x, y)]) := by
          show w3.ownsRow w2.heap.size _ 2 v' (L ++ [(x, y)]).length (pairCells (L ++ [(x, y)]))
          rw [pairCells_append, List.length_append]
          exact hown2
        have hpw : w1.heap.size < w2.heap.size := by have := Hbz.out; omega
        have Hd3 := Lib.hid ((Hdf.out.grown (World.grownBy_alloc wf (.cells #[.string ⟨x.toArray⟩, .string ⟨y.toArray⟩] 27) none) (by simp)).grown hgrow (fun k hk => .inr (.inr (hownp.lt k hk).1)))
        have Hp3 := Lib.hid ((Hpf.out.behind (.cells #[.string ⟨x.toArray⟩, .string ⟨y.toArray⟩] 27)).grown hgrow (fun e => by have := (hownp.lt _ e.symm).1; omega))
        obtain ⟨av2, cs2, rfl⟩ := hown3.slice
        have Hown3 := Lib.hid hown3
        have d12 := Hp3.out.at (i := 12) (v := .slice av L.length cs) rfl
        have f12 := Hp3.out.frozen 12
        clear hown2 hgrow hown3 hownp hnil c12 p0 p1 hi hz0 hz1 hz2
        go_wp2
        go_roundw
        case rel =>
          refine ⟨k + 1, m, n, L ++ [(x, y)], av2, cs2, by go_num, by omega, Hnw.out, by rw [List.length_append]; have := HLl.out; simp; omega, ?_, (by have h := Hp3.out.put 12 (.slice av2 (L.length + 1) cs2); rw [show (L ++ [(x, y)]).length = L.length + 1 by simp]; exact h), Hd3.out.grown (grown_setCell w3 ⟨w1.heap.size, 12, none⟩ _) (fun k hk => by cases hk; exact .inl rfl)⟩
          refine World.ownsRow.kept Hown3.out (grown_setCell w3 ⟨w1.heap.size, 12, none⟩ _) ?_
          rcases hv2 : (Value.slice av2 (L ++ [(x, y)]).length cs2).ownBlock with _ | g
          · exact .inl rfl
          · right
            have := (Hown3.out.lt g hv2).1
            intro e
            injection e with e
            have : g = w1.heap.size := e
            omega
        case measure => simp [intOf]; omega
    · have hkl : k = l.length := by omega
      subst hkl
      have hRe : R = ⟨m, n, L, 0⟩ := by rw [← HR.out]; exact apRun_end
      subst hRe
      have Hzr := Lib.hid (Hdv.out.holds Hz2.out (by have := Hsz1.out; omega) (by have := Hsz1.out; omega))
      obtain ⟨xnm, xlk, xkd, xmd, xui, xgi, xun, xgn, xmj, xmi, xse, xns, xex, xda⟩ := m
      have Hfin := Lib.hid (show ∀ wM : World, Holds wM (w.heap.size + 1) 34 Z → Holds (wM.setCells (w.heap.size + 1) 0 (Mb.mk xnm xlk xkd xmd xui xgi xun xgn xmj xmi xse xns (.slice av L.length cs) xda).cells) (w.heap.size + 1) 34 (Mb.mk xnm xlk xkd xmd xui xgi xun xgn xmj xmi xse xns (.slice av L.length cs) xda).cells from fun wM h => by
        have := Holds.setCells (Mb.mk xnm xlk xkd xmd xui xgi xun xgn xmj xmi xse xns (.slice av L.length cs) xda).cells 0 wM Z h
        rw [← HZ.out] at this
        exact this)
      have hzl : Z.length = 14 := by rw [← HZ.out]; rfl
      have z0 := Hp.out.at (i := 0) (v := .string ⟨xnm.toArray⟩) rfl
      have z1 := Hp.out.at (i := 1) (v := .string ⟨xlk.toArray⟩) rfl
      have z2 := Hp.out.at (i := 2) (v := .int .u8 xkd) rfl
      have z3 := Hp.out.at (i := 3) (v := .int .i64 xmd) rfl
      have z4 := Hp.out.at (i := 4) (v := .int .i64 xui) rfl
      have z5 := Hp.out.at (i := 5) (v := .int .i64 xgi) rfl
      have z6 := Hp.out.at (i := 6) (v := .string ⟨xun.toArray⟩) rfl
      have z7 := Hp.out.at (i := 7) (v := .string ⟨xgn.toArray⟩) rfl
      have z8 := Hp.out.at (i := 8) (v := .int .i64 xmj) rfl
      have z9 := Hp.out.at (i := 9) (v := .int .i64 xmi) rfl
      have z10 := Hp.out.at (i := 10) (v := .int .i64 xse) rfl
      have z11 := Hp.out.at (i := 11) (v := .int .i64 xns) rfl
      have z12 := Hp.out.at (i := 12) (v := .slice av L.length cs) rfl
      have z13 := Hp.out.at (i := 13) (v := .string ⟨xda.toArray⟩) rfl
      have z14 := Hp.out.at (i := 14) (v := .int .i64 n) rfl
      have u0 := Hzr.out.cell (i := 0) (by omega)
      have g0 := Hzr.out.frozen 0
      have u1 := Hzr.out.cell (i := 1) (by omega)
      have g1 := Hzr.out.frozen 1
      have u2 := Hzr.out.cell (i := 2) (by omega)
      have g2 := Hzr.out.frozen 2
      have u3 := Hzr.out.cell (i := 3) (by omega)
      have g3 := Hzr.out.frozen 3
      have u4 := Hzr.out.cell (i := 4) (by omega)
      have g4 := Hzr.out.frozen 4
      have u5 := Hzr.out.cell (i := 5) (by omega)
      have g5 := Hzr.out.frozen 5
      have u6 := Hzr.out.cell (i := 6) (by omega)
      have g6 := Hzr.out.frozen 6
      have u7 := Hzr.out.cell (i := 7) (by omega)
      have g7 := Hzr.out.frozen 7
      have u8 := Hzr.out.cell (i := 8) (by omega)
      have g8 := Hzr.out.frozen 8
      have u9 := Hzr.out.cell (i := 9) (by omega)
      have g9 := Hzr.out.frozen 9
      have u10 := Hzr.out.cell (i := 10) (by omega)
      have g10 := Hzr.out.frozen 10
      have u11 := Hzr.out.cell (i := 11) (by omega)
      have g11 := Hzr.out.frozen 11
      have u12 := Hzr.out.cell (i := 12) (by omega)
      have g12 := Hzr.out.frozen 12
      have u13 := Hzr.out.cell (i := 13) (by omega)
      have g13 := Hzr.out.frozen 13
      have Hown1 := Lib.hid (show OwnP wr w.heap.size (.slice av L.length cs) L from OwnP.base Hown0.out Hb2.out.size)
      have Hown2 := Lib.hid (show ∀ wM : World, OwnP wM w.heap.size (.slice av L.length cs) L → OwnP (wM.setCells (w.heap.size + 1) 0 (Mb.mk xnm xlk xkd xmd xui xgi xun xgn xmj xmi xse xns (.slice av L.length cs) xda).cells) w.heap.size (.slice av L.length cs) L from fun wM h => owns_setCells _ (fun e => by
        have h1 := (Hown0.out.lt _ e).1
        have := Hbz.out
        have := Hsz1.out
        omega) _ _ _ h)
      go_wp2
      go_region
      go_wp2
      have HE := Lib.hid (show Holds ((wr.setCells (w.heap.size + 1) 0 (Mb.mk xnm xlk xkd xmd xui xgi xun xgn xmj xmi xse xns (.slice av L.length cs) xda).cells).drew) (w.heap.size + 1) 34 (Mb.mk xnm xlk xkd xmd xui xgi xun xgn xmj xmi xse xns (.slice av L.length cs) xda).cells from Holds.drew (Hfin.out _ Hzr.out))
      have HEb := Lib.hid (show Below w.heap.size w ((wr.setCells (w.heap.size + 1) 0 (Mb.mk xnm xlk xkd xmd xui xgi xun xgn xmj xmi xse xns (.slice av L.length cs) xda).cells).drew) from Below.drew (below_setCellsU _ (by omega) _ _ _ Hbw.out))
      have HEo := Lib.hid (show OwnP ((wr.setCells (w.heap.size + 1) 0 (Mb.mk xnm xlk xkd xmd xui xgi xun xgn xmj xmi xse xns (.slice av L.length cs) xda).cells).drew) w.heap.size (.slice av L.length cs) L from (Hown2.out _ Hown1.out).step (Below.drew (Below.refl _ _)))
      change bodyPost Tryz.prog _ _ _ _ ((wr.setCells (w.heap.size + 1) 0 (Mb.mk xnm xlk xkd xmd xui xgi xun xgn xmj xmi xse xns (.slice av L.length cs) xda).cells).drew)
      generalize (wr.setCells (w.heap.size + 1) 0 (Mb.mk xnm xlk xkd xmd xui xgi xun xgn xmj xmi xse xns (.slice av L.length cs) xda).cells).drew = wz at *
      exact bodyPost_ret (results_row3 Tryz.results13 _ _ (w.heap.size + 1) _ (Mb.mk xnm xlk xkd xmd xui xgi xun xgn xmj xmi xse xns (.slice av L.length cs) xda).cells.toArray _ _ (.int .i64 n) (.int .i64 0) (by rfl) (by rfl) (by rfl) HE.out Tryz.underlying34 rfl (mb_size _)) rfl ⟨HEb.out, .slice av L.length cs, rfl, HEo.out⟩
end Go.Proofs.YtjmmecokfijglaaGreatDoor
