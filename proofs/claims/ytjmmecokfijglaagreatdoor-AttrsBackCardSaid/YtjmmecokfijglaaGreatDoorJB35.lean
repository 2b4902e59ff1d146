/-
  Texts of this seat's proof, joined: their order is that of the build.
-/
import Derived.Test.YtjmmecokfijglaaGreatDoorJB27
import Derived.Test.YtjmmecokfijglaaGreatDoorJB29
import Derived.Test.YtjmmecokfijglaaGreatDoorJB30
import Derived.Test.YtjmmecokfijglaaGreatDoorJB31
import Derived.Test.YtjmmecokfijglaaGreatDoorJB32
import Derived.Test.YtjmmecokfijglaaGreatDoorJB33
import Derived.Test.YtjmmecokfijglaaGreatDoorJB34
namespace Go.Proofs.YtjmmecokfijglaaGreatDoor.attrsBack
open Go.ChangeShapes Go.WideShapes Go.ChangeAt Go.RowKit Go.Maps
open Go.Proofs.YtjmmecokfijglaaGreatDoor.attrsMerge (mMerge_mem mMerge_length)

theorem dvRec_len (m : Mb) (n : Int) : (dvRec m n).length ≤ 8 := List.length_filter_le _ (dvAll m n)
theorem cellsHd {w : World} {g : Nat} {t : TypeId} {nn nl : List UInt8} {nk nmo nu ng ns ntm : Int} {nun ngn : List UInt8} {nmj nmi nf : Int} (H : Holds w g t (Hd.mk nn nl nk nmo nu ng ns ntm nun ngn nmj nmi nf).cells) :
    w.cell? ⟨g, 0, none⟩ = some (.string ⟨nn.toArray⟩) ∧ w.cell? ⟨g, 1, none⟩ = some (.string ⟨nl.toArray⟩) ∧ w.cell? ⟨g, 2, none⟩ = some (.int .u8 nk) ∧ w.cell? ⟨g, 3, none⟩ = some (.int .i64 nmo) ∧ w.cell? ⟨g, 4, none⟩ = some (.int .i64 nu) ∧ w.cell? ⟨g, 5, none⟩ = some (.int .i64 ng) ∧ w.cell? ⟨g, 6, none⟩ = some (.int .i64 ns) ∧
    w.cell? ⟨g, 7, none⟩ = some (.int .i64 ntm) ∧ w.cell? ⟨g, 8, none⟩ = some (.string ⟨nun.toArray⟩) ∧ w.cell? ⟨g, 9, none⟩ = some (.string ⟨ngn.toArray⟩) ∧ w.cell? ⟨g, 10, none⟩ = some (.int .i64 nmj) ∧ w.cell? ⟨g, 11, none⟩ = some (.int .i64 nmi) ∧ w.cell? ⟨g, 12, none⟩ = some (.int .i64 nf) :=
  ⟨H.at rfl, H.at rfl, H.at rfl, H.at rfl, H.at rfl, H.at rfl, H.at rfl, H.at rfl, H.at rfl, H.at rfl, H.at rfl, H.at rfl, H.at rfl⟩
/-- A member's block that may be written. -/
def Wr14 (w : World) (g : Nat) : Prop := (∃ c0 c1 c2 c3 c4 c5 c6 c7 c8 c9 c10 c11 c12 c13 : Value, w.cell? ⟨g, 0, none⟩ = some c0 ∧ w.cell? ⟨g, 1, none⟩ = some c1 ∧ w.cell? ⟨g, 2, none⟩ = some c2 ∧ w.cell? ⟨g, 3, none⟩ = some c3 ∧ w.cell? ⟨g, 4, none⟩ = some c4 ∧ w.cell? ⟨g, 5, none⟩ = some c5 ∧ w.cell? ⟨g, 6, none⟩ = some c6 ∧ w.cell? ⟨g, 7, none⟩ = some c7 ∧ w.cell? ⟨g, 8, none⟩ = some c8 ∧ w.cell? ⟨g, 9, none⟩ = some c9 ∧ w.cell? ⟨g, 10, none⟩ = some c10 ∧ w.cell? ⟨g, 11, none⟩ = some c11 ∧ w.cell? ⟨g, 12, none⟩ = some c12 ∧ w.cell? ⟨g, 13, none⟩ = some c13) ∧
    w.frozen? ⟨g, 0, none⟩ = false ∧ w.frozen? ⟨g, 1, none⟩ = false ∧ w.frozen? ⟨g, 2, none⟩ = false ∧ w.frozen? ⟨g, 3, none⟩ = false ∧ w.frozen? ⟨g, 4, none⟩ = false ∧ w.frozen? ⟨g, 5, none⟩ = false ∧ w.frozen? ⟨g, 6, none⟩ = false ∧ w.frozen? ⟨g, 7, none⟩ = false ∧ w.frozen? ⟨g, 8, none⟩ = false ∧ w.frozen? ⟨g, 9, none⟩ = false ∧ w.frozen? ⟨g, 10, none⟩ = false ∧ w.frozen? ⟨g, 11, none⟩ = false ∧ w.frozen? ⟨g, 12, none⟩ = false ∧ w.frozen? ⟨g, 13, none⟩ = false
theorem wr14 {w : World} {g : Nat} {t : TypeId} {C : List Value} (H : Holds w g t C) (hl : C.length = 14) : Wr14 w g :=
  ⟨⟨_, _, _, _, _, _, _, _, _, _, _, _, _, _, H.cell (i := 0) (by omega), H.cell (i := 1) (by omega), H.cell (i := 2) (by omega), H.cell (i := 3) (by omega), H.cell (i := 4) (by omega), H.cell (i := 5) (by omega), H.cell (i := 6) (by omega), H.cell (i := 7) (by omega), H.cell (i := 8) (by omega), H.cell (i := 9) (by omega), H.cell (i := 10) (by omega), H.cell (i := 11) (by omega), H.cell (i := 12) (by omega), H.cell (i := 13) (by omega)⟩,
    H.frozen 0, H.frozen 1, H.frozen 2, H.frozen 3, H.frozen 4, H.frozen 5, H.frozen 6, H.frozen 7, H.frozen 8, H.frozen 9, H.frozen 10, H.frozen 11, H.frozen 12, H.frozen 13⟩
theorem holds_setCells_ne {g b : Nat} (hne : b ≠ g) {t : TypeId} {C : List Value} : ∀ (vs : List Value) (o : Nat) {w : World}, Holds w b t C → Holds (w.setCells g o vs) b t C
  | [], _, _, h => h
  | v :: r, o, w, h => by
    rw [World.setCells]
    exact holds_setCells_ne hne r (o + 1) (h.grown (grown_setCell w ⟨g, o, none⟩ v) (fun e => hne (by injection e)))
set_option maxRecDepth 100000 in
set_option maxHeartbeats 4000000 in
theorem walk (OK : World → Prop) (hstep : ∀ a b : World, OK a → Below a.heap.size a b → OK b)
    (haw : ∀ w : World, OK w → Calls Tryz.prog 9 #[] w fun e w' => Below w.heap.size w w' ∧ e = .returned (.bool true)) (htab : ∀ w : World, OK w → TabOk w) (hmax : ∀ w : World, OK w → MaxSet w)
    (m : Mb) (n : Int) (X : List Pr) (ax : Option Addr) (cx : Nat) (w : World) (hex : m.extra = .slice ax X.length cx) (hX : PairsIn w (.slice ax X.length cx) X) (hXl : X.length ≤ 9223372036854775807) (hfine : m.fine) (hok : OK w) :
    Calls Tryz.prog 5 #[m.val, .int .i64 n] w fun e w' => Below w.heap.size w w' ∧ e = .returned (.bool true) := by
  have Hok := Lib.hid hok
  have Haw := Lib.hid haw
  have Hstep := Lib.hid hstep
  have Hb0 := Lib.hid ((Below.refl w.heap.size w).alloc (Nat.le_refl _) (.cells m.cells.toArray 34))
  have Ho := Lib.hid (Holds.new w 34 m.cells)
  have Hms := Lib.hid (mb_size m)
  have Hlong := Lib.hid (fun w1 (h : Below w.heap.size w w1) => refLongM_any m X ax cx w1 hex (hX.under h) hXl)
  cases hlg : mbLong m X with
  | true =>
    rw [hlg] at Hlong
    unfold Mb.val at *
    generalize m.cells = C at *
    clear hok haw hstep htab hmax hex hX hXl hfine hlg
    go_enter Tryz.func5, Tryz.ntmps5
    go_wp2_with (first
      | (refine wpList_load_row (by rfl) 34 _ (by rfl) w.heap.size (by rfl) _ _ _ _ Ho.out Tryz.underlying34 rfl Hms.out ?_)
      | fail)
    refine (Hlong.out _ (Hb0.out.mono (Nat.le_refl _))).mono ?_
    rintro e w1 ⟨hb1, rfl⟩
    have Hb1 := Lib.hid (Hb0.out.trans (hb1.mono Hb0.out.size))
    clear hb1
    go_wp2_with (fail)
    refine (Haw.out _ (Hstep.out _ _ Hok.out Hb1.out)).mono ?_
    rintro e w2 ⟨hb2, rfl⟩
    have Hb2 := Lib.hid (Hb1.out.trans (hb2.mono Hb1.out.size))
    clear hb2
    go_wp2
    go_ret
    exact ⟨Hb2.out, rfl⟩
  | false =>
    rw [hlg] at Hlong
    obtain ⟨htl, l0, l1, l2, l3⟩ := mbLong_no hlg
    obtain ⟨hx1, hx2⟩ := tooLong_fits htl
    have hin : MbIn m X ax cx w := ⟨hex, hX, fun q hq => by have := hx2 q hq; omega, by omega, by omega, by omega, by omega, by omega⟩
    have Hhead := Lib.hid (fun w1 (h : Below w.heap.size w w1) => head_any m n X ax cx w1 (hin.under h) (htab _ (hstep _ _ hok h)))
    have Hwant := Lib.hid (fun w1 (h : Below w.heap.size w w1) => wanted_any m n X ax cx w1 (hin.under h) (htab _ (hstep _ _ hok h)))
    have HX := Lib.hid hX
    have hz := (zero_of_info infoHd).1
    have hzm : ∀ w1 : World, (zeroValue 34).run Tryz.prog w1 = .ok (.agg #[Value.string ⟨#[]⟩, Value.string ⟨#[]⟩, Value.int .u8 0, Value.int .i64 0, Value.int .i64 0, Value.int .i64 0, Value.string ⟨#[]⟩, Value.string ⟨#[]⟩, Value.int .i64 0, Value.int .i64 0, Value.int .i64 0, Value.int .i64 0, Value.slice none 0 0, Value.string ⟨#[]⟩]) w1 := (zero_of_info infoMb).1
    by_cases hE : (dvRes m n X).e = 0
    · have hr0 : mbRight m X = 0 := by
        by_cases h : mbRight m X = 0
        · exact h
        · unfold dvRes at hE
          rw [if_neg h] at hE
          exact absurd hE h
      have hn0 : 0 ≤ n ∧ n ≤ 9007199254740991 := by
        by_cases h : 0 ≤ n ∧ n ≤ 9007199254740991
        · exact h
        · unfold dvRes at hE
          rw [if_pos hr0, if_neg h] at hE
          cases hE
      have hres : dvRes m n X = ⟨dvHd m n (fun _ => false), mMerge X (dvRec m n), 0⟩ := by
        unfold dvRes
        rw [if_pos hr0, if_pos hn0]
      rw [hres] at Hhead Hwant
      simp only at Hhead Hwant
      have hdv := dvIn_of hr0 hn0 (by omega) (by omega) (by omega) (by omega)
      have hgood := dvHd_good hdv (fun _ => false)
      have Hbuild := Lib.hid (fun w1 => build_fits (dvHd m n (fun _ => false)) w1 hfine.1 hgood.okN hgood.nName hgood.fits)
      have hpf := (hdBuild_facts (dvHd m n (fun _ => false)) hfine.1 hgood.fits).2
      have Hparse := Lib.hid (fun w1 (h : Below w.heap.size w w1) => hparse_any (hdBuild (dvHd m n (fun _ => false))) w1 (hmax _ (hstep _ _ hok h)))
      rw [hpf] at Hparse
      simp only at Hparse
      have hrun := back_run hdv (mbRight_facts hr0).2.1
      have hml : (mMerge X (dvRec m n)).length ≤ 20 := by have := mMerge_length X (dvRec m n); have := dvRec_len m n; omega
      have hmf : prFits 140737488355328 (mMerge X (dvRec m n)) := fun p hp => by
        rcases mMerge_mem hp with h | h
        · have := hx2 p h; omega
        · exact dvAll_fits hdv (stText_short hdv.stamp) p (dvRec_mem.1 h).1
      have Hmerge := Lib.hid (fun (av : Option Addr) (cs : Nat) (w1 : World) (h : PairsIn w1 (.slice av (mMerge X (dvRec m n)).length cs) (mMerge X (dvRec m n))) => merge_any [] (mMerge X (dvRec m n)) none av 0 cs w1 (PairsIn.nil _) h (fun q hq => by cases hq) hmf (by simp; omega))
      rw [mMerge_nil] at Hmerge
      have Happly := Lib.hid (fun (av : Option Addr) (cs : Nat) (w1 : World) (h : PairsIn w1 (.slice av (mMerge X (dvRec m n)).length cs) (mMerge X (dvRec m n))) => apply_any (dvHd m n (fun _ => false)).posix (mMerge X (dvRec m n)) av cs w1 h hmf (by omega))
      rw [hrun] at Happly
      have Hsame := Lib.hid (fun (av : Option Addr) (cs : Nat) w1 h1 h2 => same7_any (bkM m) X av ax cs cx w1 h1 h2 (by omega))
      have Hh13 := Lib.hid (head_size (dvHd m n (fun _ => false)))
      have Hhone := Lib.hid ((dvHd m n (fun _ => false)).cells_one)
      have Hhz := Lib.hid (show Hd.zero.cells.toArray.size = (dvHd m n (fun _ => false)).cells.toArray.size from rfl)
      have Hk13 := Lib.hid (head_size (dvHd m n (fun _ => false)).posix)
      have Hkone := Lib.hid ((dvHd m n (fun _ => false)).posix.cells_one)
      have Hkz := Lib.hid (show Hd.zero.cells.toArray.size = (dvHd m n (fun _ => false)).posix.cells.toArray.size from rfl)
      unfold ApPost at Happly
      simp only at Happly
      unfold Mb.val Hd.val at *
      generalize hdBuild (dvHd m n (fun _ => false)) = BL at *
      generalize (dvHd m n (fun _ => false)).posix = KH at *
      generalize hBM : bkM m = BM at *
      have HBM := Lib.hid hBM
      clear hBM
      generalize (dvHd m n (fun _ => false)).cells = HC at *
      generalize mMerge X (dvRec m n) = L at *
      clear hok haw hstep htab hmax hX hXl hlg htl l0 l1 l2 l3 hin hE hr0 hn0 hres hdv hgood hpf hrun hml hmf hx2
      have Hzl := Lib.hid (show Hd.zero.cells.length = 13 from rfl)
      have Ho1' := Lib.hid (show ({ m with kind := hdKind m.kind } : Mb).cells = m.cells.set 2 (.int .u8 (hdKind m.kind)) from rfl)
      have Hk2 := Lib.hid (show m.cells[2]? = some (.int .u8 m.kind) from rfl)
      have Hk13' := Lib.hid (show ({ m with kind := hdKind m.kind } : Mb).cells[13]? = some (.string ⟨m.data.toArray⟩) from rfl)
      have Hset13 := Lib.hid (show ({ m with kind := hdKind m.kind } : Mb).cells.set 13 (.string ⟨([] : List UInt8).toArray⟩) = (BM.ex (.slice ax X.length cx)).cells by
        rw [← hex, ← HBM.out]; rfl)
      have Hm1s := Lib.hid (mb_size (BM.ex (.slice ax X.length cx)))
      have HkU := Lib.hid (show m.kind = 0 → hdKind m.kind = 48 from fun h => by rw [h]; rfl)
      have HkN := Lib.hid (show m.kind ≠ 0 → m.cells.set 2 (.int .u8 (hdKind m.kind)) = m.cells from fun h => by
        rw [show hdKind m.kind = m.kind from if_neg h]; rfl)
      have Hgz := Lib.hid (fun (av : Option Addr) (cs : Nat) => mb_size (BM.ex (.slice av X.length cs)))
      have Hgone := Lib.hid (fun (av : Option Addr) (cs : Nat) => mb_one BM (.slice av X.length cs) rfl)
      generalize hm1 : ({ m with kind := hdKind m.kind } : Mb).cells = M1 at *
      generalize Hd.zero.cells = Z at *
      generalize hdKind m.kind = nk at *
      generalize m.kind = kd at *
      generalize m.cells = C at *
      clear hm1 hex hfine
      go_enter Tryz.func5, Tryz.ntmps5
      go_wp2_with (first
        | (refine wpList_load_row (by rfl) 34 _ (by rfl) w.heap.size (by rfl) _ _ _ _ Ho.out Tryz.underlying34 rfl Hms.out ?_)
        | fail)
      refine (Hlong.out _ (Hb0.out.mono (Nat.le_refl _))).mono ?_
      rintro e w1 ⟨hb1, rfl⟩
      have Hb1 := Lib.hid (Hb0.out.trans (hb1.mono Hb0.out.size))
      have Ho1 := Lib.hid (Ho.out.under hb1 Ho.out.lt)
      clear hb1 Ho Hb0 Hlong
      go_wp2_with (first
        | (refine wpList_load_row (by rfl) 34 _ (by rfl) w.heap.size (by rfl) _ _ _ _ Ho1.out Tryz.underlying34 rfl Hms.out ?_)
        | fail)
      refine (Hhead.out _ Hb1.out).mono ?_
      rintro e w2 ⟨hb2, rfl⟩
      have Hb2 := Lib.hid (Hb1.out.trans (hb2.mono Hb1.out.size))
      have Ho2 := Lib.hid (Ho1.out.under hb2 Ho1.out.lt)
      have Hst2 := Lib.hid (Holds.new w2 30 Z)
      clear hb2 Ho1 Hb1 Hhead
      go_upto_region 4 with (first
        | (refine wpList_store_row (by rfl) 30 _ _ (by rfl) w2.heap.size HC.toArray (by rfl) (by rfl) _ _ Hst2.out Hh13.out (by exact Hhz.out) Hhone.out ?_; rw [World.setRow_alloc_new])
        | fail)
      have Hh3 := Lib.hid (Holds.new w2 30 HC)
      have Hb3 := Lib.hid (Hb2.out.alloc Hb2.out.size (.cells HC.toArray 30))
      have Ho3 := Lib.hid (Ho2.out.behind (.cells HC.toArray 30))
      clear Hst2 Hb2 Ho2
      generalize w2.alloc (.cells HC.toArray 30) = w3 at *
      generalize w2.heap.size = hb at *
      go_wp2_with (first
        | (refine wpList_load_row (by rfl) 34 _ (by rfl) w.heap.size (by rfl) _ _ _ _ Ho3.out Tryz.underlying34 rfl Hms.out ?_)
        | fail)
      refine (Hwant.out _ Hb3.out).mono ?_
      rintro e w4 ⟨hb4, v4, rfl, hown4⟩
      obtain ⟨av, cs, rfl⟩ := hown4.slice
      have Hb4 := Lib.hid (Hb3.out.trans (hb4.mono Hb3.out.size))
      have Ho4 := Lib.hid (Ho3.out.under hb4 Ho3.out.lt)
      have Hh4 := Lib.hid (Hh3.out.under hb4 Hh3.out.lt)
      have HL4 := Lib.hid hown4
      have HB4 := Lib.hid (show w.heap.size < w3.heap.size from Ho3.out.lt)
      clear hb4 hown4 Ho3 Hh3 Hb3 Hwant
      go_wp2_with (first
        | (refine wpList_load_row (by rfl) 30 _ (by rfl) hb (by rfl) _ _ _ _ Hh4.out Tryz.underlying30 rfl Hh13.out ?_)
        | fail)
      refine (Hbuild.out _).mono ?_
      rintro e w5 ⟨hb5, rfl⟩
      have Hb5 := Lib.hid (Hb4.out.trans (hb5.mono Hb4.out.size))
      have Ho5 := Lib.hid (Ho4.out.under hb5 Ho4.out.lt)
      have HL5 := Lib.hid (OwnP.step HL4.out hb5)
      clear hb5 Ho4 Hh4 HL4 Hb4 Hbuild
      go_wp2_with (fail)
      refine (Hparse.out _ Hb5.out).mono ?_
      rintro e w6 ⟨hb6, rfl⟩
      have Hb6 := Lib.hid (Hb5.out.trans (hb6.mono Hb5.out.size))
      have Ho6 := Lib.hid (Ho5.out.under hb6 Ho5.out.lt)
      have HL6 := Lib.hid (OwnP.step HL5.out hb6)
      have Hst6 := Lib.hid (Holds.new w6 30 Z)
      clear hb6 Ho5 HL5 Hb5 Hparse
      go_upto_region 9 with (first
        | (refine wpList_store_row (by rfl) 30 _ _ (by rfl) w6.heap.size KH.cells.toArray (by rfl) (by rfl) _ _ Hst6.out Hk13.out (by exact Hkz.out) Hkone.out ?_; rw [World.setRow_alloc_new])
        | fail)
      have Hk7 := Lib.hid (Holds.new w6 30 KH.cells)
      have hba : Below w6.heap.size w6 (w6.alloc (.cells KH.cells.toArray 30)) := (Below.refl _ _).alloc (Nat.le_refl _) _
      have Hb7 := Lib.hid (Hb6.out.trans (hba.mono Hb6.out.size))
      have Ho7 := Lib.hid (Ho6.out.under hba Ho6.out.lt)
      have HL7 := Lib.hid (OwnP.step HL6.out hba)
      have Hwk := Lib.hid (show w.heap.size < w6.heap.size from Ho6.out.lt)
      clear hba Hst6 Hb6 Ho6 HL6
      generalize w6.alloc (.cells KH.cells.toArray 30) = w7 at *
      generalize w6.heap.size = kb at *
      have c2 := Ho7.out.at Hk2.out
      have f2 := Ho7.out.frozen 2
      go_upto_if 55 with (fail)
      go_cut [55, 56] (fun _ _ wx => Holds wx w.heap.size 34 M1 ∧ Holds wx kb 30 KH.cells ∧ OwnP wx w3.heap.size (.slice av L.length cs) L ∧ Below w.heap.size w wx)
      case first =>
        by_cases hk : kd = 0
        · subst hk
          have Hn := Lib.hid (HkU.out rfl)
          have H8 := Lib.hid (show Holds (w7.setCell ⟨w.heap.size, 2, none⟩ (.int .u8 48)) w.heap.size 34 M1 by rw [Ho1'.out, Hn.out]; exact Ho7.out.put 2 _)
          have Hg := Lib.hid (grown_setCell w7 ⟨w.heap.size, 2, none⟩ (.int .u8 48))
          have Hk8 := Lib.hid (show Holds (w7.setCell ⟨w.heap.size, 2, none⟩ (.int .u8 48)) kb 30 KH.cells from Hk7.out.grown Hg.out (by have := Hwk.out; intro e; injection e with e; have : kb = w.heap.size := e; omega))
          have HL8 := Lib.hid (show OwnP (w7.setCell ⟨w.heap.size, 2, none⟩ (.int .u8 48)) w3.heap.size (.slice av L.length cs) L from World.ownsRow.kept HL7.out Hg.out (by
            rcases hv2 : (Value.slice av L.length cs).ownBlock with _ | g
            · exact .inl rfl
            · right
              have := (HL7.out.lt g hv2).1
              have := HB4.out
              intro e
              injection e with e
              have : g = w.heap.size := e
              omega))
          have Hb8 := Lib.hid (show Below w.heap.size w (w7.setCell ⟨w.heap.size, 2, none⟩ (.int .u8 48)) from Hb7.out.setCell (p := ⟨w.heap.size, 2, none⟩) (Nat.le_refl _) _)
          clear Hg Hn
          go_wp2
          go_meet
          case rel => exact ⟨H8.out, Hk8.out, HL8.out, Hb8.out⟩
        · have hk0 : (kd == 0) = false := by simpa using hk
          have Hn := Lib.hid (HkN.out hk)
          have H8 := Lib.hid (show Holds w7 w.heap.size 34 M1 by rw [Ho1'.out, Hn.out]; exact Ho7.out)
          go_wp2
          go_meet
          case rel => exact ⟨H8.out, Hk7.out, HL7.out, Hb7.out⟩
      case rest =>
        obtain ⟨h8, hk8, hl8, hb8⟩ := hcut
        have H8 := Lib.hid h8
        have Hk8 := Lib.hid hk8
        have HL8 := Lib.hid hl8
        have Hb8 := Lib.hid hb8
        clear h8 hk8 hl8 hb8 c2 f2 Ho7 Hk7 HL7 Hb7
        rename World => w8
        have Hd8 := Lib.hid (show Holds w8.drew kb 30 KH.cells from Hk8.out)
        have Hp8 := Lib.hid (show OwnP w8.drew w3.heap.size (.slice av L.length cs) L from HL8.out)
        have Hq8 := Lib.hid (show Below w.heap.size w w8.drew from Below.drew Hb8.out)
        have Hm8 := Lib.hid (show Holds w8.drew w.heap.size 34 M1 from H8.out)
        obtain ⟨bm0, bm1, bm2, bm3, bm4, bm5, bm6, bm7, bm8, bm9, bm10, bm11, bm12, bm13⟩ := BM
        obtain ⟨q0, q1, q2, q3, q4, q5, q6, q7, q8, q9, q10, q11, q12⟩ := KH
        have Hap := Lib.hid (fun (av : Option Addr) (cs : Nat) (w1 : World) (h : PairsIn w1 (.slice av L.length cs) L) => show Calls Tryz.prog 13 #[.agg #[.string ⟨q0.toArray⟩, .string ⟨q1.toArray⟩, .int .u8 q2, .int .i64 q3, .int .i64 q4, .int .i64 q5, .int .i64 q6, .int .i64 q7, .string ⟨q8.toArray⟩, .string ⟨q9.toArray⟩, .int .i64 q10, .int .i64 q11, .int .i64 q12], .slice av L.length cs] w1 fun e w' =>
            Below w1.heap.size w1 w' ∧ ∃ v, e = .returned (.tuple #[.agg #[.string ⟨bm0.toArray⟩, .string ⟨bm1.toArray⟩, .int .u8 bm2, .int .i64 bm3, .int .i64 bm4, .int .i64 bm5, .string ⟨bm6.toArray⟩, .string ⟨bm7.toArray⟩, .int .i64 bm8, .int .i64 bm9, .int .i64 bm10, .int .i64 bm11, v, .string ⟨bm13.toArray⟩], .int .i64 n, .int .i64 0]) ∧ OwnP w' w1.heap.size v X from Happly.out av cs w1 h)
        go_upto_region 11 with (fail)
        go_cut [13, 14, 15] (fun gp n2 e2 wx => ∃ (gb : Nat) (aA : Option Addr) (cA : Nat), gp = .pointer (some ⟨gb, 0, none⟩) ∧ n2 = .int .i64 n ∧ e2 = .int .i64 0 ∧ w.heap.size < gb ∧ Holds wx gb 34 ((Mb.mk bm0 bm1 bm2 bm3 bm4 bm5 bm6 bm7 bm8 bm9 bm10 bm11 bm12 bm13).ex (.slice aA X.length cA)).cells ∧ OwnP wx (w.heap.size + 1) (.slice aA X.length cA) X ∧ Holds wx w.heap.size 34 M1 ∧ Below w.heap.size w wx)
        case first =>
          have hbw := Hwk.out
          have hkl : kb < w8.heap.size := Hk8.out.lt
          have s8 := cellsHd Hd8.out
          have Ha8 := Lib.hid (show Holds (w8.alloc (.cells #[Value.string ⟨#[]⟩, Value.string ⟨#[]⟩, Value.int .u8 0, Value.int .i64 0, Value.int .i64 0, Value.int .i64 0, Value.string ⟨#[]⟩, Value.string ⟨#[]⟩, Value.int .i64 0, Value.int .i64 0, Value.int .i64 0, Value.int .i64 0, Value.slice none 0 0, Value.string ⟨#[]⟩] 34)).drew kb 30 _ from Hk8.out.behind (.cells #[Value.string ⟨#[]⟩, Value.string ⟨#[]⟩, Value.int .u8 0, Value.int .i64 0, Value.int .i64 0, Value.int .i64 0, Value.string ⟨#[]⟩, Value.string ⟨#[]⟩, Value.int .i64 0, Value.int .i64 0, Value.int .i64 0, Value.int .i64 0, Value.slice none 0 0, Value.string ⟨#[]⟩] 34))
          have s8a := cellsHd Ha8.out
          have Hr8 := Lib.hid (show PairsIn w8.drew (.slice av L.length cs) L from Hp8.out.pairs)
          have Hr8a := Lib.hid (show PairsIn ((w8.alloc (.cells #[Value.string ⟨#[]⟩, Value.string ⟨#[]⟩, Value.int .u8 0, Value.int .i64 0, Value.int .i64 0, Value.int .i64 0, Value.string ⟨#[]⟩, Value.string ⟨#[]⟩, Value.int .i64 0, Value.int .i64 0, Value.int .i64 0, Value.int .i64 0, Value.slice none 0 0, Value.string ⟨#[]⟩] 34)).drew) (.slice av L.length cs) L from OwnP.pairs (show OwnP ((w8.alloc (.cells #[Value.string ⟨#[]⟩, Value.string ⟨#[]⟩, Value.int .u8 0, Value.int .i64 0, Value.int .i64 0, Value.int .i64 0, Value.string ⟨#[]⟩, Value.string ⟨#[]⟩, Value.int .i64 0, Value.int .i64 0, Value.int .i64 0, Value.int .i64 0, Value.slice none 0 0, Value.string ⟨#[]⟩] 34)).drew) w3.heap.size (.slice av L.length cs) L from World.ownsRow.alloc HL8.out _))
          have Hg8 := Lib.hid (show Holds ((w8.alloc (.cells #[Value.string ⟨#[]⟩, Value.string ⟨#[]⟩, Value.int .u8 0, Value.int .i64 0, Value.int .i64 0, Value.int .i64 0, Value.string ⟨#[]⟩, Value.string ⟨#[]⟩, Value.int .i64 0, Value.int .i64 0, Value.int .i64 0, Value.int .i64 0, Value.slice none 0 0, Value.string ⟨#[]⟩] 34)).drew) w8.heap.size 34 [Value.string ⟨#[]⟩, Value.string ⟨#[]⟩, Value.int .u8 0, Value.int .i64 0, Value.int .i64 0, Value.int .i64 0, Value.string ⟨#[]⟩, Value.string ⟨#[]⟩, Value.int .i64 0, Value.int .i64 0, Value.int .i64 0, Value.int .i64 0, Value.slice none 0 0, Value.string ⟨#[]⟩] from Holds.new w8 _ _)
          go_region_held3 (fun w' => w'.cell? ⟨kb, 0, none⟩ = some (.string ⟨q0.toArray⟩) ∧ w'.cell? ⟨kb, 1, none⟩ = some (.string ⟨q1.toArray⟩) ∧ w'.cell? ⟨kb, 2, none⟩ = some (.int .u8 q2) ∧ w'.cell? ⟨kb, 3, none⟩ = some (.int .i64 q3) ∧ w'.cell? ⟨kb, 4, none⟩ = some (.int .i64 q4) ∧ w'.cell? ⟨kb, 5, none⟩ = some (.int .i64 q5) ∧ w'.cell? ⟨kb, 6, none⟩ = some (.int .i64 q6) ∧ w'.cell? ⟨kb, 7, none⟩ = some (.int .i64 q7) ∧ w'.cell? ⟨kb, 8, none⟩ = some (.string ⟨q8.toArray⟩) ∧ w'.cell? ⟨kb, 9, none⟩ = some (.string ⟨q9.toArray⟩) ∧ w'.cell? ⟨kb, 10, none⟩ = some (.int .i64 q10) ∧ w'.cell? ⟨kb, 11, none⟩ = some (.int .i64 q11) ∧ w'.cell? ⟨kb, 12, none⟩ = some (.int .i64 q12))
            (first | (with_reducible assumption))
            (first
            | (go_at_call 10; refine (Hmerge.out av cs _ ?_).mono ?_; (first | (with_reducible exact Hr8.out) | (with_reducible exact Hr8a.out)); rintro e wM ⟨hbM, vM, rfl, hvM⟩; obtain ⟨aM, cM, rfl⟩ := hvM.slice; have hkM : Holds wM kb 30 _ := (by first | (with_reducible exact Hd8.out.under hbM Hd8.out.lt) | (with_reducible exact Ha8.out.under hbM Ha8.out.lt)); have hrM : PairsIn wM (.slice aM L.length cM) L := hvM.pairs; have hrMa : PairsIn (wM.alloc (.cells #[Value.string ⟨#[]⟩, Value.string ⟨#[]⟩, Value.int .u8 0, Value.int .i64 0, Value.int .i64 0, Value.int .i64 0, Value.string ⟨#[]⟩, Value.string ⟨#[]⟩, Value.int .i64 0, Value.int .i64 0, Value.int .i64 0, Value.int .i64 0, Value.slice none 0 0, Value.string ⟨#[]⟩] 34)) (.slice aM L.length cM) L := OwnP.pairs (World.ownsRow.alloc hvM _); have sM := cellsHd hkM; have sMa := cellsHd (hkM.behind (.cells #[Value.string ⟨#[]⟩, Value.string ⟨#[]⟩, Value.int .u8 0, Value.int .i64 0, Value.int .i64 0, Value.int .i64 0, Value.string ⟨#[]⟩, Value.string ⟨#[]⟩, Value.int .i64 0, Value.int .i64 0, Value.int .i64 0, Value.int .i64 0, Value.slice none 0 0, Value.string ⟨#[]⟩] 34)); (try (have hx : Below ((w8.alloc (.cells #[Value.string ⟨#[]⟩, Value.string ⟨#[]⟩, Value.int .u8 0, Value.int .i64 0, Value.int .i64 0, Value.int .i64 0, Value.string ⟨#[]⟩, Value.string ⟨#[]⟩, Value.int .i64 0, Value.int .i64 0, Value.int .i64 0, Value.int .i64 0, Value.slice none 0 0, Value.string ⟨#[]⟩] 34)).drew).heap.size ((w8.alloc (.cells #[Value.string ⟨#[]⟩, Value.string ⟨#[]⟩, Value.int .u8 0, Value.int .i64 0, Value.int .i64 0, Value.int .i64 0, Value.string ⟨#[]⟩, Value.string ⟨#[]⟩, Value.int .i64 0, Value.int .i64 0, Value.int .i64 0, Value.int .i64 0, Value.slice none 0 0, Value.string ⟨#[]⟩] 34)).drew) wM := (by with_reducible exact hbM); have hgM := Hg8.out.under hx Hg8.out.lt)))
            | (go_at_call 13; refine (Hap.out aM cM _ ?_).mono ?_; (first | (with_reducible exact hrM) | (with_reducible exact hrMa)); rintro e wA ⟨hbA, vA, rfl, hvA⟩; obtain ⟨aA, cA, rfl⟩ := hvA.slice; have hkA : Holds wA kb 30 _ := (by first | (with_reducible exact hkM.under hbA hkM.lt) | (with_reducible exact (hkM.behind (.cells #[Value.string ⟨#[]⟩, Value.string ⟨#[]⟩, Value.int .u8 0, Value.int .i64 0, Value.int .i64 0, Value.int .i64 0, Value.string ⟨#[]⟩, Value.string ⟨#[]⟩, Value.int .i64 0, Value.int .i64 0, Value.int .i64 0, Value.int .i64 0, Value.slice none 0 0, Value.string ⟨#[]⟩] 34)).under hbA (hkM.behind (.cells #[Value.string ⟨#[]⟩, Value.string ⟨#[]⟩, Value.int .u8 0, Value.int .i64 0, Value.int .i64 0, Value.int .i64 0, Value.string ⟨#[]⟩, Value.string ⟨#[]⟩, Value.int .i64 0, Value.int .i64 0, Value.int .i64 0, Value.int .i64 0, Value.slice none 0 0, Value.string ⟨#[]⟩] 34)).lt)); have sA := cellsHd hkA; have sAa := cellsHd (hkA.behind (.cells #[Value.string ⟨#[]⟩, Value.string ⟨#[]⟩, Value.int .u8 0, Value.int .i64 0, Value.int .i64 0, Value.int .i64 0, Value.string ⟨#[]⟩, Value.string ⟨#[]⟩, Value.int .i64 0, Value.int .i64 0, Value.int .i64 0, Value.int .i64 0, Value.slice none 0 0, Value.string ⟨#[]⟩] 34)); have sAf := cellsHd (hkA.behind (.cells #[.string ⟨bm0.toArray⟩, .string ⟨bm1.toArray⟩, .int .u8 bm2, .int .i64 bm3, .int .i64 bm4, .int .i64 bm5, .string ⟨bm6.toArray⟩, .string ⟨bm7.toArray⟩, .int .i64 bm8, .int .i64 bm9, .int .i64 bm10, .int .i64 bm11, .slice aA X.length cA, .string ⟨bm13.toArray⟩] 34)); (try (have hgA := hgM.under hbA hgM.lt; obtain ⟨⟨gav0, gav1, gav2, gav3, gav4, gav5, gav6, gav7, gav8, gav9, gav10, gav11, gav12, gav13, gac0, gac1, gac2, gac3, gac4, gac5, gac6, gac7, gac8, gac9, gac10, gac11, gac12, gac13⟩, gaf0, gaf1, gaf2, gaf3, gaf4, gaf5, gaf6, gaf7, gaf8, gaf9, gaf10, gaf11, gaf12, gaf13⟩ := wr14 hgA rfl; have sS := cellsHd (holds_setCells_ne (g := w8.heap.size) (by omega) [.string ⟨bm0.toArray⟩, .string ⟨bm1.toArray⟩, .int .u8 bm2, .int .i64 bm3, .int .i64 bm4, .int .i64 bm5, .string ⟨bm6.toArray⟩, .string ⟨bm7.toArray⟩, .int .i64 bm8, .int .i64 bm9, .int .i64 bm10, .int .i64 bm11, .slice aA X.length cA, .string ⟨bm13.toArray⟩] 0 hkA); simp only [World.setCells, Nat.reduceAdd] at sS)); (try (have hx : Below (wM.alloc (.cells #[Value.string ⟨#[]⟩, Value.string ⟨#[]⟩, Value.int .u8 0, Value.int .i64 0, Value.int .i64 0, Value.int .i64 0, Value.string ⟨#[]⟩, Value.string ⟨#[]⟩, Value.int .i64 0, Value.int .i64 0, Value.int .i64 0, Value.int .i64 0, Value.slice none 0 0, Value.string ⟨#[]⟩] 34)).heap.size (wM.alloc (.cells #[Value.string ⟨#[]⟩, Value.string ⟨#[]⟩, Value.int .u8 0, Value.int .i64 0, Value.int .i64 0, Value.int .i64 0, Value.string ⟨#[]⟩, Value.string ⟨#[]⟩, Value.int .i64 0, Value.int .i64 0, Value.int .i64 0, Value.int .i64 0, Value.slice none 0 0, Value.string ⟨#[]⟩] 34)) wA := (by with_reducible exact hbA); have hgB := (Holds.new wM 34 [Value.string ⟨#[]⟩, Value.string ⟨#[]⟩, Value.int .u8 0, Value.int .i64 0, Value.int .i64 0, Value.int .i64 0, Value.string ⟨#[]⟩, Value.string ⟨#[]⟩, Value.int .i64 0, Value.int .i64 0, Value.int .i64 0, Value.int .i64 0, Value.slice none 0 0, Value.string ⟨#[]⟩]).under hx (by rw [World.size_alloc]; omega); obtain ⟨⟨gbv0, gbv1, gbv2, gbv3, gbv4, gbv5, gbv6, gbv7, gbv8, gbv9, gbv10, gbv11, gbv12, gbv13, gbc0, gbc1, gbc2, gbc3, gbc4, gbc5, gbc6, gbc7, gbc8, gbc9, gbc10, gbc11, gbc12, gbc13⟩, gbf0, gbf1, gbf2, gbf3, gbf4, gbf5, gbf6, gbf7, gbf8, gbf9, gbf10, gbf11, gbf12, gbf13⟩ := wr14 hgB rfl; have sS := cellsHd (holds_setCells_ne (g := wM.heap.size) (by have := hkM.lt; omega) [.string ⟨bm0.toArray⟩, .string ⟨bm1.toArray⟩, .int .u8 bm2, .int .i64 bm3, .int .i64 bm4, .int .i64 bm5, .string ⟨bm6.toArray⟩, .string ⟨bm7.toArray⟩, .int .i64 bm8, .int .i64 bm9, .int .i64 bm10, .int .i64 bm11, .slice aA X.length cA, .string ⟨bm13.toArray⟩] 0 hkA); simp only [World.setCells, Nat.reduceAdd] at sS))))
          · have hwM : Below w.heap.size w wM := Hq8.out.trans (hbM.mono Hq8.out.size)
            have hwA : Below w.heap.size w wA := hwM.trans (hbA.mono hwM.size)
            have hmA : Holds wA w.heap.size 34 M1 := (Hm8.out.under hbM Hm8.out.lt).under hbA (Hm8.out.under hbM Hm8.out.lt).lt
            have hlw : w.heap.size < wM.heap.size := (Hm8.out.under hbM Hm8.out.lt).lt
            have E1 := Lib.hid (show Holds (wA.alloc (.cells #[.string ⟨bm0.toArray⟩, .string ⟨bm1.toArray⟩, .int .u8 bm2, .int .i64 bm3, .int .i64 bm4, .int .i64 bm5, .string ⟨bm6.toArray⟩, .string ⟨bm7.toArray⟩, .int .i64 bm8, .int .i64 bm9, .int .i64 bm10, .int .i64 bm11, .slice aA X.length cA, .string ⟨bm13.toArray⟩] 34)) wA.heap.size 34 ((Mb.mk bm0 bm1 bm2 bm3 bm4 bm5 bm6 bm7 bm8 bm9 bm10 bm11 bm12 bm13).ex (.slice aA X.length cA)).cells from Holds.new wA _ _)
            have E2 := Lib.hid (show OwnP (wA.alloc (.cells #[.string ⟨bm0.toArray⟩, .string ⟨bm1.toArray⟩, .int .u8 bm2, .int .i64 bm3, .int .i64 bm4, .int .i64 bm5, .string ⟨bm6.toArray⟩, .string ⟨bm7.toArray⟩, .int .i64 bm8, .int .i64 bm9, .int .i64 bm10, .int .i64 bm11, .slice aA X.length cA, .string ⟨bm13.toArray⟩] 34)) (w.heap.size + 1) (.slice aA X.length cA) X from World.ownsRow.alloc (OwnP.base hvA hlw) _)
            have E3 := Lib.hid (hmA.behind (.cells #[.string ⟨bm0.toArray⟩, .string ⟨bm1.toArray⟩, .int .u8 bm2, .int .i64 bm3, .int .i64 bm4, .int .i64 bm5, .string ⟨bm6.toArray⟩, .string ⟨bm7.toArray⟩, .int .i64 bm8, .int .i64 bm9, .int .i64 bm10, .int .i64 bm11, .slice aA X.length cA, .string ⟨bm13.toArray⟩] 34))
            have E4 := Lib.hid (hwA.alloc hwA.size (.cells #[.string ⟨bm0.toArray⟩, .string ⟨bm1.toArray⟩, .int .u8 bm2, .int .i64 bm3, .int .i64 bm4, .int .i64 bm5, .string ⟨bm6.toArray⟩, .string ⟨bm7.toArray⟩, .int .i64 bm8, .int .i64 bm9, .int .i64 bm10, .int .i64 bm11, .slice aA X.length cA, .string ⟨bm13.toArray⟩] 34))
            have E5 := Lib.hid (show w.heap.size < wA.heap.size from hmA.lt)
            go_wp2
            go_meet
            case rel => exact ⟨wA.heap.size, aA, cA, rfl, rfl, rfl, E5.out, E1.out, E2.out, E3.out, E4.out⟩
          · have hwM : Below w.heap.size w wM := Hq8.out.trans (hbM.mono Hq8.out.size)
            have hwA0 : Below w.heap.size w (wM.alloc (.cells #[Value.string ⟨#[]⟩, Value.string ⟨#[]⟩, Value.int .u8 0, Value.int .i64 0, Value.int .i64 0, Value.int .i64 0, Value.string ⟨#[]⟩, Value.string ⟨#[]⟩, Value.int .i64 0, Value.int .i64 0, Value.int .i64 0, Value.int .i64 0, Value.slice none 0 0, Value.string ⟨#[]⟩] 34)) := hwM.alloc hwM.size _
            have hwA : Below w.heap.size w wA := hwA0.trans (hbA.mono hwA0.size)
            have hmM := Hm8.out.under hbM Hm8.out.lt
            have hmA : Holds wA w.heap.size 34 M1 := (hmM.behind (.cells #[Value.string ⟨#[]⟩, Value.string ⟨#[]⟩, Value.int .u8 0, Value.int .i64 0, Value.int .i64 0, Value.int .i64 0, Value.string ⟨#[]⟩, Value.string ⟨#[]⟩, Value.int .i64 0, Value.int .i64 0, Value.int .i64 0, Value.int .i64 0, Value.slice none 0 0, Value.string ⟨#[]⟩] 34)).under hbA (hmM.behind (.cells #[Value.string ⟨#[]⟩, Value.string ⟨#[]⟩, Value.int .u8 0, Value.int .i64 0, Value.int .i64 0, Value.int .i64 0, Value.string ⟨#[]⟩, Value.string ⟨#[]⟩, Value.int .i64 0, Value.int .i64 0, Value.int .i64 0, Value.int .i64 0, Value.slice none 0 0, Value.string ⟨#[]⟩] 34)).lt
            have hlw : w.heap.size < wM.heap.size := hmM.lt
            have hvA2 : OwnP wA (wM.heap.size + 1) (.slice aA X.length cA) X := OwnP.base hvA (by rw [World.size_alloc]; exact Nat.le_refl _)
            have E1 := Lib.hid (show Holds (wA.setCells wM.heap.size 0 [.string ⟨bm0.toArray⟩, .string ⟨bm1.toArray⟩, .int .u8 bm2, .int .i64 bm3, .int .i64 bm4, .int .i64 bm5, .string ⟨bm6.toArray⟩, .string ⟨bm7.toArray⟩, .int .i64 bm8, .int .i64 bm9, .int .i64 bm10, .int .i64 bm11, .slice aA X.length cA, .string ⟨bm13.toArray⟩]) wM.heap.size 34 ((Mb.mk bm0 bm1 bm2 bm3 bm4 bm5 bm6 bm7 bm8 bm9 bm10 bm11 bm12 bm13).ex (.slice aA X.length cA)).cells from Holds.setCells [.string ⟨bm0.toArray⟩, .string ⟨bm1.toArray⟩, .int .u8 bm2, .int .i64 bm3, .int .i64 bm4, .int .i64 bm5, .string ⟨bm6.toArray⟩, .string ⟨bm7.toArray⟩, .int .i64 bm8, .int .i64 bm9, .int .i64 bm10, .int .i64 bm11, .slice aA X.length cA, .string ⟨bm13.toArray⟩] 0 wA _ hgB)
            have E2 := Lib.hid (show OwnP (wA.setCells wM.heap.size 0 [.string ⟨bm0.toArray⟩, .string ⟨bm1.toArray⟩, .int .u8 bm2, .int .i64 bm3, .int .i64 bm4, .int .i64 bm5, .string ⟨bm6.toArray⟩, .string ⟨bm7.toArray⟩, .int .i64 bm8, .int .i64 bm9, .int .i64 bm10, .int .i64 bm11, .slice aA X.length cA, .string ⟨bm13.toArray⟩]) (w.heap.size + 1) (.slice aA X.length cA) X from OwnP.base (owns_setCells wM.heap.size (fun e => by have := (hvA2.lt _ e).1; omega) [.string ⟨bm0.toArray⟩, .string ⟨bm1.toArray⟩, .int .u8 bm2, .int .i64 bm3, .int .i64 bm4, .int .i64 bm5, .string ⟨bm6.toArray⟩, .string ⟨bm7.toArray⟩, .int .i64 bm8, .int .i64 bm9, .int .i64 bm10, .int .i64 bm11, .slice aA X.length cA, .string ⟨bm13.toArray⟩] 0 wA hvA2) (by omega))
            have E3 := Lib.hid (holds_setCells_ne (g := wM.heap.size) (by omega) [.string ⟨bm0.toArray⟩, .string ⟨bm1.toArray⟩, .int .u8 bm2, .int .i64 bm3, .int .i64 bm4, .int .i64 bm5, .string ⟨bm6.toArray⟩, .string ⟨bm7.toArray⟩, .int .i64 bm8, .int .i64 bm9, .int .i64 bm10, .int .i64 bm11, .slice aA X.length cA, .string ⟨bm13.toArray⟩] 0 hmA)
            have E4 := Lib.hid (below_setCellsU wM.heap.size (by omega) [.string ⟨bm0.toArray⟩, .string ⟨bm1.toArray⟩, .int .u8 bm2, .int .i64 bm3, .int .i64 bm4, .int .i64 bm5, .string ⟨bm6.toArray⟩, .string ⟨bm7.toArray⟩, .int .i64 bm8, .int .i64 bm9, .int .i64 bm10, .int .i64 bm11, .slice aA X.length cA, .string ⟨bm13.toArray⟩] 0 wA hwA)
            have E5 := Lib.hid hlw
            go_wp2
            go_meet
            case rel => exact ⟨wM.heap.size, aA, cA, rfl, rfl, rfl, E5.out, E1.out, E2.out, E3.out, E4.out⟩
          · have hq8a : Below w.heap.size w ((w8.alloc (.cells #[Value.string ⟨#[]⟩, Value.string ⟨#[]⟩, Value.int .u8 0, Value.int .i64 0, Value.int .i64 0, Value.int .i64 0, Value.string ⟨#[]⟩, Value.string ⟨#[]⟩, Value.int .i64 0, Value.int .i64 0, Value.int .i64 0, Value.int .i64 0, Value.slice none 0 0, Value.string ⟨#[]⟩] 34)).drew) := Below.drew (Hb8.out.alloc Hb8.out.size _)
            have hwM : Below w.heap.size w wM := hq8a.trans (hbM.mono hq8a.size)
            have hwA : Below w.heap.size w wA := hwM.trans (hbA.mono hwM.size)
            have hm8a : Holds ((w8.alloc (.cells #[Value.string ⟨#[]⟩, Value.string ⟨#[]⟩, Value.int .u8 0, Value.int .i64 0, Value.int .i64 0, Value.int .i64 0, Value.string ⟨#[]⟩, Value.string ⟨#[]⟩, Value.int .i64 0, Value.int .i64 0, Value.int .i64 0, Value.int .i64 0, Value.slice none 0 0, Value.string ⟨#[]⟩] 34)).drew) w.heap.size 34 M1 := H8.out.behind (.cells #[Value.string ⟨#[]⟩, Value.string ⟨#[]⟩, Value.int .u8 0, Value.int .i64 0, Value.int .i64 0, Value.int .i64 0, Value.string ⟨#[]⟩, Value.string ⟨#[]⟩, Value.int .i64 0, Value.int .i64 0, Value.int .i64 0, Value.int .i64 0, Value.slice none 0 0, Value.string ⟨#[]⟩] 34)
            have hmM := hm8a.under hbM hm8a.lt
            have hmA : Holds wA w.heap.size 34 M1 := hmM.under hbA hmM.lt
            have hlw : w.heap.size < w8.heap.size := H8.out.lt
            have hl8 : w8.heap.size < wM.heap.size := hgM.lt
            have hvA2 : OwnP wA (w8.heap.size + 1) (.slice aA X.length cA) X := OwnP.base hvA hl8
            have E1 := Lib.hid (show Holds (wA.setCells w8.heap.size 0 [.string ⟨bm0.toArray⟩, .string ⟨bm1.toArray⟩, .int .u8 bm2, .int .i64 bm3, .int .i64 bm4, .int .i64 bm5, .string ⟨bm6.toArray⟩, .string ⟨bm7.toArray⟩, .int .i64 bm8, .int .i64 bm9, .int .i64 bm10, .int .i64 bm11, .slice aA X.length cA, .string ⟨bm13.toArray⟩]) w8.heap.size 34 ((Mb.mk bm0 bm1 bm2 bm3 bm4 bm5 bm6 bm7 bm8 bm9 bm10 bm11 bm12 bm13).ex (.slice aA X.length cA)).cells from Holds.setCells [.string ⟨bm0.toArray⟩, .string ⟨bm1.toArray⟩, .int .u8 bm2, .int .i64 bm3, .int .i64 bm4, .int .i64 bm5, .string ⟨bm6.toArray⟩, .string ⟨bm7.toArray⟩, .int .i64 bm8, .int .i64 bm9, .int .i64 bm10, .int .i64 bm11, .slice aA X.length cA, .string ⟨bm13.toArray⟩] 0 wA _ hgA)
            have E2 := Lib.hid (show OwnP (wA.setCells w8.heap.size 0 [.string ⟨bm0.toArray⟩, .string ⟨bm1.toArray⟩, .int .u8 bm2, .int .i64 bm3, .int .i64 bm4, .int .i64 bm5, .string ⟨bm6.toArray⟩, .string ⟨bm7.toArray⟩, .int .i64 bm8, .int .i64 bm9, .int .i64 bm10, .int .i64 bm11, .slice aA X.length cA, .string ⟨bm13.toArray⟩]) (w.heap.size + 1) (.slice aA X.length cA) X from OwnP.base (owns_setCells w8.heap.size (fun e => by have := (hvA2.lt _ e).1; omega) [.string ⟨bm0.toArray⟩, .string ⟨bm1.toArray⟩, .int .u8 bm2, .int .i64 bm3, .int .i64 bm4, .int .i64 bm5, .string ⟨bm6.toArray⟩, .string ⟨bm7.toArray⟩, .int .i64 bm8, .int .i64 bm9, .int .i64 bm10, .int .i64 bm11, .slice aA X.length cA, .string ⟨bm13.toArray⟩] 0 wA hvA2) (by omega))
            have E3 := Lib.hid (holds_setCells_ne (g := w8.heap.size) (by omega) [.string ⟨bm0.toArray⟩, .string ⟨bm1.toArray⟩, .int .u8 bm2, .int .i64 bm3, .int .i64 bm4, .int .i64 bm5, .string ⟨bm6.toArray⟩, .string ⟨bm7.toArray⟩, .int .i64 bm8, .int .i64 bm9, .int .i64 bm10, .int .i64 bm11, .slice aA X.length cA, .string ⟨bm13.toArray⟩] 0 hmA)
            have E4 := Lib.hid (below_setCellsU w8.heap.size (by omega) [.string ⟨bm0.toArray⟩, .string ⟨bm1.toArray⟩, .int .u8 bm2, .int .i64 bm3, .int .i64 bm4, .int .i64 bm5, .string ⟨bm6.toArray⟩, .string ⟨bm7.toArray⟩, .int .i64 bm8, .int .i64 bm9, .int .i64 bm10, .int .i64 bm11, .slice aA X.length cA, .string ⟨bm13.toArray⟩] 0 wA hwA)
            have E5 := Lib.hid hlw
            go_wp2
            go_meet
            case rel => exact ⟨w8.heap.size, aA, cA, rfl, rfl, rfl, E5.out, E1.out, E2.out, E3.out, E4.out⟩
        case rest =>
          obtain ⟨gb, aA, cA, rfl, rfl, rfl, hlt, hgot, hown, hbox, hb9⟩ := hcut
          rename World => w9
          have c13 := hbox.at Hk13'.out
          have f13 := hbox.frozen 13
          have Hg := Lib.hid (grown_setCell w9 ⟨w.heap.size, 13, none⟩ (.string ⟨#[]⟩))
          have Hgot := Lib.hid (show Holds (w9.setCell ⟨w.heap.size, 13, none⟩ (.string ⟨#[]⟩)) gb 34 ((Mb.mk bm0 bm1 bm2 bm3 bm4 bm5 bm6 bm7 bm8 bm9 bm10 bm11 bm12 bm13).ex (.slice aA X.length cA)).cells from hgot.grown Hg.out (by intro e; injection e with e; have : gb = w.heap.size := e; omega))
          have Hbox := Lib.hid (show Holds (w9.setCell ⟨w.heap.size, 13, none⟩ (.string ⟨#[]⟩)) w.heap.size 34 ((Mb.mk bm0 bm1 bm2 bm3 bm4 bm5 bm6 bm7 bm8 bm9 bm10 bm11 bm12 bm13).ex (.slice ax X.length cx)).cells by rw [← Hset13.out]; exact hbox.put 13 _)
          have Hpx := Lib.hid (OwnP.pairs (show OwnP (w9.setCell ⟨w.heap.size, 13, none⟩ (.string ⟨#[]⟩)) (w.heap.size + 1) (.slice aA X.length cA) X from World.ownsRow.kept hown Hg.out (by
            rcases hv2 : (Value.slice aA X.length cA).ownBlock with _ | g
            · exact .inl rfl
            · right
              have := (hown.lt g hv2).1
              intro e
              injection e with e
              have : g = w.heap.size := e
              omega)))
          have Hb9 := Lib.hid (show Below w.heap.size w (w9.setCell ⟨w.heap.size, 13, none⟩ (.string ⟨#[]⟩)) from hb9.setCell (p := ⟨w.heap.size, 13, none⟩) (Nat.le_refl _) _)
          have Hpm := Lib.hid (HX.out.under Hb9.out)
          have Hgs := Lib.hid (Hgz.out aA cA)
          have Hms2 := Hm1s
          have Hsm := Lib.hid (Hsame.out aA cA _ Hpx.out Hpm.out)
          clear Hg hown hgot hbox hb9 Hd8 Hp8 Hq8 Hm8 H8 Hk8 HL8 Hb8 Hap Hmerge Happly
          go_upto_region 13 with (fail)
          clear c13 f13
          generalize w9.setCell ⟨w.heap.size, 13, none⟩ (.string ⟨#[]⟩) = w10 at *
          generalize ((Mb.mk bm0 bm1 bm2 bm3 bm4 bm5 bm6 bm7 bm8 bm9 bm10 bm11 bm12 bm13).ex (.slice aA X.length cA)).cells = G1 at *
          generalize ((Mb.mk bm0 bm1 bm2 bm3 bm4 bm5 bm6 bm7 bm8 bm9 bm10 bm11 bm12 bm13).ex (.slice ax X.length cx)).cells = G2 at *
          go_wp2_with (first
            | (refine BigFrame.wpList_want rfl (fun K hK => wp_load_row 34 _ rfl gb rfl _ _ _ _ Hgot.out Tryz.underlying34 rfl Hgs.out (hK _ _ ?_)))
            | (refine BigFrame.wpList_want rfl (fun K hK => wp_load_row 34 _ rfl w.heap.size rfl _ _ _ _ Hbox.out Tryz.underlying34 rfl Hms2.out (hK _ _ ?_)))
            | fail)
          refine Hsm.out.mono ?_
          rintro e w11 ⟨hb11, rfl⟩
          have Hb11 := Lib.hid (Hb9.out.trans (hb11.mono Hb9.out.size))
          clear hb11
          go_wp2_with (fail)
          refine (Haw.out _ (Hstep.out _ _ Hok.out Hb11.out)).mono ?_
          rintro e w12 ⟨hb12, rfl⟩
          have Hb12 := Lib.hid (Hb11.out.trans (hb12.mono Hb11.out.size))
          clear hb12
          go_wp2
          go_ret
          exact ⟨Hb12.out, rfl⟩
    · have hE0 : ((dvRes m n X).e == 0) = false := by simpa using hE
      have hE1 : ((dvRes m n X).e != 0) = true := by simpa using hE
      have hE2 : decide ((dvRes m n X).e = 0) = false := decide_eq_false hE
      have Hh13 := Lib.hid (head_size (dvRes m n X).h)
      have Hhone := Lib.hid ((dvRes m n X).h.cells_one)
      have Hhz := Lib.hid (show Hd.zero.cells.toArray.size = (dvRes m n X).h.cells.toArray.size from rfl)
      unfold Mb.val Hd.val at *
      generalize (dvRes m n X).e = E at *
      generalize (dvRes m n X).l = L at *
      generalize (dvRes m n X).h.cells = HC at *
      generalize Hd.zero.cells = Z at *
      generalize m.cells = C at *
      clear hok haw hstep htab hmax hX hXl hlg htl l0 l1 l2 l3 hin hx2 hex hfine
      go_enter Tryz.func5, Tryz.ntmps5
      go_wp2_with (first
        | (refine wpList_load_row (by rfl) 34 _ (by rfl) w.heap.size (by rfl) _ _ _ _ Ho.out Tryz.underlying34 rfl Hms.out ?_)
        | fail)
      refine (Hlong.out _ (Hb0.out.mono (Nat.le_refl _))).mono ?_
      rintro e w1 ⟨hb1, rfl⟩
      have Hb1 := Lib.hid (Hb0.out.trans (hb1.mono Hb0.out.size))
      have Ho1 := Lib.hid (Ho.out.under hb1 Ho.out.lt)
      clear hb1 Ho Hb0 Hlong
      go_wp2_with (first
        | (refine wpList_load_row (by rfl) 34 _ (by rfl) w.heap.size (by rfl) _ _ _ _ Ho1.out Tryz.underlying34 rfl Hms.out ?_)
        | fail)
      refine (Hhead.out _ Hb1.out).mono ?_
      rintro e w2 ⟨hb2, rfl⟩
      have Hb2 := Lib.hid (Hb1.out.trans (hb2.mono Hb1.out.size))
      have Ho2 := Lib.hid (Ho1.out.under hb2 Ho1.out.lt)
      have Hst2 := Lib.hid (Holds.new w2 30 Z)
      clear hb2 Ho1 Hb1 Hhead
      go_upto_region 4 with (first
        | (refine wpList_store_row (by rfl) 30 _ _ (by rfl) w2.heap.size HC.toArray (by rfl) (by rfl) _ _ Hst2.out Hh13.out (by exact Hhz.out) Hhone.out ?_; rw [World.setRow_alloc_new])
        | fail)
      have Hb3 := Lib.hid (Hb2.out.alloc Hb2.out.size (.cells HC.toArray 30))
      have Ho3 := Lib.hid (Ho2.out.behind (.cells HC.toArray 30))
      clear Hst2 Hb2 Ho2
      generalize w2.alloc (.cells HC.toArray 30) = w3 at *
      generalize w2.heap.size = hb at *
      go_wp2_with (first
        | (refine wpList_load_row (by rfl) 34 _ (by rfl) w.heap.size (by rfl) _ _ _ _ Ho3.out Tryz.underlying34 rfl Hms.out ?_)
        | fail)
      refine (Hwant.out _ Hb3.out).mono ?_
      rintro e w4 ⟨hb4, v4, rfl, hown4⟩
      have Hb4 := Lib.hid (Hb3.out.trans (hb4.mono Hb3.out.size))
      clear hb4 hown4 Ho3 Hb3 Hwant
      go_wp2_with (fail)
      refine (Haw.out _ (Hstep.out _ _ Hok.out Hb4.out)).mono ?_
      rintro e w5 ⟨hb5, rfl⟩
      have Hb5 := Lib.hid (Hb4.out.trans (hb5.mono Hb4.out.size))
      clear hb5
      go_wp2
      go_ret
      exact ⟨Hb5.out, rfl⟩
end Go.Proofs.YtjmmecokfijglaaGreatDoor.attrsBack
