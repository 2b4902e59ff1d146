/-
  Texts of this seat's proof, joined: their order is that of the build.
-/
import Derived.Test.YtjmmecokfijglaaGreatDoorJ23
import Derived.Test.YtjmmecokfijglaaGreatDoorJ24
import Derived.Test.YtjmmecokfijglaaGreatDoorJ26
import Derived.Test.YtjmmecokfijglaaGreatDoorRows
import Derived.Test.YtjmmecokfijglaaGreatDoorJ01
import Derived.ChangeSame
import Derived.Test.YtjmmecokfijglaaGreatDoorJ18
import Derived.Deep.Slices
import Derived.WideKeyArgs
import Derived.SizedLaws
import Derived.Lib.SmallJoins
import Derived.OpenShut
namespace Go.Proofs.YtjmmecokfijglaaGreatDoor.attrsApply
open Go.ChangeShapes Go.WideShapes Go.ChangeAt Go.RowKit Go.Maps
open Go.Proofs.YtjmmecokfijglaaGreatDoor.attrsMerge (mMerge_mem mMerge_length)

theorem apRun_length (l : List Pr) : ∀ (m : Mb) (n : Int) (L : List Pr), (apRun l m n L).l.length ≤ l.length + L.length := by
  induction l with
  | nil => intro m n L; simp [apRun]
  | cons p r ih =>
    intro m n L
    unfold apRun
    split
    · split
      · have := ih (apK p.1 p.2 m n).m (apK p.1 p.2 m n).n L
        simp only [List.length_cons]
        omega
      · simp
    · have := ih m n (L ++ [p])
      simp only [List.length_append, List.length_cons, List.length_nil] at this ⊢
      omega

set_option maxRecDepth 100000 in
set_option maxHeartbeats 2000000 in
theorem walk (OK : World → Prop) (hstep : ∀ a b : World, OK a → Below a.heap.size a b → OK b)
    (haw : ∀ w : World, OK w → Calls Tryz.prog 9 #[] w fun e w' => Below w.heap.size w w' ∧ e = .returned (.bool true))
    (h : Hd) (g l : List Pr) (ag al : Option Addr) (cg cl : Nat) (w : World) (hg : PairsIn w (.slice ag g.length cg) g) (hl : PairsIn w (.slice al l.length cl) l) (hok : OK w) :
    Calls Tryz.prog 4 #[h.val, .slice ag g.length cg, .slice al l.length cl] w fun e w' => Below w.heap.size w w' ∧ e = .returned (.bool true) := by
  have Hg := Lib.hid hg
  have Hl := Lib.hid hl
  have Hok := Lib.hid hok
  have Haw := Lib.hid haw
  have Hstep := Lib.hid hstep
  have Hb0 := Lib.hid ((Below.refl w.heap.size w).alloc (Nat.le_refl _) (.cells h.cells.toArray 30))
  have Ho := Lib.hid (Holds.new w 30 h.cells)
  have Hhs := Lib.hid (head_size h)
  have Hlg := Lib.hid (fun w1 h => long_any g ag cg w1 h)
  have Hll := Lib.hid (fun w1 h => long_any l al cl w1 h)
  have Hfg := Lib.hid (fun h => tooLong_fits (l := g) h)
  have Hfl := Lib.hid (fun h => tooLong_fits (l := l) h)
  clear hg hl hok haw hstep
  generalize tooLong g = tg at *
  generalize tooLong l = tl at *
  cases tg with
  | true =>
    unfold Hd.val
    generalize h.cells = C at *
    go_enter Tryz.func4, Tryz.ntmps4
    go_wp2_with (fail)
    refine (Hlg.out _ (Hg.out.under (Hb0.out.mono (Nat.le_refl _)))).mono ?_
    rintro e w1 ⟨hb1, rfl⟩
    have Hb1 := Lib.hid (Hb0.out.trans (hb1.mono Hb0.out.size))
    clear hb1
    go_wp2_with (fail)
    refine (Haw.out _ (Hstep.out _ _ Hok.out Hb1.out)).mono ?_
    rintro e w2 ⟨hb2, rfl⟩
    have Hb2 := Lib.hid (Hb1.out.trans (hb2.mono Hb1.out.size))
    clear hb2
    go_wp2
    go_ret
    exact ⟨Hb2.out, rfl⟩
  | false =>
    cases tl with
    | true =>
      unfold Hd.val
      generalize h.cells = C at *
      go_enter Tryz.func4, Tryz.ntmps4
      go_wp2_with (fail)
      refine (Hlg.out _ (Hg.out.under (Hb0.out.mono (Nat.le_refl _)))).mono ?_
      rintro e w1 ⟨hb1, rfl⟩
      have Hb1 := Lib.hid (Hb0.out.trans (hb1.mono Hb0.out.size))
      clear hb1
      go_wp2_with (fail)
      refine (Hll.out _ (Hl.out.under Hb1.out)).mono ?_
      rintro e w2 ⟨hb2, rfl⟩
      have Hb2 := Lib.hid (Hb1.out.trans (hb2.mono Hb1.out.size))
      clear hb2
      go_wp2_with (fail)
      refine (Haw.out _ (Hstep.out _ _ Hok.out Hb2.out)).mono ?_
      rintro e w3 ⟨hb3, rfl⟩
      have Hb3 := Lib.hid (Hb2.out.trans (hb3.mono Hb2.out.size))
      clear hb3
      go_wp2
      go_ret
      exact ⟨Hb3.out, rfl⟩
    | false =>
      obtain ⟨hg1, hg2⟩ := Hfg.out rfl
      obtain ⟨hl1, hl2⟩ := Hfl.out rfl
      have Href := Lib.hid (fun w1 (h : Below w.heap.size w w1) => refMerge_any g l ag al cg cl w1 (Hg.out.under h) (Hl.out.under h) (by omega))
      have hml : (mMerge g l).length ≤ 24 := by have := mMerge_length g l; omega
      have Hfit := Lib.hid (show prFits 140737488355328 (mMerge g l) from fun p hp => by
        rcases mMerge_mem hp with h | h
        · have := hg2 p h; omega
        · have := hl2 p h; omega)
      have Hfit2 := Lib.hid (show prFits 2000 (mMerge g l) from fun p hp => by
        rcases mMerge_mem hp with h | h
        · have := hg2 p h; omega
        · have := hl2 p h; omega)
      have Hml := Lib.hid hml
      have HRl := Lib.hid (show (apRun (mMerge g l) (mOf h) h.size []).l.length ≤ 24 by have := apRun_length (mMerge g l) (mOf h) h.size []; simp at this; omega)
      have HA := Lib.hid (fun av cs w1 (hin : PairsIn w1 (.slice av (mMerge g l).length cs) (mMerge g l)) => apply_any h (mMerge g l) av cs w1 hin Hfit.out (by have := Hml.out; omega))
      have HB := Lib.hid (fun av cs w1 (hin : PairsIn w1 (.slice av (mMerge g l).length cs) (mMerge g l)) => refApply_any h (mMerge g l) av cs w1 hin Hfit2.out (by have := Hml.out; omega))
      clear hg1 hg2 hl1 hl2 hml Hfg Hfl Hfit Hfit2
      generalize apRun (mMerge g l) (mOf h) h.size [] = R at *
      generalize mMerge g l = M at *
      have K0 := Lib.hid (show h.cells[0]? = some (.string ⟨h.name.toArray⟩) from rfl)
      have K1 := Lib.hid (show h.cells[1]? = some (.string ⟨h.link.toArray⟩) from rfl)
      have K8 := Lib.hid (show h.cells[8]? = some (.string ⟨h.uname.toArray⟩) from rfl)
      have K9 := Lib.hid (show h.cells[9]? = some (.string ⟨h.gname.toArray⟩) from rfl)
      unfold Hd.val at *
      generalize h.cells = C at *
      go_enter Tryz.func4, Tryz.ntmps4
      go_wp2_with (fail)
      refine (Hlg.out _ (Hg.out.under (Hb0.out.mono (Nat.le_refl _)))).mono ?_
      rintro e w1 ⟨hb1, rfl⟩
      have Hb1 := Lib.hid (Hb0.out.trans (hb1.mono Hb0.out.size))
      have Ho1 := Lib.hid (Ho.out.under hb1 Ho.out.lt)
      clear hb1
      go_wp2_with (fail)
      refine (Hll.out _ (Hl.out.under Hb1.out)).mono ?_
      rintro e w2 ⟨hb2, rfl⟩
      have Hb2 := Lib.hid (Hb1.out.trans (hb2.mono Hb1.out.size))
      have Ho2 := Lib.hid (Ho1.out.under hb2 Ho1.out.lt)
      have k0 := Ho2.out.at K0.out
      have k1 := Ho2.out.at K1.out
      have k8 := Ho2.out.at K8.out
      have k9 := Ho2.out.at K9.out
      clear hb2 Ho Ho1 Hlg Hll Hb0 Hb1
      go_wp2_with (fail)
      · refine (Haw.out _ (Hstep.out _ _ Hok.out Hb2.out)).mono ?_
        rintro e w3 ⟨hb3, rfl⟩
        have Hb3 := Lib.hid (Hb2.out.trans (hb3.mono Hb2.out.size))
        clear hb3
        go_wp2
        go_ret
        exact ⟨Hb3.out, rfl⟩
      · refine (Href.out _ Hb2.out).mono ?_
        rintro e w3 ⟨hb3, v3, rfl, hown3⟩
        obtain ⟨av, cs, rfl⟩ := hown3.slice
        have Hin3 := Lib.hid hown3.pairs
        have Hb3 := Lib.hid (Hb2.out.trans (hb3.mono Hb2.out.size))
        have Ho3 := Lib.hid (Ho2.out.under hb3 Ho2.out.lt)
        clear hb3 hown3 Hb2 Ho2 k0 k1 k8 k9
        go_wp2_with (first
          | (refine wpList_load_row (by rfl) 30 _ (by rfl) w.heap.size (by rfl) _ _ _ _ Ho3.out Tryz.underlying30 rfl Hhs.out ?_)
          | fail)
        refine (HA.out av cs w3 Hin3.out).mono ?_
        rintro e w4 ⟨hb4, v4, rfl, hown4⟩
        obtain ⟨a4, c4, rfl⟩ := hown4.slice
        have Hin4 := Lib.hid hown4.pairs
        have Hb4 := Lib.hid (Hb3.out.trans (hb4.mono Hb3.out.size))
        have Ho4 := Lib.hid (Ho3.out.under hb4 Ho3.out.lt)
        have Hm4 := Lib.hid (Hin3.out.under hb4)
        have Hs4 := Lib.hid (mb_size (R.m.ex (.slice a4 R.l.length c4)))
        have Hone4 := Lib.hid (mb_one R.m (.slice a4 R.l.length c4) rfl)
        have Hzs := Lib.hid (show mZero.cells.toArray.size = (R.m.ex (.slice a4 R.l.length c4)).cells.toArray.size from rfl)
        have Hsame := Lib.hid (fun a6 c6 w1 h1 h2 => same7_any R.m R.l a4 a6 c4 c6 w1 h1 h2 (by have := HRl.out; omega))
        have Hs6 := Lib.hid (fun a6 c6 => mb_size (R.m.ex (.slice a6 R.l.length c6)))
        have Hone6 := Lib.hid (fun a6 c6 => mb_one R.m (.slice a6 R.l.length c6) rfl)
        have Hzs6 := Lib.hid (fun a6 c6 => show mZero.cells.toArray.size = (R.m.ex (.slice a6 R.l.length c6)).cells.toArray.size from rfl)
        have hz := (zero_of_info infoMb).1
        have Hst4 := Lib.hid (Holds.new w4 34 mZero.cells)
        unfold Mb.val at *
        generalize hE4 : (R.m.ex (.slice a4 R.l.length c4)).cells = E4 at *
        generalize mZero.cells = Z at *
        clear hb4 hown4 Hb3 Ho3 Hin3 HA hE4
        go_upto_region 5 with (first
          | (refine wpList_store_row (by rfl) 34 _ _ (by rfl) w4.heap.size E4.toArray (by rfl) (by rfl) _ _ Hst4.out Hs4.out (by exact Hzs.out) Hone4.out ?_; rw [World.setRow_alloc_new])
          | fail)
        have He5 := Lib.hid (Holds.new w4 34 E4)
        have Hb5 := Lib.hid (Hb4.out.alloc Hb4.out.size (.cells E4.toArray 34))
        have Ho5 := Lib.hid (Ho4.out.behind (.cells E4.toArray 34))
        have hba : Below w4.heap.size w4 (w4.alloc (.cells E4.toArray 34)) := (Below.refl _ _).alloc (Nat.le_refl _) _
        have Hin5 := Lib.hid (Hin4.out.under hba)
        have Hm5 := Lib.hid (Hm4.out.under hba)
        clear hba Hst4 Hb4 Ho4 Hin4 Hm4
        generalize w4.alloc (.cells E4.toArray 34) = w5 at *
        generalize w4.heap.size = b4 at *
        go_wp2_with (first
          | (refine wpList_load_row (by rfl) 30 _ (by rfl) w.heap.size (by rfl) _ _ _ _ Ho5.out Tryz.underlying30 rfl Hhs.out ?_)
          | fail)
        refine (HB.out av cs w5 Hm5.out).mono ?_
        rintro e w6 ⟨hb6, v6, rfl, hown6⟩
        obtain ⟨a6, c6, rfl⟩ := hown6.slice
        have Hin6 := Lib.hid hown6.pairs
        have Hi46 := Lib.hid (Hin5.out.under hb6)
        have Hb6 := Lib.hid (Hb5.out.trans (hb6.mono Hb5.out.size))
        have He6 := Lib.hid (He5.out.under hb6 He5.out.lt)
        have Hs6 := Lib.hid (Hs6.out a6 c6)
        have Hone6 := Lib.hid (Hone6.out a6 c6)
        have Hzs6 := Lib.hid (Hzs6.out a6 c6)
        have Hsame := Lib.hid (Hsame.out a6 c6)
        have Hst6 := Lib.hid (Holds.new w6 34 Z)
        unfold Mb.val at *
        generalize hE6 : (R.m.ex (.slice a6 R.l.length c6)).cells = E6 at *
        clear hb6 hown6 Hb5 Ho5 Hin5 Hm5 He5 HB hE6
        go_upto_region 6 with (first
          | (refine wpList_store_row (by rfl) 34 _ _ (by rfl) w6.heap.size E6.toArray (by rfl) (by rfl) _ _ Hst6.out Hs6.out (by exact Hzs6.out) Hone6.out ?_; rw [World.setRow_alloc_new])
          | fail)
        have Hf7 := Lib.hid (Holds.new w6 34 E6)
        have Hb7 := Lib.hid (Hb6.out.alloc Hb6.out.size (.cells E6.toArray 34))
        have He7 := Lib.hid (He6.out.behind (.cells E6.toArray 34))
        have hba : Below w6.heap.size w6 (w6.alloc (.cells E6.toArray 34)) := (Below.refl _ _).alloc (Nat.le_refl _) _
        have H1 := Lib.hid (Hi46.out.under hba)
        have H2 := Lib.hid (Hin6.out.under hba)
        clear hba Hst6 Hb6 He6 Hi46 Hin6
        generalize w6.alloc (.cells E6.toArray 34) = w7 at *
        generalize w6.heap.size = b6 at *
        go_wp2_with (first
          | (refine wpList_load_row (by rfl) 34 _ (by rfl) b4 (by rfl) _ _ _ _ He7.out Tryz.underlying34 rfl Hs4.out ?_)
          | (refine wpList_load_row (by rfl) 34 _ (by rfl) b6 (by rfl) _ _ _ _ Hf7.out Tryz.underlying34 rfl Hs6.out ?_)
          | fail)
        refine (Hsame.out w7 H1.out H2.out).mono ?_
        rintro e w8 ⟨hb8, rfl⟩
        have Hb8 := Lib.hid (Hb7.out.trans (hb8.mono Hb7.out.size))
        clear hb8 Hb7 He7 Hf7 H1 H2
        go_wp2_with (fail)
        refine (Haw.out _ (Hstep.out _ _ Hok.out Hb8.out)).mono ?_
        rintro e w9 ⟨hb9, rfl⟩
        have Hb9 := Lib.hid (Hb8.out.trans (hb9.mono Hb8.out.size))
        clear hb9
        go_wp2
        go_ret
        exact ⟨Hb9.out, rfl⟩
end Go.Proofs.YtjmmecokfijglaaGreatDoor.attrsApply
namespace Go.Proofs.YtjmmecokfijglaaGreatDoor
open Go.ChangeShapes Go.WideShapes Go.ChangeAt Go.RowKit

theorem ownLaw : ownKnob Tryz.prog.godebug = none := by kernel_rfl

section
variable {H : Type} {enc : TypeId × Value → H}
/-- A call that answers true, of which the old blocks are known to stand: no variable is named, nothing is handed back but the bool. -/
theorem law_post {P : Program} {f : Func} {s : ChangeSpec} {apart fresh handsOn again : Bool} {W W' : World} {args : Array Value} {v : Value} {ds gs : List (DataW H)} {before pa : List MemPlace}
    (hW : DataW.Whole enc P f.params.toList s.vars apart W args.toList ds gs before) (hb : Below W.heap.size W W')
    (hres : ∀ (b : Nat) (sp : Nat → Bool) (hd : Bool), DataW.TrodAll enc P W' b sp hd f.resultTypes.toList (v.resultList f.resultTypes.size) (s.fn H (ds ++ gs)).results [])
    (hargs : ∀ sp : Nat → Bool, (∀ p ∈ before, sp p.block = true) → DataW.TrodAll enc P W' 0 sp true f.params.toList args.toList (s.fn H (ds ++ gs)).args pa)
    (hvars : ∀ sp : Nat → Bool, (∀ p ∈ before, sp p.block = true) → DataW.TrodVars enc P W' sp s.vars (s.fn H (ds ++ gs)).vars []) (hps : before = pa)
    (hok : ∀ (j : Nat) (t : TypeId) (r : Value), f.resultTypes[j]? = some t → (v.resultList f.resultTypes.size)[j]? = some r → Value.okWide P W' .any 0 t r) :
    s.post enc P f apart fresh handsOn again W args v W' := by
  subst hps
  have old : ∀ p ∈ before, p.block < W.heap.size := fun p hp => hW.lt p hp
  have sees : ∀ p ∈ before, (fun k => decide (k < W.heap.size)) p.block = true := fun p hp => decide_eq_true (old p hp)
  refine ⟨ds, gs, before, [], before, [], hW, hres _ _ _, hargs _ sees, hvars _ sees, ?_, ?_⟩
  · exact World.keptBut_mono (fun p hp => ⟨hp, .inr (.inl hp)⟩) (hb.frame (· ∈ before))
  · intro _
    obtain ⟨_, _, _, _, _, hz, hn⟩ := hW
    refine ⟨hok, _, _, [] ++ before, ⟨[] ++ before, [], trodAll_append (hargs (fun _ => true) fun _ _ => rfl) (hres _ _ _), hvars _ fun _ _ => rfl, by simp, ?_, ?_⟩, ?_⟩
    · intro b off hp
      rw [hb.frozen (old _ hp)]
      exact hz b off hp
    · intro ha
      simpa using hn ha
    · intro p hp _
      exact hp
end
end Go.Proofs.YtjmmecokfijglaaGreatDoor
namespace Go.Proofs.YtjmmecokfijglaaGreatDoor
open Go.ChangeShapes Go.WideShapes Go.ChangeAt Go.RowKit Go.Joins Go.Deep Go.WideElems

section
variable {H : Type} {enc : TypeId × Value → H} {w : World} {base : Nat} {spare : Nat → Bool} {held : Bool}
theorem weightsAll_mem {P : Program} {e : TypeId} {l : List (DataW H)} {d : DataW H} (hd : d ∈ l) {n : Nat} (hn : n ∈ d.weights P e) : n ∈ DataW.weightsAll P e l := by
  induction l with
  | nil => cases hd
  | cons x l ih =>
    simp only [DataW.weightsAll, List.mem_append]
    rcases List.mem_cons.1 hd with rfl | h
    · exact .inl hn
    · exact .inr (ih h)
theorem pair_bytes : Tryz.prog.bytesOf 27 = 32 := by kernel_rfl
set_option maxRecDepth 100000 in
theorem open_pair {n : Nat} {cs : List Value} {x : DataW H × List MemPlace} (h : DataW.trod enc Tryz.prog w base spare held n 27 cs = some x) (hl : cs.length = 2) :
    ∃ k v : List UInt8, cs = [.string ⟨k.toArray⟩, .string ⟨v.toArray⟩] ∧ x.1 = .agg [.lit (.string k), .lit (.string v)] := by
  have hs := Tryz.underlying27
  obtain ⟨xs, m, _, hx, _, hlen, hg⟩ := DataW.trod_struct hs h
  match cs, hl with
  | [c0, c1], _ =>
    match xs, hlen with
    | [y0, y1], _ =>
      have cS : Tryz.prog.cellsOf 9 = 1 := by kernel_rfl
      have g0 : DataW.trod enc Tryz.prog w base spare held m 9 [c0] = some y0 := by simpa [cS] using hg 0 _ rfl
      have g1 : DataW.trod enc Tryz.prog w base spare held m 9 [c1] = some y1 := by simpa [cS] using hg 1 _ rfl
      obtain ⟨s, e0, rfl, w0⟩ := DataW.trod_string Tryz.underlying9 g0
      obtain ⟨t, e1, rfl, w1⟩ := DataW.trod_string Tryz.underlying9 g1
      obtain ⟨k, rfl⟩ := str_of s
      obtain ⟨v, rfl⟩ := str_of t
      simp only [List.cons.injEq, and_true] at e0 e1
      subst e0 e1
      exact ⟨k, v, rfl, by rw [hx]; simp⟩

theorem pair_weights (k v : List UInt8) : k.length ∈ (DataW.agg (H := H) [.lit (.string k), .lit (.string v)]).weights Tryz.prog 27 ∧ v.length ∈ (DataW.agg (H := H) [.lit (.string k), .lit (.string v)]).weights Tryz.prog 27 := by
  unfold DataW.weights
  rw [Tryz.underlying27]
  simp [DataW.weightsEach, DataW.weights]

/-- Each text of these records is no longer than any that a machine holds. -/
def PairsReach (l : List Pr) : Prop := ∀ p ∈ l, p.1.length ≤ reachBytes ∧ p.2.length ≤ reachBytes

set_option maxRecDepth 100000 in
theorem open_pairs {r : Reach} {b0 : Nat} {v : Value} {d : DataW H} {p : List MemPlace} (hv : Value.okWide Tryz.prog w r b0 22 v) (h : DataW.Trod enc Tryz.prog w 0 (fun _ => true) true 22 v d p)
    (hz : ∀ n ∈ d.weights Tryz.prog 22, n ≤ reachBytes) :
    ∃ (l : List Pr) (ad : Option Addr) (cap : Nat), v = .slice ad l.length cap ∧ PairsIn w (.slice ad l.length cap) l ∧ PairsReach l ∧ l.length ≤ reachBytes := by
  obtain ⟨ad, n, cap0, rfl⟩ := okWide_slice Tryz.underlying22 hv
  obtain ⟨fuel, hf⟩ := h
  have hC : Tryz.prog.cellsOf 27 = 2 := by kernel_rfl
  have empty : n = 0 → ∃ (l : List Pr) (ad2 : Option Addr) (cap : Nat), Value.slice ad n cap0 = .slice ad2 l.length cap ∧ PairsIn w (.slice ad2 l.length cap) l ∧ PairsReach l ∧ l.length ≤ reachBytes := by
    intro h0
    subst h0
    exact ⟨[], ad, cap0, rfl, ⟨ad, cap0, rfl, .inl rfl⟩, (fun _ h => nomatch h), Nat.zero_le _⟩
  rcases open_slice Tryz.underlying22 hf with ⟨hn, -⟩ | ⟨a, len, cap, m, k, D, Pl, hcs, hb, hl, hm, hmm, hx, hi⟩
  · injection hn with hn _
    injection hn with h1 h2 h3
    exact empty h2
  · injection hcs with hcs _
    injection hcs with h1 h2 h3
    subst h1 h2 h3
    by_cases hn0 : n = 0
    · exact empty hn0
    · have hm' : m = cap0 := hmm
      have hd : d = (.slice ((List.range n).map D) ((List.range (m - n)).map fun j => D (n + j))) := congrArg Prod.fst hx
      have hall : ∀ i, ∃ y : Pr, i < n → w.cell? (a.add (i * 2)) = some (.string ⟨y.1.toArray⟩) ∧ w.cell? (a.add (i * 2 + 1)) = some (.string ⟨y.2.toArray⟩) ∧ D i = .agg [.lit (.string y.1), .lit (.string y.2)] := by
        intro i
        by_cases hin : i < n
        · obtain ⟨cs', hc, ht⟩ := hi i (by omega)
          rw [hC] at hc
          obtain ⟨_, hcl, hat⟩ := World.cells?_some hc
          obtain ⟨x, s, rfl, hD⟩ := open_pair ht hcl
          refine ⟨(x, s), fun _ => ⟨?_, ?_, hD⟩⟩
          · have := hat 0 (by omega)
            rw [add_add, Nat.add_zero] at this
            rw [this]; rfl
          · have := hat 1 (by omega)
            rw [add_add] at this
            rw [this]; rfl
        · exact ⟨([], []), fun h => absurd h hin⟩
      obtain ⟨f, hf2⟩ := Classical.axiomOfChoice hall
      have h00 := (hf2 0 (by omega)).1
      have hspot := World.cell?_spot h00
      obtain ⟨ab, ao, asp⟩ := a
      have hasp : asp = none := by simpa [Addr.add] using hspot
      subst hasp
      have add_at : ∀ j, (⟨ab, ao, none⟩ : Addr).add j = ⟨ab, ao + j, none⟩ := by intro j; unfold Addr.add; split <;> simp_all
      have hlen : ((List.range n).map f).length = n := by simp
      have hget : ∀ i (hi : i < ((List.range n).map f).length), ((List.range n).map f)[i] = f i := by intro i hi; simp
      have hw : ∀ q ∈ DataW.weights Tryz.prog 22 d, q ≤ reachBytes := hz
      rw [hd] at hw
      unfold DataW.weights at hw
      rw [Tryz.underlying22] at hw
      simp only [List.mem_cons, List.mem_append, List.length_map, List.length_range] at hw
      refine ⟨(List.range n).map f, some ⟨ab, ao, none⟩, cap0, by rw [hlen], ⟨_, cap0, rfl, .inr ⟨ab, ao, rfl, ?_, ?_⟩⟩, ?_, ?_⟩
      · have : (⟨ab, ao, none⟩ : Addr).block < w.heap.size := by
          rcases Nat.lt_or_ge ab w.heap.size with hl2 | hl2
          · exact hl2
          · exfalso
            rw [add_at] at h00
            unfold World.cell? at h00
            rw [Array.getElem?_eq_none hl2] at h00
            cases h00
        exact this
      · intro i hi
        rw [hget i hi]
        have := hf2 i (by rw [hlen] at hi; exact hi)
        rw [add_at, add_at] at this
        exact ⟨this.1, this.2.1⟩
      · intro p hp
        obtain ⟨i, hi, rfl⟩ := List.mem_map.1 hp
        have hin := List.mem_range.1 hi
        have hDi := (hf2 i hin).2.2
        obtain ⟨q1, q2⟩ := pair_weights (H := H) (f i).1 (f i).2
        rw [← hDi] at q1 q2
        have hmem : D i ∈ (List.range n).map D := List.mem_map.2 ⟨i, hi, rfl⟩
        exact ⟨hw _ (.inr (.inl (weightsAll_mem hmem q1))), hw _ (.inr (.inl (weightsAll_mem hmem q2)))⟩
      · have := hw _ (.inl rfl)
        rw [pair_bytes] at this
        rw [hlen]
        omega
end
end Go.Proofs.YtjmmecokfijglaaGreatDoor
