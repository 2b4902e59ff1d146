/-
  Texts of this seat's proof, joined: their order is that of the build.
-/
import Derived.Test.YtjmmecokfijglaaGreatDoorJB15
import Derived.Deep.QuietTactic
import Derived.BigQuiet
import Derived.Test.YtjmmecokfijglaaGreatDoorJB25
import Derived.Test.YtjmmecokfijglaaGreatDoorJB30
import Derived.Laws.StructEq
import Derived.Deep.Slices
import Derived.WideKeyArgs
import Derived.SizedLaws
import Derived.Lib.SmallJoins
import Derived.OpenShut
import Derived.Test.YtjmmecokfijglaaGreatDoorRows
import Derived.Test.YtjmmecokfijglaaGreatDoorJB03
import Derived.Test.YtjmmecokfijglaaGreatDoorJB05
import Derived.Deep.Modes
import Derived.ChangeSame
import Derived.ChangeArms
namespace Go.Proofs.YtjmmecokfijglaaGreatDoor
open Go.ChangeShapes Go.WideShapes Go.ChangeAt Go.RowKit

theorem same_any (x y : List Pr) (b o c : Nat) (b2 o2 c2 : Nat) (w : World) (hx : PairsAt w b o x) (hy : PairsAt w b2 o2 y) (hlx : x.length ≤ 140737488355328) (hly : y.length ≤ 140737488355328) :
    Calls Tryz.prog 11 #[.slice (some ⟨b, o, none⟩) x.length c, .slice (some ⟨b2, o2, none⟩) y.length c2] w fun e w' => e = .returned (.bool (decide (x = y))) ∧ ∃ m, w' = w.drewN m := by
  go_enter Tryz.func11, Tryz.ntmps11
  go_wp2
  · have hne : (x.length : Int) ≠ y.length := by have h : ((x.length : Int) != y.length) = true := (by assumption); simpa using h
    have Hq := Lib.hid (show decide (x = y) = false from decide_eq_false (fun e => hne (by rw [e])))
    go_ret
    rw [Hq.out]
    exact ⟨rfl, 0, rfl⟩
  · have hll : (x.length : Int) = y.length := by have h : ((x.length : Int) != y.length) = false := (by assumption); simpa using h
    have Hll := Lib.hid (show x.length = y.length by omega)
    go_loopw [5] (fun i wr => ∃ k m : Nat, i = .int .i64 k ∧ k ≤ x.length ∧ x.take k = y.take k ∧ wr = w.drewN m) (fun i _ => x.length - (intOf i).toNat)
    case atStart => exact ⟨0, 0, rfl, Nat.zero_le _, rfl, rfl⟩
    case round =>
      obtain ⟨k, m, rfl, hk, hs, rfl⟩ := hrel
      have Hs := Lib.hid hs
      clear hs
      by_cases hlt : k < x.length
      · have hly2 : k < y.length := by omega
        obtain ⟨c1, c2⟩ := (show PairsAt (w.drewN m) b o x from hx) k hlt
        obtain ⟨d1, d2⟩ := (show PairsAt (w.drewN m) b2 o2 y from hy) k hly2
        have Hdr := Lib.hid (fun j => show (w.drewN m).drewN j = w.drewN (m + j) from drewN_add w m j)
        generalize w.drewN m = wd at *
        have Heq := Lib.hid (show x[k] = y[k] → x.take (k + 1) = y.take (k + 1) from fun e => by rw [List.take_succ_eq_append_getElem hlt, List.take_succ_eq_append_getElem hly2, Hs.out, e])
        have Hne := Lib.hid (show x[k] ≠ y[k] → decide (x = y) = false from fun e => decide_eq_false (fun h => e (by subst h; rfl)))
        generalize hD : decide (x = y) = D at *
        have HD := Lib.hid hD
        clear hD
        have hlt1 : (k : Int) < x.length := by omega
        have hlt2 : (k : Int) < y.length := by omega
        generalize x[k] = p at *
        generalize y[k] = q at *
        obtain ⟨p1, p2⟩ := p
        obtain ⟨q1, q2⟩ := q
        by_cases hpq : ((p1, p2) : Pr) = (q1, q2)
        · have Hq := Lib.hid (Heq.out hpq)
          have hneq := fun W => pair_neq (p1, p2) (q1, q2) W
          rw [decide_eq_true hpq] at hneq
          simp only at hneq c1 c2 d1 d2
          clear hpq Heq Hne
          go_wp2
          go_quiet (fail)
          go_wp2
          go_roundw
          case rel => exact ⟨k + 1, m + nq, by go_num, by omega, Hq.out, Hdr.out nq⟩
          case measure => simp [intOf]; omega
        · have Hq := Lib.hid (Hne.out hpq)
          have hneq := fun W => pair_neq (p1, p2) (q1, q2) W
          rw [decide_eq_false hpq] at hneq
          simp only at hneq c1 c2 d1 d2
          clear hpq Heq Hne
          go_wp2
          go_quiet (fail)
          go_wp2
          go_ret
          rw [HD.out, Hq.out]
          exact ⟨rfl, m + nq, Hdr.out nq⟩
      · have hkn : k = x.length := by omega
        subst hkn
        have Hq := Lib.hid (show decide (x = y) = true from decide_eq_true (by
          have := Hs.out
          rwa [List.take_length, Hll.out, List.take_length] at this))
        go_wp2
        go_ret
        rw [Hq.out]
        exact ⟨rfl, m, rfl⟩


theorem same_nil (ad ad2 : Option Addr) (c c2 : Nat) (w : World) :
    Calls Tryz.prog 11 #[.slice ad 0 c, .slice ad2 0 c2] w fun e w' => e = .returned (.bool true) ∧ ∃ m, w' = w.drewN m := by
  go_enter Tryz.func11, Tryz.ntmps11
  go_wp2
  go_loop [5] (fun i => i = .int .i64 0) (fun _ => 0)
  case atStart => exact rfl
  case round =>
    obtain rfl := hrel
    go_wp2
    go_ret
    exact ⟨rfl, 0, rfl⟩
theorem same_len (ad ad2 : Option Addr) (n n2 c c2 : Nat) (w : World) (hn : n ≠ n2) :
    Calls Tryz.prog 11 #[.slice ad n c, .slice ad2 n2 c2] w fun e w' => e = .returned (.bool false) ∧ ∃ m, w' = w.drewN m := by
  have hne : ((n : Int) != n2) = true := by
    rw [bne_iff_ne]; omega
  go_enter Tryz.func11, Tryz.ntmps11
  go_wp2
  go_ret
  exact ⟨rfl, 0, rfl⟩
theorem sameIn_any (x y : List Pr) (v u : Value) (w : World) (hx : PairsIn w v x) (hy : PairsIn w u y) (hlx : x.length ≤ 140737488355328) (hly : y.length ≤ 140737488355328) :
    Calls Tryz.prog 11 #[v, u] w fun e w' => e = .returned (.bool (decide (x = y))) ∧ ∃ m, w' = w.drewN m := by
  obtain ⟨ad, c, rfl, h⟩ := hx
  obtain ⟨ad2, c2, rfl, h2⟩ := hy
  by_cases hl : x.length = y.length
  · by_cases hn : x = []
    · have hn2 : y = [] := by subst hn; exact List.length_eq_zero_iff.1 hl.symm
      subst hn hn2
      rw [decide_eq_true rfl]
      exact same_nil ad ad2 c c2 w
    · have hn2 : y ≠ [] := fun e => hn (by subst e; exact List.length_eq_zero_iff.1 hl)
      rcases h with h | ⟨b, o, rfl, hb, hp⟩
      · exact absurd h hn
      · rcases h2 with h2 | ⟨b2, o2, rfl, hb2, hp2⟩
        · exact absurd h2 hn2
        · exact same_any x y b o c b2 o2 c2 w hp hp2 hlx hly
  · rw [decide_eq_false (fun e => hl (by rw [e]))]
    exact same_len ad ad2 _ _ c c2 w hl
end Go.Proofs.YtjmmecokfijglaaGreatDoor
namespace Go.Proofs.YtjmmecokfijglaaGreatDoor
open Go.ChangeShapes Go.WideShapes Go.ChangeAt Go.RowKit Go.Maps

set_option maxRecDepth 100000 in
theorem stamp_eq (s n : Int) (W : World) : (binOp .eql 32 (.agg #[.int .i64 s, .int .i64 n]) (.agg #[.int .i64 s, .int .i64 n])).run Tryz.prog W = .ok (.bool true) W := by
  rw [run_eql_struct]
  rw [show (10000 : Nat) = 9999 + 1 from rfl, run_equalIn_agg (P := Tryz.prog) W 9999 32 _ _ (by kernel_rfl) (by kernel_rfl)]
  unfold Program.fieldsOf
  rw [Tryz.underlying32]
  simp [Op.eqFields, go_sem]

set_option maxRecDepth 100000 in
set_option maxHeartbeats 2000000 in
theorem same7_any (m : Mb) (L : List Pr) (av av2 : Option Addr) (cs cs2 : Nat) (w : World) (h1 : PairsIn w (.slice av L.length cs) L) (h2 : PairsIn w (.slice av2 L.length cs2) L) (hL : L.length ≤ 140737488355328) :
    Calls Tryz.prog 15 #[(m.ex (.slice av L.length cs)).val, (m.ex (.slice av2 L.length cs2)).val] w fun e w' => Below w.heap.size w w' ∧ e = .returned (.bool true) := by
  obtain ⟨xnm, xlk, xkd, xmd, xui, xgi, xun, xgn, xmj, xmi, xse, xns, xex, xda⟩ := m
  have Ho1 := Lib.hid (show Holds ((w.alloc (.cells ((Mb.mk xnm xlk xkd xmd xui xgi xun xgn xmj xmi xse xns xex xda).ex (.slice av L.length cs)).cells.toArray 34)).alloc (.cells ((Mb.mk xnm xlk xkd xmd xui xgi xun xgn xmj xmi xse xns xex xda).ex (.slice av2 L.length cs2)).cells.toArray 34)) w.heap.size 34 ((Mb.mk xnm xlk xkd xmd xui xgi xun xgn xmj xmi xse xns xex xda).ex (.slice av L.length cs)).cells from (Holds.new w _ _).behind _)
  have Ho2 := Lib.hid (show Holds ((w.alloc (.cells ((Mb.mk xnm xlk xkd xmd xui xgi xun xgn xmj xmi xse xns xex xda).ex (.slice av L.length cs)).cells.toArray 34)).alloc (.cells ((Mb.mk xnm xlk xkd xmd xui xgi xun xgn xmj xmi xse xns xex xda).ex (.slice av2 L.length cs2)).cells.toArray 34)) (w.heap.size + 1) 34 ((Mb.mk xnm xlk xkd xmd xui xgi xun xgn xmj xmi xse xns xex xda).ex (.slice av2 L.length cs2)).cells from by
    have := Holds.new (w.alloc (.cells ((Mb.mk xnm xlk xkd xmd xui xgi xun xgn xmj xmi xse xns xex xda).ex (.slice av L.length cs)).cells.toArray 34)) 34 ((Mb.mk xnm xlk xkd xmd xui xgi xun xgn xmj xmi xse xns xex xda).ex (.slice av2 L.length cs2)).cells
    rwa [World.size_alloc] at this)
  have Hb := Lib.hid (((Below.refl w.heap.size w).alloc (Nat.le_refl _) (.cells ((Mb.mk xnm xlk xkd xmd xui xgi xun xgn xmj xmi xse xns xex xda).ex (.slice av L.length cs)).cells.toArray 34)).alloc (by simp) (.cells ((Mb.mk xnm xlk xkd xmd xui xgi xun xgn xmj xmi xse xns xex xda).ex (.slice av2 L.length cs2)).cells.toArray 34))
  have Hbig := Lib.hid (show ∀ W : World, Below w.heap.size w W → Calls Tryz.prog 11 #[.slice av L.length cs, .slice av2 L.length cs2] W fun e w' => e = .returned (.bool true) ∧ ∃ k, w' = W.drewN k from fun W hb => by
    have h := sameIn_any L L _ _ W (h1.under hb) (h2.under hb) hL hL
    rw [decide_eq_true rfl] at h
    exact h)
  have hst := fun W => stamp_eq xse xns W
  clear h1 h2
  have q1_0 := Ho1.out.at (i := 0) (v := .string ⟨xnm.toArray⟩) rfl
  have q1_1 := Ho1.out.at (i := 1) (v := .string ⟨xlk.toArray⟩) rfl
  have q1_2 := Ho1.out.at (i := 2) (v := .int .u8 xkd) rfl
  have q1_3 := Ho1.out.at (i := 3) (v := .int .i64 xmd) rfl
  have q1_4 := Ho1.out.at (i := 4) (v := .int .i64 xui) rfl
  have q1_5 := Ho1.out.at (i := 5) (v := .int .i64 xgi) rfl
  have q1_6 := Ho1.out.at (i := 6) (v := .string ⟨xun.toArray⟩) rfl
  have q1_7 := Ho1.out.at (i := 7) (v := .string ⟨xgn.toArray⟩) rfl
  have q1_8 := Ho1.out.at (i := 8) (v := .int .i64 xmj) rfl
  have q1_9 := Ho1.out.at (i := 9) (v := .int .i64 xmi) rfl
  have q1_10 := Ho1.out.at (i := 10) (v := .int .i64 xse) rfl
  have q1_11 := Ho1.out.at (i := 11) (v := .int .i64 xns) rfl
  have q1_12 := Ho1.out.at (i := 12) (v := .slice av L.length cs) rfl
  have q1_13 := Ho1.out.at (i := 13) (v := .string ⟨xda.toArray⟩) rfl
  have q2_0 := Ho2.out.at (i := 0) (v := .string ⟨xnm.toArray⟩) rfl
  have q2_1 := Ho2.out.at (i := 1) (v := .string ⟨xlk.toArray⟩) rfl
  have q2_2 := Ho2.out.at (i := 2) (v := .int .u8 xkd) rfl
  have q2_3 := Ho2.out.at (i := 3) (v := .int .i64 xmd) rfl
  have q2_4 := Ho2.out.at (i := 4) (v := .int .i64 xui) rfl
  have q2_5 := Ho2.out.at (i := 5) (v := .int .i64 xgi) rfl
  have q2_6 := Ho2.out.at (i := 6) (v := .string ⟨xun.toArray⟩) rfl
  have q2_7 := Ho2.out.at (i := 7) (v := .string ⟨xgn.toArray⟩) rfl
  have q2_8 := Ho2.out.at (i := 8) (v := .int .i64 xmj) rfl
  have q2_9 := Ho2.out.at (i := 9) (v := .int .i64 xmi) rfl
  have q2_10 := Ho2.out.at (i := 10) (v := .int .i64 xse) rfl
  have q2_11 := Ho2.out.at (i := 11) (v := .int .i64 xns) rfl
  have q2_12 := Ho2.out.at (i := 12) (v := .slice av2 L.length cs2) rfl
  have q2_13 := Ho2.out.at (i := 13) (v := .string ⟨xda.toArray⟩) rfl
  have Q13 := Lib.hid (show ((Mb.mk xnm xlk xkd xmd xui xgi xun xgn xmj xmi xse xns xex xda).ex (.slice av L.length cs)).cells[13]? = some (.string ⟨xda.toArray⟩) from rfl)
  have P13 := Lib.hid (show ((Mb.mk xnm xlk xkd xmd xui xgi xun xgn xmj xmi xse xns xex xda).ex (.slice av2 L.length cs2)).cells[13]? = some (.string ⟨xda.toArray⟩) from rfl)
  unfold Mb.val
  generalize hC1 : ((Mb.mk xnm xlk xkd xmd xui xgi xun xgn xmj xmi xse xns xex xda).ex (.slice av L.length cs)).cells = C1 at *
  generalize hC2 : ((Mb.mk xnm xlk xkd xmd xui xgi xun xgn xmj xmi xse xns xex xda).ex (.slice av2 L.length cs2)).cells = C2 at *
  clear hC1 hC2
  go_enter Tryz.func15, Tryz.ntmps15
  go_wp2_with (fail)
  refine (Hbig.out _ Hb.out).mono ?_
  rintro e w2 ⟨rfl, j, rfl⟩
  have Hb3 := Lib.hid (below_drewN Hb.out j)
  have r1 := (Ho1.out.drewN j).at (i := 13) (v := .string ⟨xda.toArray⟩) Q13.out
  have r2 := (Ho2.out.drewN j).at (i := 13) (v := .string ⟨xda.toArray⟩) P13.out
  clear q1_0 q1_1 q1_2 q1_3 q1_4 q1_5 q1_6 q1_7 q1_8 q1_9 q1_10 q1_11 q1_12 q1_13 q2_0 q2_1 q2_2 q2_3 q2_4 q2_5 q2_6 q2_7 q2_8 q2_9 q2_10 q2_11 q2_12 q2_13 Ho1 Ho2 Hb
  generalize ((w.alloc (.cells C1.toArray 34)).alloc (.cells C2.toArray 34)).drewN j = w3 at *
  go_wp2
  go_ret
  exact ⟨Hb3.out, rfl⟩
end Go.Proofs.YtjmmecokfijglaaGreatDoor
namespace Go.Proofs.YtjmmecokfijglaaGreatDoor
open Go.ChangeShapes Go.WideShapes Go.ChangeAt Go.RowKit Go.Joins Go.Deep Go.WideElems

section
variable {H : Type} {enc : TypeId × Value → H} {w : World} {base : Nat} {spare : Nat → Bool} {held : Bool}
theorem weightsAll_mem {P : Program} {e : TypeId} {l : List (DataW H)} {d : DataW H} (hd : d ∈ l) {n : Nat} (hn : n ∈ d.weights P e) : n ∈ DataW.weightsAll P e l := by
  induction l with
  | nil => cases hd
  | cons x l ih =>
    simp only [DataW.weightsAll, List.mem_append]
    rcases List.mem_cons.1 hd with rfl | h
    · exact .inl hn
    · exact .inr (ih h)
theorem pair_bytes : Tryz.prog.bytesOf 27 = 32 := by kernel_rfl
set_option maxRecDepth 100000 in
theorem open_pair {n : Nat} {cs : List Value} {x : DataW H × List MemPlace} (h : DataW.trod enc Tryz.prog w base spare held n 27 cs = some x) (hl : cs.length = 2) :
    ∃ k v : List UInt8, cs = [.string ⟨k.toArray⟩, .string ⟨v.toArray⟩] ∧ x.1 = .agg [.lit (.string k), .lit (.string v)] := by
  have hs := Tryz.underlying27
  obtain ⟨xs, m, _, hx, _, hlen, hg⟩ := DataW.trod_struct hs h
  match cs, hl with
  | [c0, c1], _ =>
    match xs, hlen with
    | [y0, y1], _ =>
      have cS : Tryz.prog.cellsOf 9 = 1 := by kernel_rfl
      have g0 : DataW.trod enc Tryz.prog w base spare held m 9 [c0] = some y0 := by simpa [cS] using hg 0 _ rfl
      have g1 : DataW.trod enc Tryz.prog w base spare held m 9 [c1] = some y1 := by simpa [cS] using hg 1 _ rfl
      obtain ⟨s, e0, rfl, w0⟩ := DataW.trod_string Tryz.underlying9 g0
      obtain ⟨t, e1, rfl, w1⟩ := DataW.trod_string Tryz.underlying9 g1
      obtain ⟨k, rfl⟩ := str_of s
      obtain ⟨v, rfl⟩ := str_of t
      simp only [List.cons.injEq, and_true] at e0 e1
      subst e0 e1
      exact ⟨k, v, rfl, by rw [hx]; simp⟩

theorem pair_weights (k v : List UInt8) : k.length ∈ (DataW.agg (H := H) [.lit (.string k), .lit (.string v)]).weights Tryz.prog 27 ∧ v.length ∈ (DataW.agg (H := H) [.lit (.string k), .lit (.string v)]).weights Tryz.prog 27 := by
  unfold DataW.weights
  rw [Tryz.underlying27]
  simp [DataW.weightsEach, DataW.weights]

/-- Each text of these records is no longer than any that a machine holds. -/
def PairsReach (l : List Pr) : Prop := ∀ p ∈ l, p.1.length ≤ reachBytes ∧ p.2.length ≤ reachBytes

set_option maxRecDepth 100000 in
theorem open_pairs {r : Reach} {b0 : Nat} {v : Value} {d : DataW H} {p : List MemPlace} (hv : Value.okWide Tryz.prog w r b0 22 v) (h : DataW.Trod enc Tryz.prog w 0 (fun _ => true) true 22 v d p)
    (hz : ∀ n ∈ d.weights Tryz.prog 22, n ≤ reachBytes) :
    ∃ (l : List Pr) (ad : Option Addr) (cap : Nat), v = .slice ad l.length cap ∧ PairsIn w (.slice ad l.length cap) l ∧ PairsReach l ∧ l.length ≤ reachBytes := by
  obtain ⟨ad, n, cap0, rfl⟩ := okWide_slice Tryz.underlying22 hv
  obtain ⟨fuel, hf⟩ := h
  have hC : Tryz.prog.cellsOf 27 = 2 := by kernel_rfl
  have empty : n = 0 → ∃ (l : List Pr) (ad2 : Option Addr) (cap : Nat), Value.slice ad n cap0 = .slice ad2 l.length cap ∧ PairsIn w (.slice ad2 l.length cap) l ∧ PairsReach l ∧ l.length ≤ reachBytes := by
    intro h0
    subst h0
    exact ⟨[], ad, cap0, rfl, ⟨ad, cap0, rfl, .inl rfl⟩, (fun _ h => nomatch h), Nat.zero_le _⟩
  rcases open_slice Tryz.underlying22 hf with ⟨hn, -⟩ | ⟨a, len, cap, m, k, D, Pl, hcs, hb, hl, hm, hmm, hx, hi⟩
  · injection hn with hn _
    injection hn with h1 h2 h3
    exact empty h2
  · injection hcs with hcs _
    injection hcs with h1 h2 h3
    subst h1 h2 h3
    by_cases hn0 : n = 0
    · exact empty hn0
    · have hm' : m = cap0 := hmm
      have hd : d = (.slice ((List.range n).map D) ((List.range (m - n)).map fun j => D (n + j))) := congrArg Prod.fst hx
      have hall : ∀ i, ∃ y : Pr, i < n → w.cell? (a.add (i * 2)) = some (.string ⟨y.1.toArray⟩) ∧ w.cell? (a.add (i * 2 + 1)) = some (.string ⟨y.2.toArray⟩) ∧ D i = .agg [.lit (.string y.1), .lit (.string y.2)] := by
        intro i
        by_cases hin : i < n
        · obtain ⟨cs', hc, ht⟩ := hi i (by omega)
          rw [hC] at hc
          obtain ⟨_, hcl, hat⟩ := World.cells?_some hc
          obtain ⟨x, s, rfl, hD⟩ := open_pair ht hcl
          refine ⟨(x, s), fun _ => ⟨?_, ?_, hD⟩⟩
          · have := hat 0 (by omega)
            rw [add_add, Nat.add_zero] at this
            rw [this]; rfl
          · have := hat 1 (by omega)
            rw [add_add] at this
            rw [this]; rfl
        · exact ⟨([], []), fun h => absurd h hin⟩
      obtain ⟨f, hf2⟩ := Classical.axiomOfChoice hall
      have h00 := (hf2 0 (by omega)).1
      have hspot := World.cell?_spot h00
      obtain ⟨ab, ao, asp⟩ := a
      have hasp : asp = none := by simpa [Addr.add] using hspot
      subst hasp
      have add_at : ∀ j, (⟨ab, ao, none⟩ : Addr).add j = ⟨ab, ao + j, none⟩ := by intro j; unfold Addr.add; split <;> simp_all
      have hlen : ((List.range n).map f).length = n := by simp
      have hget : ∀ i (hi : i < ((List.range n).map f).length), ((List.range n).map f)[i] = f i := by intro i hi; simp
      have hw : ∀ q ∈ DataW.weights Tryz.prog 22 d, q ≤ reachBytes := hz
      rw [hd] at hw
      unfold DataW.weights at hw
      rw [Tryz.underlying22] at hw
      simp only [List.mem_cons, List.mem_append, List.length_map, List.length_range] at hw
      refine ⟨(List.range n).map f, some ⟨ab, ao, none⟩, cap0, by rw [hlen], ⟨_, cap0, rfl, .inr ⟨ab, ao, rfl, ?_, ?_⟩⟩, ?_, ?_⟩
      · have : (⟨ab, ao, none⟩ : Addr).block < w.heap.size := by
          rcases Nat.lt_or_ge ab w.heap.size with hl2 | hl2
          · exact hl2
          · exfalso
            rw [add_at] at h00
            unfold World.cell? at h00
            rw [Array.getElem?_eq_none hl2] at h00
            cases h00
        exact this
      · intro i hi
        rw [hget i hi]
        have := hf2 i (by rw [hlen] at hi; exact hi)
        rw [add_at, add_at] at this
        exact ⟨this.1, this.2.1⟩
      · intro p hp
        obtain ⟨i, hi, rfl⟩ := List.mem_map.1 hp
        have hin := List.mem_range.1 hi
        have hDi := (hf2 i hin).2.2
        obtain ⟨q1, q2⟩ := pair_weights (H := H) (f i).1 (f i).2
        rw [← hDi] at q1 q2
        have hmem : D i ∈ (List.range n).map D := List.mem_map.2 ⟨i, hi, rfl⟩
        exact ⟨hw _ (.inr (.inl (weightsAll_mem hmem q1))), hw _ (.inr (.inl (weightsAll_mem hmem q2)))⟩
      · have := hw _ (.inl rfl)
        rw [pair_bytes] at this
        rw [hlen]
        omega
end
end Go.Proofs.YtjmmecokfijglaaGreatDoor
namespace Go.Proofs.YtjmmecokfijglaaGreatDoor
open Go.ChangeShapes Go.WideShapes Go.ChangeAt Go.RowKit Go.Joins Go.Deep Go.WideElems
open Go.ChangeMaps (open_string shut_string)

/-- A head of the size that a machine can hold. -/
def Hd.fine (h : Hd) : Prop := (0 ≤ h.kind ∧ h.kind < 256) ∧ h.okN ∧ (h.name.length ≤ 9223372036854775807 ∧ h.link.length ≤ 9223372036854775807 ∧ h.uname.length ≤ 9223372036854775807 ∧ h.gname.length ≤ 9223372036854775807)

theorem byte_bd {n : Int} (h : (Lit.int .u8 n).wf = true) : 0 ≤ n ∧ n < 256 := by have := bounds_u8 h; omega
theorem i64_bd {n : Int} (h : (Lit.int .i64 n).wf = true) : -9223372036854775808 ≤ n ∧ n ≤ 9223372036854775807 := by have := bounds_i64 h; omega

section
variable {H : Type} {enc : TypeId × Value → H} {w : World} {base : Nat} {spare : Nat → Bool} {held : Bool}
set_option maxRecDepth 100000 in

theorem open_head {r : Reach} {b0 : Nat} {v : Value} {d : DataW H} {p : List MemPlace} (hv : Value.okWide Tryz.prog w r b0 30 v) (h : DataW.Trod enc Tryz.prog w base spare held 30 v d p) :
    ∃ hd : Hd, v = hd.val ∧ p = [] ∧ hd.fine := by
  have hs := Tryz.underlying30
  obtain ⟨cs, rfl, hsz⟩ := okWide_struct hs hv
  obtain ⟨l⟩ := cs
  have hC : Tryz.prog.cellsOf 30 = 13 := by kernel_rfl
  match l, hsz.trans hC with
  | [c0, c1, c2, c3, c4, c5, c6, c7, c8, c9, c10, c11, c12], _ =>
    obtain ⟨fuel, hf⟩ := h
    obtain ⟨xs, n, _, hx, _, hlen, hg⟩ := DataW.trod_struct hs hf
    match xs, hlen with
    | [y0, y1, y2, y3, y4, y5, y6, y7, y8, y9, y10, y11, y12], _ =>
      have cS : Tryz.prog.cellsOf 9 = 1 := by kernel_rfl
      have cI : Tryz.prog.cellsOf 3 = 1 := by kernel_rfl
      have cU : Tryz.prog.cellsOf 5 = 1 := by kernel_rfl
      have g0 : DataW.trod enc Tryz.prog w base spare held n 9 [c0] = some y0 := by simpa [cS, Value.cells] using hg 0 _ rfl
      have g1 : DataW.trod enc Tryz.prog w base spare held n 9 [c1] = some y1 := by simpa [cS, Value.cells] using hg 1 _ rfl
      have g2 : DataW.trod enc Tryz.prog w base spare held n 5 [c2] = some y2 := by simpa [cU, Value.cells] using hg 2 _ rfl
      have g3 : DataW.trod enc Tryz.prog w base spare held n 3 [c3] = some y3 := by simpa [cI, Value.cells] using hg 3 _ rfl
      have g4 : DataW.trod enc Tryz.prog w base spare held n 3 [c4] = some y4 := by simpa [cI, Value.cells] using hg 4 _ rfl
      have g5 : DataW.trod enc Tryz.prog w base spare held n 3 [c5] = some y5 := by simpa [cI, Value.cells] using hg 5 _ rfl
      have g6 : DataW.trod enc Tryz.prog w base spare held n 3 [c6] = some y6 := by simpa [cI, Value.cells] using hg 6 _ rfl
      have g7 : DataW.trod enc Tryz.prog w base spare held n 3 [c7] = some y7 := by simpa [cI, Value.cells] using hg 7 _ rfl
      have g8 : DataW.trod enc Tryz.prog w base spare held n 9 [c8] = some y8 := by simpa [cS, Value.cells] using hg 8 _ rfl
      have g9 : DataW.trod enc Tryz.prog w base spare held n 9 [c9] = some y9 := by simpa [cS, Value.cells] using hg 9 _ rfl
      have g10 : DataW.trod enc Tryz.prog w base spare held n 3 [c10] = some y10 := by simpa [cI, Value.cells] using hg 10 _ rfl
      have g11 : DataW.trod enc Tryz.prog w base spare held n 3 [c11] = some y11 := by simpa [cI, Value.cells] using hg 11 _ rfl
      have g12 : DataW.trod enc Tryz.prog w base spare held n 3 [c12] = some y12 := by simpa [cI, Value.cells] using hg 12 _ rfl
      obtain ⟨s0, e0, rfl, w0⟩ := DataW.trod_string Tryz.underlying9 g0
      obtain ⟨s1, e1, rfl, w1⟩ := DataW.trod_string Tryz.underlying9 g1
      obtain ⟨a2, e2, rfl, w2⟩ := DataW.trod_int Tryz.underlying5 g2
      obtain ⟨a3, e3, rfl, w3⟩ := DataW.trod_int Tryz.underlying3 g3
      obtain ⟨a4, e4, rfl, w4⟩ := DataW.trod_int Tryz.underlying3 g4
      obtain ⟨a5, e5, rfl, w5⟩ := DataW.trod_int Tryz.underlying3 g5
      obtain ⟨a6, e6, rfl, w6⟩ := DataW.trod_int Tryz.underlying3 g6
      obtain ⟨a7, e7, rfl, w7⟩ := DataW.trod_int Tryz.underlying3 g7
      obtain ⟨s8, e8, rfl, w8⟩ := DataW.trod_string Tryz.underlying9 g8
      obtain ⟨s9, e9, rfl, w9⟩ := DataW.trod_string Tryz.underlying9 g9
      obtain ⟨a10, e10, rfl, w10⟩ := DataW.trod_int Tryz.underlying3 g10
      obtain ⟨a11, e11, rfl, w11⟩ := DataW.trod_int Tryz.underlying3 g11
      obtain ⟨a12, e12, rfl, w12⟩ := DataW.trod_int Tryz.underlying3 g12
      obtain ⟨l0, rfl⟩ := str_of s0
      obtain ⟨l1, rfl⟩ := str_of s1
      obtain ⟨l8, rfl⟩ := str_of s8
      obtain ⟨l9, rfl⟩ := str_of s9
      simp only [List.cons.injEq, and_true] at e0 e1 e2 e3 e4 e5 e6 e7 e8 e9 e10 e11 e12
      subst e0 e1 e2 e3 e4 e5 e6 e7 e8 e9 e10 e11 e12
      refine ⟨⟨l0, l1, a2, a3, a4, a5, a6, a7, l8, l9, a10, a11, a12⟩, rfl, ?_, ?_⟩
      · simp only [Prod.mk.injEq] at hx
        simpa using hx.2
      · have hb := byte_bd w2
        have h3 := i64_bd w3
        have h4 := i64_bd w4
        have h5 := i64_bd w5
        have h6 := i64_bd w6
        have h7 := i64_bd w7
        have h10 := i64_bd w10
        have h11 := i64_bd w11
        have q0 : l0.length ≤ 9223372036854775807 := w0
        have q1 : l1.length ≤ 9223372036854775807 := w1
        have q8 : l8.length ≤ 9223372036854775807 := w8
        have q9 : l9.length ≤ 9223372036854775807 := w9
        refine ⟨hb, ?_, q0, q1, q8, q9⟩
        intro k hk
        rcases lt7 hk with rfl | rfl | rfl | rfl | rfl | rfl | rfl
        · exact h3
        · exact h4
        · exact h5
        · exact h6
        · exact h7
        · exact h10
        · exact h11
theorem shut_head {w' : World} {sp : Nat → Bool} {v : Value} {d : DataW H} (h : DataW.Trod enc Tryz.prog w base (fun _ => true) true 30 v d []) : DataW.Trod enc Tryz.prog w' base sp true 30 v d [] :=
  Trod_stays (by kernel_rfl) (by kernel_rfl) (of_decide_eq_true (by kernel_rfl)) h (fun p hp => by cases hp) (fun p hp => by cases hp)
end
end Go.Proofs.YtjmmecokfijglaaGreatDoor
