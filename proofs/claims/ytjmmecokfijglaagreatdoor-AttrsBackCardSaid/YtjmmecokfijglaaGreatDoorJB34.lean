/-
  Texts of this seat's proof, joined: their order is that of the build.
-/
import Derived.Test.YtjmmecokfijglaaGreatDoorJB33
import Derived.Test.YtjmmecokfijglaaGreatDoorJB25
import Derived.Test.YtjmmecokfijglaaGreatDoorJB30
namespace Go.Proofs.YtjmmecokfijglaaGreatDoor
open Go.ChangeShapes Go.WideShapes Go.ChangeAt Go.RowKit Go.Joins Go.Deep Go.WideElems

/-- A member of the size that a machine can hold. -/
def Mb.fine (m : Mb) : Prop := (0 ≤ m.kind ∧ m.kind < 256) ∧ (∀ v ∈ [m.mode, m.uid, m.gid, m.major, m.minor, m.sec, m.nsec], -9223372036854775808 ≤ v ∧ v ≤ 9223372036854775807) ∧ (∀ l ∈ [m.name, m.link, m.uname, m.gname, m.data], l.length ≤ 9223372036854775807)

section
variable {H : Type} {enc : TypeId × Value → H} {w : World} {base : Nat} {spare : Nat → Bool} {held : Bool}
set_option maxRecDepth 100000 in
theorem open_pairsT {n : Nat} {c : Value} {x : DataW H × List MemPlace} (hf : DataW.trod enc Tryz.prog w 0 (fun _ => true) true n 22 [c] = some x)
    (hz : ∀ q ∈ x.1.weights Tryz.prog 22, q ≤ reachBytes) :
    ∃ (l : List Pr) (ad : Option Addr) (cap : Nat), c = .slice ad l.length cap ∧ PairsIn w (.slice ad l.length cap) l ∧ PairsReach l ∧ l.length ≤ reachBytes := by
  have hC : Tryz.prog.cellsOf 27 = 2 := by kernel_rfl
  have empty : ∀ ad cap0, c = .slice ad 0 cap0 → ∃ (l : List Pr) (ad2 : Option Addr) (cap : Nat), c = .slice ad2 l.length cap ∧ PairsIn w (.slice ad2 l.length cap) l ∧ PairsReach l ∧ l.length ≤ reachBytes := by
    intro ad cap0 h0
    exact ⟨[], ad, cap0, h0, ⟨ad, cap0, rfl, .inl rfl⟩, (fun _ h => nomatch h), Nat.zero_le _⟩
  rcases open_slice Tryz.underlying22 hf with ⟨hn, -⟩ | ⟨a, len, cap, m, k, D, Pl, hcs, hb, hl, hm, hmm, hx, hi⟩
  · injection hn with hn _
    exact empty _ _ hn
  · injection hcs with hcs _
    subst hcs
    have hm' : m = cap := hmm
    by_cases hn0 : len = 0
    · subst hn0
      exact empty _ _ rfl
    · have hd : x.1 = (.slice ((List.range len).map D) ((List.range (m - len)).map fun j => D (len + j))) := congrArg Prod.fst hx
      have hall : ∀ i, ∃ y : Pr, i < len → w.cell? (a.add (i * 2)) = some (.string ⟨y.1.toArray⟩) ∧ w.cell? (a.add (i * 2 + 1)) = some (.string ⟨y.2.toArray⟩) ∧ D i = .agg [.lit (.string y.1), .lit (.string y.2)] := by
        intro i
        by_cases hin : i < len
        · obtain ⟨cs', hc, ht⟩ := hi i (by omega)
          rw [hC] at hc
          obtain ⟨_, hcl, hat⟩ := World.cells?_some hc
          obtain ⟨x, s, rfl, hD⟩ := open_pair ht hcl
          refine ⟨(x, s), fun _ => ⟨?_, ?_, hD⟩⟩
          · have := hat 0 (by omega)
            rw [add_add, Nat.add_zero] at this
            rw [this]; rfl
          · have := hat 1 (by omega)
            rw [add_add] at this
            rw [this]; rfl
        · exact ⟨([], []), fun h => absurd h hin⟩
      obtain ⟨f, hf2⟩ := Classical.axiomOfChoice hall
      have h00 := (hf2 0 (by omega)).1
      have hspot := World.cell?_spot h00
      obtain ⟨ab, ao, asp⟩ := a
      have hasp : asp = none := by simpa [Addr.add] using hspot
      subst hasp
      have add_at : ∀ j, (⟨ab, ao, none⟩ : Addr).add j = ⟨ab, ao + j, none⟩ := by intro j; unfold Addr.add; split <;> simp_all
      have hlen : ((List.range len).map f).length = len := by simp
      have hget : ∀ i (hi : i < ((List.range len).map f).length), ((List.range len).map f)[i] = f i := by intro i hi; simp
      have hw : ∀ q ∈ DataW.weights Tryz.prog 22 x.1, q ≤ reachBytes := hz
      rw [hd] at hw
      unfold DataW.weights at hw
      rw [Tryz.underlying22] at hw
      simp only [List.mem_cons, List.mem_append, List.length_map, List.length_range] at hw
      refine ⟨(List.range len).map f, some ⟨ab, ao, none⟩, cap, by rw [hlen], ⟨_, cap, rfl, .inr ⟨ab, ao, rfl, ?_, ?_⟩⟩, ?_, ?_⟩
      · have : (⟨ab, ao, none⟩ : Addr).block < w.heap.size := by
          rcases Nat.lt_or_ge ab w.heap.size with hl2 | hl2
          · exact hl2
          · exfalso
            rw [add_at] at h00
            unfold World.cell? at h00
            rw [Array.getElem?_eq_none hl2] at h00
            cases h00
        exact this
      · intro i hi
        rw [hget i hi]
        have := hf2 i (by rw [hlen] at hi; exact hi)
        rw [add_at, add_at] at this
        exact ⟨this.1, this.2.1⟩
      · intro p hp
        obtain ⟨i, hi, rfl⟩ := List.mem_map.1 hp
        have hin := List.mem_range.1 hi
        have hDi := (hf2 i hin).2.2
        obtain ⟨q1, q2⟩ := pair_weights (H := H) (f i).1 (f i).2
        rw [← hDi] at q1 q2
        have hmem : D i ∈ (List.range len).map D := List.mem_map.2 ⟨i, hi, rfl⟩
        exact ⟨hw _ (.inr (.inl (weightsAll_mem hmem q1))), hw _ (.inr (.inl (weightsAll_mem hmem q2)))⟩
      · have := hw _ (.inl rfl)
        rw [pair_bytes] at this
        rw [hlen]
        omega

set_option maxRecDepth 100000 in
theorem open_member {r : Reach} {b0 : Nat} {v : Value} {d : DataW H} {p : List MemPlace} (hv : Value.okWide Tryz.prog w r b0 34 v) (h : DataW.Trod enc Tryz.prog w 0 (fun _ => true) true 34 v d p)
    (hz : ∀ n ∈ d.weights Tryz.prog 34, n ≤ reachBytes) :
    ∃ (m : Mb) (X : List Pr) (ax : Option Addr) (cx : Nat), v = m.val ∧ m.extra = .slice ax X.length cx ∧ PairsIn w (.slice ax X.length cx) X ∧ PairsReach X ∧ X.length ≤ reachBytes ∧ m.fine := by
  have hs := Tryz.underlying34
  obtain ⟨cs, rfl, hsz⟩ := okWide_struct hs hv
  obtain ⟨l⟩ := cs
  have hC : Tryz.prog.cellsOf 34 = 14 := by kernel_rfl
  match l, hsz.trans hC with
  | [c0, c1, c2, c3, c4, c5, c6, c7, c8, c9, c10, c11, c12, c13], _ =>
    obtain ⟨fuel, hf⟩ := h
    obtain ⟨xs, n, _, hx, _, hlen, hg⟩ := DataW.trod_struct hs hf
    match xs, hlen with
    | [y0, y1, y2, y3, y4, y5, y6, y7, y8, y9, y10, y11, y12], _ =>
      have cS : Tryz.prog.cellsOf 9 = 1 := by kernel_rfl
      have cI : Tryz.prog.cellsOf 3 = 1 := by kernel_rfl
      have cU : Tryz.prog.cellsOf 5 = 1 := by kernel_rfl
      have cT : Tryz.prog.cellsOf 32 = 2 := by kernel_rfl
      have cP : Tryz.prog.cellsOf 22 = 1 := by kernel_rfl
      have g0 : DataW.trod enc Tryz.prog w 0 (fun _ => true) true n 9 [c0] = some y0 := by simpa [cS, Value.cells] using hg 0 _ rfl
      have g1 : DataW.trod enc Tryz.prog w 0 (fun _ => true) true n 9 [c1] = some y1 := by simpa [cS, Value.cells] using hg 1 _ rfl
      have g2 : DataW.trod enc Tryz.prog w 0 (fun _ => true) true n 5 [c2] = some y2 := by simpa [cU, Value.cells] using hg 2 _ rfl
      have g3 : DataW.trod enc Tryz.prog w 0 (fun _ => true) true n 3 [c3] = some y3 := by simpa [cI, Value.cells] using hg 3 _ rfl
      have g4 : DataW.trod enc Tryz.prog w 0 (fun _ => true) true n 3 [c4] = some y4 := by simpa [cI, Value.cells] using hg 4 _ rfl
      have g5 : DataW.trod enc Tryz.prog w 0 (fun _ => true) true n 3 [c5] = some y5 := by simpa [cI, Value.cells] using hg 5 _ rfl
      have g6 : DataW.trod enc Tryz.prog w 0 (fun _ => true) true n 9 [c6] = some y6 := by simpa [cS, Value.cells] using hg 6 _ rfl
      have g7 : DataW.trod enc Tryz.prog w 0 (fun _ => true) true n 9 [c7] = some y7 := by simpa [cS, Value.cells] using hg 7 _ rfl
      have g8 : DataW.trod enc Tryz.prog w 0 (fun _ => true) true n 3 [c8] = some y8 := by simpa [cI, Value.cells] using hg 8 _ rfl
      have g9 : DataW.trod enc Tryz.prog w 0 (fun _ => true) true n 3 [c9] = some y9 := by simpa [cI, Value.cells] using hg 9 _ rfl
      have g10 : DataW.trod enc Tryz.prog w 0 (fun _ => true) true n 32 [c10, c11] = some y10 := by simpa [cT, Value.cells] using hg 10 _ rfl
      have g12 : DataW.trod enc Tryz.prog w 0 (fun _ => true) true n 22 [c12] = some y11 := by simpa [cP, Value.cells] using hg 11 _ rfl
      have g13 : DataW.trod enc Tryz.prog w 0 (fun _ => true) true n 9 [c13] = some y12 := by simpa [cS, Value.cells] using hg 12 _ rfl
      obtain ⟨ts, n2, _, hx2, _, hlen2, hg2⟩ := DataW.trod_struct Tryz.underlying32 g10
      match ts, hlen2 with
      | [t0, t1], _ =>
        have k0 : DataW.trod enc Tryz.prog w 0 (fun _ => true) true n2 3 [c10] = some t0 := by simpa [cI] using hg2 0 _ rfl
        have k1 : DataW.trod enc Tryz.prog w 0 (fun _ => true) true n2 3 [c11] = some t1 := by simpa [cI] using hg2 1 _ rfl
        obtain ⟨s0, e0, -, w0⟩ := DataW.trod_string Tryz.underlying9 g0
        obtain ⟨s1, e1, -, w1⟩ := DataW.trod_string Tryz.underlying9 g1
        obtain ⟨a2, e2, -, w2⟩ := DataW.trod_int Tryz.underlying5 g2
        obtain ⟨a3, e3, -, w3⟩ := DataW.trod_int Tryz.underlying3 g3
        obtain ⟨a4, e4, -, w4⟩ := DataW.trod_int Tryz.underlying3 g4
        obtain ⟨a5, e5, -, w5⟩ := DataW.trod_int Tryz.underlying3 g5
        obtain ⟨s6, e6, -, w6⟩ := DataW.trod_string Tryz.underlying9 g6
        obtain ⟨s7, e7, -, w7⟩ := DataW.trod_string Tryz.underlying9 g7
        obtain ⟨a8, e8, -, w8⟩ := DataW.trod_int Tryz.underlying3 g8
        obtain ⟨a9, e9, -, w9⟩ := DataW.trod_int Tryz.underlying3 g9
        obtain ⟨a10, e10, -, w10⟩ := DataW.trod_int Tryz.underlying3 k0
        obtain ⟨a11, e11, -, w11⟩ := DataW.trod_int Tryz.underlying3 k1
        obtain ⟨s13, e13, -, w13⟩ := DataW.trod_string Tryz.underlying9 g13
        have hd : d = .agg [y0.1, y1.1, y2.1, y3.1, y4.1, y5.1, y6.1, y7.1, y8.1, y9.1, y10.1, y11.1, y12.1] := by
          have := congrArg Prod.fst hx
          simpa using this
        obtain ⟨X, ax, cx, rfl, hX, hre, hXl⟩ := open_pairsT g12 (fun q hq => hz q (by
          rw [hd]
          unfold DataW.weights
          rw [hs]
          simp [DataW.weightsEach]
          simp [hq]))
        obtain ⟨l0, rfl⟩ := str_of s0
        obtain ⟨l1, rfl⟩ := str_of s1
        obtain ⟨l6, rfl⟩ := str_of s6
        obtain ⟨l7, rfl⟩ := str_of s7
        obtain ⟨l13, rfl⟩ := str_of s13
        simp only [List.cons.injEq, and_true] at e0 e1 e2 e3 e4 e5 e6 e7 e8 e9 e10 e11 e13
        subst e0 e1 e2 e3 e4 e5 e6 e7 e8 e9 e10 e11 e13
        refine ⟨⟨l0, l1, a2, a3, a4, a5, l6, l7, a8, a9, a10, a11, .slice ax X.length cx, l13⟩, X, ax, cx, rfl, rfl, hX, hre, hXl, byte_bd w2, ?_, ?_⟩
        · have h3 := i64_bd w3
          have h4 := i64_bd w4
          have h5 := i64_bd w5
          have h8 := i64_bd w8
          have h9 := i64_bd w9
          have h10 := i64_bd w10
          have h11 := i64_bd w11
          intro v hv
          simp only [List.mem_cons, List.mem_nil_iff, or_false] at hv
          rcases hv with rfl | rfl | rfl | rfl | rfl | rfl | rfl <;> assumption
        · have q0 : l0.length ≤ 9223372036854775807 := w0
          have q1 : l1.length ≤ 9223372036854775807 := w1
          have q6 : l6.length ≤ 9223372036854775807 := w6
          have q7 : l7.length ≤ 9223372036854775807 := w7
          have q13 : l13.length ≤ 9223372036854775807 := w13
          intro v hv
          simp only [List.mem_cons, List.mem_nil_iff, or_false] at hv
          rcases hv with rfl | rfl | rfl | rfl | rfl <;> assumption
end
end Go.Proofs.YtjmmecokfijglaaGreatDoor
namespace Go.Proofs.YtjmmecokfijglaaGreatDoor.attrsMerge
open Go.ChangeShapes Go.WideShapes Go.ChangeAt Go.RowKit Go.Maps

theorem mAll_mem (g : List Pr) : ∀ (l : List Pr) (q : Pr), q ∈ mAll l g → q ∈ l ∨ q ∈ g := by
  induction g with
  | nil => exact fun l q h => .inl h
  | cons p g ih =>
    intro l q h
    rcases ih (mPut l p) q h with h | h
    · rcases mIns_mem h with rfl | h
      · exact .inr List.mem_cons_self
      · exact .inl (List.mem_filter.1 h).1
    · exact .inr (List.mem_cons_of_mem _ h)
theorem mAll_length (g : List Pr) : ∀ l : List Pr, (mAll l g).length ≤ l.length + g.length := by
  induction g with
  | nil => intro l; simp [mAll]
  | cons p g ih =>
    intro l
    have h1 := ih (mPut l p)
    have h2 := mPut_length l p
    show (mAll (mPut l p) g).length ≤ _
    simp only [List.length_cons]
    omega
theorem mMerge_mem {g l : List Pr} {q : Pr} (h : q ∈ mMerge g l) : q ∈ g ∨ q ∈ l := by
  have h1 := (List.mem_filter.1 h).1
  rcases mAll_mem l _ q h1 with h | h
  · rcases mAll_mem g _ q h with h | h
    · cases h
    · exact .inl h
  · exact .inr h
theorem mMerge_length (g l : List Pr) : (mMerge g l).length ≤ g.length + l.length := by
  have h1 := List.length_filter_le (fun p : Pr => !p.2.isEmpty) (mAll (mAll [] g) l)
  have h2 := mAll_length l (mAll [] g)
  have h3 := mAll_length g []
  simp only [List.length_nil] at h3
  show (List.filter _ _).length ≤ _
  omega

set_option maxRecDepth 100000 in
set_option maxHeartbeats 1000000 in
theorem walk (OK : World → Prop) (hstep : ∀ a b : World, OK a → Below a.heap.size a b → OK b)
    (haw : ∀ w : World, OK w → Calls Tryz.prog 9 #[] w fun e w' => Below w.heap.size w w' ∧ e = .returned (.bool true))
    (g l : List Pr) (ag al : Option Addr) (cg cl : Nat) (w : World) (hg : PairsIn w (.slice ag g.length cg) g) (hl : PairsIn w (.slice al l.length cl) l) (hok : OK w) :
    Calls Tryz.prog 3 #[.slice ag g.length cg, .slice al l.length cl] w fun e w' => Below w.heap.size w w' ∧ e = .returned (.bool true) := by
  have Hg := Lib.hid hg
  have Hl := Lib.hid hl
  have Hok := Lib.hid hok
  have Haw := Lib.hid haw
  have Hstep := Lib.hid hstep
  have Hlg := Lib.hid (long_any g ag cg w hg)
  have Hll := Lib.hid (fun w1 h => long_any l al cl w1 h)
  have Hfg := Lib.hid (fun h => tooLong_fits (l := g) h)
  have Hfl := Lib.hid (fun h => tooLong_fits (l := l) h)
  clear hg hl hok haw hstep
  generalize tooLong g = tg at *
  generalize tooLong l = tl at *
  cases tg with
  | true =>
    go_enter Tryz.func3, Tryz.ntmps3
    go_wp2_with (fail)
    refine Hlg.out.mono ?_
    rintro e w1 ⟨hb1, rfl⟩
    have Hb1 := Lib.hid hb1
    clear hb1
    go_wp2_with (fail)
    refine (Haw.out _ (Hstep.out _ _ Hok.out Hb1.out)).mono ?_
    rintro e w2 ⟨hb2, rfl⟩
    have Hb2 := Lib.hid (Hb1.out.trans (hb2.mono Hb1.out.size))
    clear hb2
    go_wp2
    go_ret
    exact ⟨Hb2.out, rfl⟩
  | false =>
    cases tl with
    | true =>
      go_enter Tryz.func3, Tryz.ntmps3
      go_wp2_with (fail)
      refine Hlg.out.mono ?_
      rintro e w1 ⟨hb1, rfl⟩
      have Hb1 := Lib.hid hb1
      clear hb1
      go_wp2_with (fail)
      refine (Hll.out _ (Hl.out.under Hb1.out)).mono ?_
      rintro e w2 ⟨hb2, rfl⟩
      have Hb2 := Lib.hid (Hb1.out.trans (hb2.mono Hb1.out.size))
      clear hb2
      go_wp2_with (fail)
      refine (Haw.out _ (Hstep.out _ _ Hok.out Hb2.out)).mono ?_
      rintro e w3 ⟨hb3, rfl⟩
      have Hb3 := Lib.hid (Hb2.out.trans (hb3.mono Hb2.out.size))
      clear hb3
      go_wp2
      go_ret
      exact ⟨Hb3.out, rfl⟩
    | false =>
      obtain ⟨hg1, hg2⟩ := Hfg.out rfl
      obtain ⟨hl1, hl2⟩ := Hfl.out rfl
      have Hmrg := Lib.hid (fun w1 (h : Below w.heap.size w w1) => merge_any g l ag al cg cl w1 (Hg.out.under h) (Hl.out.under h) (fun p hp => by have := hg2 p hp; omega) (fun p hp => by have := hl2 p hp; omega) (by omega))
      have Href := Lib.hid (fun w1 (h : Below w.heap.size w w1) => refMerge_any g l ag al cg cl w1 (Hg.out.under h) (Hl.out.under h) (by omega))
      have Hris := Lib.hid (mMerge_rising g l)
      have Hself := Lib.hid (mMerge_self g l)
      have hml : (mMerge g l).length ≤ 24 := by have := mMerge_length g l; omega
      have Hfit := Lib.hid (show prFits 140737488355328 (mMerge g l) from fun p hp => by
        rcases mMerge_mem hp with h | h
        · have := hg2 p h; omega
        · have := hl2 p h; omega)
      have Hml := Lib.hid hml
      clear hg1 hg2 hl1 hl2 hml Hfg Hfl
      generalize mMerge g l = M at *
      go_enter Tryz.func3, Tryz.ntmps3
      go_wp2_with (fail)
      refine Hlg.out.mono ?_
      rintro e w1 ⟨hb1, rfl⟩
      have Hb1 := Lib.hid hb1
      clear hb1
      go_wp2_with (fail)
      refine (Hll.out _ (Hl.out.under Hb1.out)).mono ?_
      rintro e w2 ⟨hb2, rfl⟩
      have Hb2 := Lib.hid (Hb1.out.trans (hb2.mono Hb1.out.size))
      clear hb2 Hb1
      go_wp2_with (fail)
      refine (Hmrg.out _ Hb2.out).mono ?_
      rintro e w3 ⟨hb3, v, rfl, hown⟩
      have Hb3 := Lib.hid (Hb2.out.trans (hb3.mono Hb2.out.size))
      obtain ⟨av, cs, rfl⟩ := hown.slice
      have Hin := Lib.hid hown.pairs
      have Hc := Lib.hid hown.pairs.cells
      clear hb3 hown Hb2 Hlg Hll
      go_wp2
      go_loopw [6] (fun i wr => ∃ k m : Nat, i = .int .i64 ((k : Int) + 1) ∧ k ≤ M.length ∧ wr = w3.drewN m) (fun i _ => M.length + 1 - (intOf i).toNat)
      case atStart => exact ⟨0, 0, rfl, Nat.zero_le _, rfl⟩
      case round =>
        obtain ⟨k, m, rfl, hk, rfl⟩ := hrel
        have hkb : (k : Int) ≤ 24 := by have := Hml.out; omega
        by_cases hlt : k + 1 < M.length
        · obtain ⟨b, o, rfl, hb0, c1, c2⟩ := Hc.out k (by omega)
          obtain ⟨b2, o2, he, hb02, d1, d2⟩ := Hc.out (k + 1) hlt
          obtain ⟨rfl, rfl⟩ : b = b2 ∧ o = o2 := by simpa using he
          have hbef : bytesBefore M[k].1 M[k + 1].1 = true := List.pairwise_iff_getElem.1 Hris.out k (k + 1) (by omega) hlt (by omega)
          have hlt2 : (k : Int) + 1 < M.length := by omega
          have hw1 : wrap64 ((k : Int) + 1 - 1) = (k : Int) := by rw [IntWalk.wrap64_in _ (by omega)]; omega
          have hw2 : IntKind.i64.wrap ((k : Int) + 1 - 1) = (k : Int) := by rw [IntWalk.i64_in _ (by omega)]; omega
          have hge := geq_run M[k].1 M[k + 1].1
          rw [hbef] at hge
          generalize M[k].1 = x at *
          generalize M[k + 1].1 = y at *
          clear hbef he
          have c1 : (w3.drewN m).cell? ⟨b, o + k * 2, none⟩ = some (.string ⟨x.toArray⟩) := c1
          have d1 : (w3.drewN m).cell? ⟨b, o + (k + 1) * 2, none⟩ = some (.string ⟨y.toArray⟩) := d1
          have Hdr := Lib.hid (fun j => show (w3.drewN m).drewN j = w3.drewN (m + j) from drewN_add w3 m j)
          generalize w3.drewN m = wd at *
          go_wp2_with (fail)
          go_quiet (fail)
          go_wp2
          go_roundw
          case rel => exact ⟨k + 1, m + nq, by go_num, by omega, Hdr.out nq⟩
          case measure => simp [intOf]; omega
        · have Hb4 := Lib.hid (show Below w.heap.size w (w3.drewN m) from below_drewN Hb3.out _)
          have Hin4 := Lib.hid (show PairsIn (w3.drewN m) (.slice av M.length cs) M from Hin.out)
          have hnlt : ¬ (k : Int) + 1 < M.length := by omega
          generalize w3.drewN m = w4 at *
          clear Hin Hb3 Hc hlt
          go_wp2_with (fail)
          refine (Href.out _ Hb4.out).mono ?_
          rintro e w5 ⟨hb5, v5, rfl, hown5⟩
          have Hb5 := Lib.hid (Hb4.out.trans (hb5.mono Hb4.out.size))
          have Hin5 := Lib.hid (Hin4.out.under hb5)
          have hsame := sameIn_any M M _ _ w5 Hin5.out hown5.pairs (by have := Hml.out; omega) (by have := Hml.out; omega)
          rw [decide_eq_true rfl] at hsame
          have Hsame := Lib.hid hsame
          clear hsame
          clear hb5 hown5 Hb4 Hin4
          go_wp2_with (fail)
          refine Hsame.out.mono ?_
          rintro e w6 ⟨rfl, m6, rfl⟩
          have Hb6 := Lib.hid (show Below w.heap.size w (w5.drewN m6) from below_drewN Hb5.out _)
          have Hin6 := Lib.hid (show PairsIn (w5.drewN m6) (.slice av M.length cs) M from Hin5.out)
          generalize w5.drewN m6 = w6 at *
          clear Hb5 Hin5 Hsame
          have Hm2 := Lib.hid (merge_any M [] av none cs 0 w6 Hin6.out (PairsIn.nil w6) Hfit.out (fun p hp => by cases hp) (by have := Hml.out; simp; omega))
          rw [Hself.out] at Hm2
          go_wp2_with (fail)
          refine Hm2.out.mono ?_
          rintro e w7 ⟨hb7, v7, rfl, hown7⟩
          have Hb7 := Lib.hid (Hb6.out.trans (hb7.mono Hb6.out.size))
          have Hin7 := Lib.hid (Hin6.out.under hb7)
          have hsame := sameIn_any M M _ _ w7 hown7.pairs Hin7.out (by have := Hml.out; omega) (by have := Hml.out; omega)
          rw [decide_eq_true rfl] at hsame
          have Hsame := Lib.hid hsame
          clear hsame
          clear hb7 hown7 Hb6 Hin6 Hm2
          go_wp2_with (fail)
          refine Hsame.out.mono ?_
          rintro e w8 ⟨rfl, m8, rfl⟩
          have Hb8 := Lib.hid (show Below w.heap.size w (w7.drewN m8) from below_drewN Hb7.out _)
          generalize w7.drewN m8 = w8 at *
          clear Hb7 Hin7 Hsame
          go_wp2_with (fail)
          refine (Haw.out _ (Hstep.out _ _ Hok.out Hb8.out)).mono ?_
          rintro e w9 ⟨hb9, rfl⟩
          have Hb9 := Lib.hid (Hb8.out.trans (hb9.mono Hb8.out.size))
          clear hb9
          go_wp2
          go_ret
          exact ⟨Hb9.out, rfl⟩
end Go.Proofs.YtjmmecokfijglaaGreatDoor.attrsMerge
