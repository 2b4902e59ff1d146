/-
  Contracts of the document's answers for layer 8: All, Put, Drop, over a list of texts that calls have gathered.
-/
import Derived.Test.YtmblbmkkeloegaaFedF
import Derived.Laws.AppendOwn
import Derived.Laws.OwnMore
import Derived.Deep.CutBlock
import Derived.Deep.DeepCutAuto
namespace Go.Proofs.Ytmblbmkkeloegaa
open Go.ChangeShapes Go.WideShapes Go.ChangeAt Go.RowKit Go.Conc

/-- Texts that calls have gathered. -/
abbrev OwnS (w : World) (B : Nat) (v : Value) (L : List (List UInt8)) : Prop := w.ownsRow B 9 1 v L.length (L.map strV)

theorem OwnS.step {w w' : World} {B : Nat} {v : Value} {L : List (List UInt8)} (h : OwnS w B v L) (hb : Below w.heap.size w w') : OwnS w' B v L :=
  h.kept (row := none) ⟨hb.os, hb.tape, hb.output, hb.size, fun k hk _ => hb.block k hk⟩ (by rcases h : v.ownBlock with _ | g; exact .inl rfl; exact .inr (by simp))
theorem OwnS.fkeep {w w' : World} {B f c : Nat} {v : Value} {L : List (List UInt8)} (h : OwnS w B v L) (hk : FKeep f c w w') (hf : f < B) (hc : c < B) : OwnS w' B v L := by
  refine ⟨h.1, h.2.imp id ?_⟩
  rintro ⟨g, cap, cur, hv, hBg, hg, rest⟩
  have hgl : g < w.heap.size := by
    rcases Nat.lt_or_ge g w.heap.size with h' | h'
    · exact h'
    · rw [Array.getElem?_eq_none h'] at hg; cases hg
  exact ⟨g, cap, cur, hv, hBg, (hk.block g hgl (by omega) (by omega)).trans hg, rest⟩
theorem OwnS.form {w : World} {B : Nat} {v : Value} {L : List (List UInt8)} (h : OwnS w B v L) : ∃ ad cap, v = .slice ad L.length cap := by
  rcases h.2 with ⟨hv, hn⟩ | ⟨g, cap, cur, hv, _⟩
  · exact ⟨none, 0, by rw [hv, hn]⟩
  · exact ⟨_, cap, hv⟩
theorem OwnS.cell {w : World} {B : Nat} {v : Value} {L : List (List UInt8)} (h : OwnS w B v L) {i : Nat} (hi : i < L.length) : ∃ g cap, v = .slice (some ⟨g, 0, none⟩) L.length cap ∧ w.cell? ⟨g, i, none⟩ = some (strV L[i]) := by
  rcases h.2 with ⟨hv, hn⟩ | ⟨g, cap, cur, hv, _⟩
  · omega
  · subst hv
    refine ⟨g, cap, rfl, ?_⟩
    have hj := World.ownsRow.cellAt h i (by omega)
    rw [hj]
    simp [hi]
theorem OwnS.le {w : World} {B B' : Nat} {v : Value} {L : List (List UInt8)} (h : OwnS w B v L) (hb : B' ≤ B) : OwnS w B' v L :=
  ⟨h.1, h.2.elim Or.inl (fun ⟨g, cap, cur, hv, hg, r⟩ => Or.inr ⟨g, cap, cur, hv, Nat.le_trans hb hg, r⟩)⟩
theorem zero_str : (Try.prog.info? 9).map (fun i => (i.zero, i.size, i.bytes)) = some (some (.string ⟨#[]⟩), 1, 16) := by kernel_rfl

section
variable {w : World} {B : Nat} {v : Value} {L : List (List UInt8)} {cl : Bool}

set_option maxRecDepth 100000 in
theorem refAll_any (h : OwnS w B v L) (hl : L.flatten.length ≤ 4294967296) (hn : L.length ≤ 4294967296) :
    Calls Try.prog 10 #[.agg #[v, .bool cl]] w fun e w' => Below w.heap.size w w' ∧ e = .returned (strV L.flatten) := by
  obtain ⟨ad, cap, rfl⟩ := h.form
  have Hall := Lib.hid (fun i (hi : i < L.length) => (h.step ((Below.refl _ w).alloc (Nat.le_refl _) (.cells #[.slice ad L.length cap, .bool cl] 27))).cell hi)
  have Hb := Lib.hid ((Below.refl w.heap.size w).alloc (Nat.le_refl _) (.cells #[.slice ad L.length cap, .bool cl] 27))
  have hh := Holds.new w 27 [.slice ad L.length cap, .bool cl]
  have c0 := hh.cell (i := 0) (by simp)
  clear h hh
  go_enter Try.func10, Try.ntmps10
  go_wp2
  go_loop [3, 4] (fun s i => ∃ k : Nat, k ≤ L.length ∧ i = .int .i64 k ∧ s = .string ⟨(L.take k).flatten.toArray⟩) (fun _ i => L.length - (intOf i).toNat)
  case atStart => exact ⟨0, Nat.zero_le _, rfl, by simp⟩
  case round =>
    obtain ⟨k, hk, rfl, rfl⟩ := hrel
    by_cases hlt : k < L.length
    · have hlt2 : (k : Int) < L.length := by omega
      obtain ⟨g, cap2, hv, hc⟩ := Hall.out k hlt
      obtain rfl : ad = some ⟨g, 0, none⟩ := by injection hv
      have hn2 : (L.take (k + 1)).flatten = (L.take k).flatten ++ L[k] := by rw [List.take_succ_eq_append_getElem hlt, List.flatten_append, List.flatten_cons, List.flatten_nil, List.append_nil]
      have Hn2 := Lib.hid hn2
      have hsz : (L.take k).flatten.length + L[k].length ≤ 4294967296 := by
        have h1 : (L.take (k + 1)).flatten.length + (L.drop (k + 1)).flatten.length = L.flatten.length := by
          rw [← List.length_append, ← List.flatten_append, List.take_append_drop]
        rw [hn2, List.length_append] at h1
        omega
      clear hn2 hv
      generalize (L.take k).flatten = a at *
      generalize L[k] = x at *
      go_wp2
      go_round
      case rel => exact ⟨k + 1, by omega, by go_num, by rw [Hn2.out]⟩
      case measure => simp [intOf]; omega
    · have hk2 : (L.length : Int) ≤ k := by omega
      obtain rfl : k = L.length := by omega
      have Ht := Lib.hid (show (L.take L.length).flatten = L.flatten by rw [List.take_length])
      go_wp2
      go_ret
      exact ⟨Hb.out, by rw [← Ht.out]; rfl⟩
end

/-- A result that is a struct in a cell, and one in a slot. -/
theorem results_cs {P : Program} {fn : Func} {p q : Tmp} {ty : TypeId} (h : fn.results = #[.cell p ty, .tmp q]) (tmps : Array Value) (w : World) (g : Nat) (t : TypeId) (cs : Array Value) (fr : Nat × Nat) (d : TypeDesc) (v : Value)
    (hp : tmps.getD p undef = .pointer (some ⟨g, 0, none⟩)) (hq : tmps.getD q undef = v) (hg : w.heap[g]? = some (.cells cs t fr))
    (hu : P.underlying ty = some d) (hd : (match d with | .struct _ | .array _ _ => true | _ => false) = true) (hi : (P.info? ty).map (·.size) = some cs.size) :
    (results fn tmps).run P w = .ok (.tuple #[.agg cs, v]) w := by
  have hp' : tmps[p]?.getD undef = .pointer (some ⟨g, 0, none⟩) := by simpa using hp
  have hq' : tmps[q]?.getD undef = v := by simpa using hq
  simp [results, h, hp', hq', asAddr, run_loadVar_row w g t ty cs fr d hg hu hd hi]
theorem state_size : (Try.prog.info? 27).map (·.size) = some 2 := by kernel_rfl

/-- Nothing is put behind a list. -/
theorem wpList_append_none {P : Program} (w : World) {ops : Array Oper} {rest : List Oper} {o : Oper} {a : Act} {Q : Exit → Act → World → Prop} (hgd : o.guard = none) (s x : Operand) (t : TypeId)
    (ho : o.op = .call { callee := .builtin .append, args := #[s, x], argTypes := #[t, t] }) (base : Nat) (e : TypeId) (i : TypeInfo) (size : Nat) (ht : P.underlying t = some (.slice e)) (hi : P.info? e = some i)
    (v : Value) (n : Nat) (xs : List Value) (hs : a.eval s = v) (hown : w.ownsRow base e size v n xs) (hx : a.eval x = .slice none 0 0) (h : ∀ v2 w2, w2.ownsRow base e size v2 n xs → w.grownBy w2 v.ownBlock → (v2 = v ∧ w2 = w) → wpList P ops Q rest (a.put o.dst v2) w2) : wpList P ops Q (o :: rest) a w :=
  wpList_plain hgd fun K hK => by
    have hr := run_append_owned_none (P := P) (w := w) base t o.type e i size ht hi v n xs hown
    unfold Oper.wp execOp
    simp only [ho, resolve, invoke, builtin, Sem.run_bind, Sem.run_pure, Result.andThen_ok, List.map_toArray, List.map_cons, List.map_nil, hs, hx, hr]
    exact hK _ _ (h v w hown ⟨rfl, rfl, rfl, Nat.le_refl _, fun _ _ _ => rfl⟩ ⟨rfl, rfl⟩)

section
variable {w : World} {B : Nat} {v : Value} {L : List (List UInt8)} {cl : Bool}

set_option maxRecDepth 100000 in
theorem refPut_same (h : OwnS w B v L) (b : List UInt8) (hb : b.length ≤ maxLen) (hn : L.length ≤ 64) (hne : 65536 < b.length ∨ cl = true ∨ b = [] ∨ 64 ≤ L.length) :
    Calls Try.prog 16 #[.agg #[v, .bool cl], .string ⟨b.toArray⟩] w fun e w' => Below w.heap.size w w' ∧ e = .returned (.tuple #[.agg #[v, .bool cl], .int .i64 (putL L cl b).2]) := by
  unfold maxLen at hb
  obtain ⟨ad, cap, rfl⟩ := h.form
  clear h
  have Hg := Lib.hid (fun cl : Bool => show ((w.alloc (.cells #[.slice ad L.length cap, .bool cl] 27)).alloc (.cells #[.slice ad L.length cap, .bool cl] 27)).heap[w.heap.size + 1]? = some (.cells #[.slice ad L.length cap, .bool cl] 27 (0, 0)) by
    have := heap_alloc_new (w.alloc (.cells #[.slice ad L.length cap, .bool cl] 27)) (.cells #[.slice ad L.length cap, .bool cl] 27)
    rwa [World.size_alloc] at this)
  have Hb := Lib.hid (fun cl : Bool => ((Below.refl w.heap.size w).alloc (Nat.le_refl _) (.cells #[.slice ad L.length cap, .bool cl] 27)).alloc (by simp) (.cells #[.slice ad L.length cap, .bool cl] 27))
  by_cases h1 : 65536 < b.length
  · have h1i : (65536 : Int) < b.length := by omega
    rw [show putL L cl b = (L, 12) from if_pos h1]
    go_enter Try.func16, Try.ntmps16
    go_wp2
    exact bodyPost_ret (results_cs Try.results16 _ _ (w.heap.size + 1) _ #[.slice ad L.length cap, .bool cl] _ _ _ (by rfl) (by rfl) (Hg.out cl) Try.underlying27 rfl state_size) rfl ⟨Hb.out cl, rfl⟩
  · have h1i : (b.length : Int) ≤ 65536 := by omega
    cases cl
    · by_cases h2 : b = []
      · rw [show putL L false b = (L, 0) by unfold putL; rw [if_neg h1, if_neg (by decide), if_pos h2]]
        subst h2
        go_enter Try.func16, Try.ntmps16
        go_wp2
        exact bodyPost_ret (results_cs Try.results16 _ _ (w.heap.size + 1) _ #[.slice ad L.length cap, .bool false] _ _ _ (by rfl) (by rfl) (Hg.out false) Try.underlying27 rfl state_size) rfl ⟨Hb.out false, rfl⟩
      · have h3 : 64 ≤ L.length := by simp [h1, h2] at hne; omega
        have h3i : (64 : Int) ≤ L.length := by omega
        rw [show putL L false b = (L, 8) by unfold putL; rw [if_neg h1, if_neg (by decide), if_neg h2, if_pos h3]]
        have e0 : (b == []) = false := by simpa using h2
        clear h2 h1 hne
        go_enter Try.func16, Try.ntmps16
        go_wp2
        exact bodyPost_ret (results_cs Try.results16 _ _ (w.heap.size + 1) _ #[.slice ad L.length cap, .bool false] _ _ _ (by rfl) (by rfl) (Hg.out false) Try.underlying27 rfl state_size) rfl ⟨Hb.out false, rfl⟩
    · rw [show putL L true b = (L, 10) by unfold putL; rw [if_neg h1, if_pos rfl]]
      go_enter Try.func16, Try.ntmps16
      go_wp2
      exact bodyPost_ret (results_cs Try.results16 _ _ (w.heap.size + 1) _ #[.slice ad L.length cap, .bool true] _ _ _ (by rfl) (by rfl) (Hg.out true) Try.underlying27 rfl state_size) rfl ⟨Hb.out true, rfl⟩

set_option maxRecDepth 100000 in
theorem refPut_more (h : OwnS w B v L) (hB : B ≤ w.heap.size) (b : List UInt8) (hb : b.length ≤ 65536) (hn : L.length < 64) (hb0 : b ≠ []) :
    Calls Try.prog 16 #[.agg #[v, .bool false], .string ⟨b.toArray⟩] w fun e w' => Below w.heap.size w w' ∧ ∃ v', OwnS w' B v' (L ++ [b]) ∧ e = .returned (.tuple #[.agg #[v', .bool false], .int .i64 0]) := by
  obtain ⟨i0, hi, hz0, hz1, hz2⟩ := info_parts zero_str
  have hbi : (b.length : Int) ≤ 65536 := by omega
  have e0 : (b == []) = false := by simpa using hb0
  have hni : (L.length : Int) < 64 := by omega
  have hlt : w.heap.size + 1 < w.heap.size + 2 := by omega
  have hst : ∀ v : Value, Holds (((w.alloc (.cells #[v, .bool false] 27)).alloc (.cells #[.slice none 0 0, .bool false] 27)).alloc (.cells #[] 9)) (w.heap.size + 1) 27 [.slice none 0 0, .bool false] := fun v => by
    have h1 := Holds.new (w.alloc (.cells #[v, .bool false] 27)) 27 [.slice none 0 0, .bool false]
    rw [World.size_alloc] at h1
    exact h1.behind _
  have hlit : ∀ v : Value, (((w.alloc (.cells #[v, .bool false] 27)).alloc (.cells #[.slice none 0 0, .bool false] 27)).alloc (.cells #[] 9)).ownsRow (w.heap.size + 2) 9 1 (.slice (some ⟨w.heap.size + 1 + 1, 0, none⟩) 0 0) 0 [] := fun v => by
    have h1 := World.ownsRow_lit (base := w.heap.size + 2) (e := 9) (size := 1) ((w.alloc (.cells #[v, .bool false] 27)).alloc (.cells #[.slice none 0 0, .bool false] 27)) #[] 0 (by simp) (by decide) rfl
    simpa only [World.size_alloc] using h1
  have hbl : ∀ v : Value, Below w.heap.size w (((w.alloc (.cells #[v, .bool false] 27)).alloc (.cells #[.slice none 0 0, .bool false] 27)).alloc (.cells #[] 9)) := fun v =>
    (((Below.refl w.heap.size w).alloc (Nat.le_refl _) _).alloc (by simp) _).alloc (by simp; omega) _
  have hbs : ∀ v : Value, Below w.heap.size w (w.alloc (.cells #[v, .bool false] 27)) := fun v => (Below.refl w.heap.size w).alloc (Nat.le_refl _) _
  rcases h.2 with ⟨rfl, hn0⟩ | ⟨g, cap, cur, rfl, hBg, hg, hrest⟩
  · obtain rfl : L = [] := List.length_eq_zero_iff.1 hn0
    have hown0 := hlit (.slice none 0 0)
    have hs4 := hst (.slice none 0 0)
    have hb4 := hbl (.slice none 0 0)
    clear hst hlit hbl hbs h
    go_enter Try.func16, Try.ntmps16
    go_wp2_with (at_builtin; refine wpList_append_none _ rfl _ _ 25 rfl (w.heap.size + 2) 9 i0 1 Try.underlying25 hi _ 0 [] rfl hown0 rfl ?_)
    intro vq w4 hown1 _ hv hq
    subst hv
    rw [← hq] at hs4 hb4
    clear hq hown0
    have HB4 := Lib.hid hb4
    have HS4 := Lib.hid hs4
    have HO4 := Lib.hid (World.ownsRow.alloc hown1 (.cells #[strV b] 9))
    have Hnew := Lib.hid (fun j u (hj : [strV b][j]? = some u) => show (w4.alloc (.cells #[strV b] 9)).cell? ((⟨w4.heap.size, 0, none⟩ : Addr).add j) = some u by
      have hh := Holds.new w4 9 [strV b]
      have add_at : (⟨w4.heap.size, 0, none⟩ : Addr).add j = ⟨w4.heap.size, j, none⟩ := by unfold Addr.add; split <;> simp_all
      rw [add_at]
      have hj1 : j < 1 := by
        rcases Nat.lt_or_ge j 1 with hl | hl
        · exact hl
        · rw [List.getElem?_eq_none (by simpa using hl)] at hj; cases hj
      have := hh.cell (i := j) (by simpa using hj1)
      rw [List.getElem?_eq_getElem (by simpa using hj1)] at hj
      injection hj with hj
      rw [← hj]
      exact this)
    have hone1 : ∀ u ∈ [strV b], u.oneCell' = true := fun u hu => by rw [List.mem_singleton.1 hu]; rfl
    have hnb : (Value.slice (some ⟨w.heap.size + 1 + 1, 0, none⟩) 0 0).ownBlock ≠ some (w.heap.size + 1) := fun e => by have := (hown1.lt _ e).1; omega
    have hsz4 : w.heap.size + 1 < w4.heap.size := hs4.lt
    clear hown1 hb4 hs4
    go_wp2_with (at_builtin; refine wpList_append_own _ rfl _ _ 25 rfl (w.heap.size + 2) 9 i0 (.string ⟨#[]⟩) 1 16 Try.underlying25 hi hz0 hz1 hz2 rfl (by decide) _ _ _ rfl HO4.out ⟨w4.heap.size, 0, none⟩ 1 1 [strV b] rfl rfl Hnew.out hone1 ?c3 ?c4 ?c5 ?_)
    case c3 => unfold maxLen; omega
    case c4 => omega
    case c5 => rw [World.size_alloc]; omega
    intro v2 w5 hown2 hgr2 _
    have hs5 : Holds w5 (w.heap.size + 1) 27 [.slice none 0 0, .bool false] := (HS4.out.behind _).grown hgr2 (fun e => hnb e.symm)
    have hb5 : Below w.heap.size w w5 := ((HB4.out.alloc (by omega) _).grown hgr2 (by rw [World.size_alloc]; omega) (fun k hk => by have := (HO4.out.lt k hk).1; omega))
    have e0 := hs5.cell (i := 0) (by simp)
    have e1 := hs5.cell (i := 1) (by simp)
    have z0 := hs5.frozen 0
    have z1 := hs5.frozen 1
    have hne2 : v2.ownBlock ≠ some (w.heap.size + 1) := fun e => by have := (hown2.lt _ e).1; omega
    obtain ⟨ad2, n2, cap2, hv2⟩ : ∃ ad2 n2 cap2, v2 = .slice ad2 n2 cap2 := by
      rcases hown2.2 with ⟨hv, _⟩ | ⟨g2, c2, cu, hv, _⟩
      · exact ⟨_, _, _, hv⟩
      · exact ⟨_, _, _, hv⟩
    subst hv2
    have Hown := Lib.hid hown2
    have Hb5 := Lib.hid hb5
    have Hs5 := Lib.hid hs5
    clear hown2 hb5 hgr2 hs5
    have hp : Holds ((w5.setCell ⟨w.heap.size + 1, 0, none⟩ (.slice ad2 n2 cap2)).setCell ⟨w.heap.size + 1, 1, none⟩ (.bool false)) (w.heap.size + 1) 27 [.slice ad2 n2 cap2, .bool false] := by
      have := (Hs5.out.put 0 (.slice ad2 n2 cap2)).put 1 (.bool false)
      simpa using this
    have Hp := Lib.hid hp
    have hfin : OwnS ((w5.setCell ⟨w.heap.size + 1, 0, none⟩ (.slice ad2 n2 cap2)).setCell ⟨w.heap.size + 1, 1, none⟩ (.bool false)) B (.slice ad2 n2 cap2) ([] ++ [b]) := by
      have h1 : w5.ownsRow B 9 1 (.slice ad2 n2 cap2) ([] ++ [b]).length (([] ++ [b]).map strV) := by
        have h0 : w5.ownsRow (w.heap.size + 2) 9 1 (.slice ad2 n2 cap2) ([] ++ [b]).length (([] ++ [b]).map strV) := by simpa using Hown.out
        exact OwnS.le (L := [] ++ [b]) h0 (show B ≤ w.heap.size + 2 by omega)
      refine World.ownsRow.kept (row := some (w.heap.size + 1)) h1 ⟨rfl, rfl, rfl, by simp [World.setCell], fun k _ hk => ?_⟩ (.inr hne2)
      rw [Below.heap_setCell _ _ _ _ (fun e => hk (by simp [e])), Below.heap_setCell _ _ _ _ (fun e => hk (by simp [e]))]
    have Hfin := Lib.hid (And.intro ((Hb5.out.setCell (p := ⟨w.heap.size + 1, 0, none⟩) (by simp) (.slice ad2 n2 cap2)).setCell (p := ⟨w.heap.size + 1, 1, none⟩) (by simp) (.bool false)) hfin)
    clear hp hfin
    go_wp2
    exact bodyPost_ret (results_cs Try.results16 _ _ (w.heap.size + 1) _ #[.slice ad2 n2 cap2, .bool false] _ _ _ (by rfl) (by rfl) Hp.out Try.underlying27 rfl state_size) rfl ⟨Hfin.out.1, _, Hfin.out.2, rfl⟩
  · have hh := h
    have hgl : g < w.heap.size := by
      rcases Nat.lt_or_ge g w.heap.size with h' | h'
      · exact h'
      · rw [Array.getElem?_eq_none h'] at hg; cases hg
    have Hst := Lib.hid (hst (.slice (some ⟨g, 0, none⟩) L.length cap))
    have Hlit := Lib.hid (hlit (.slice (some ⟨g, 0, none⟩) L.length cap))
    have Hbl := Lib.hid (hbl (.slice (some ⟨g, 0, none⟩) L.length cap))
    have Hcells := Lib.hid (World.ownsRow.cells ((OwnS.step h ((hbl (.slice (some ⟨g, 0, none⟩) L.length cap)).mono (Nat.le_refl _) |> fun x => x))) (g := g) rfl)
    have hone : ∀ u ∈ L.map strV, u.oneCell' = true := by
      intro u hu
      obtain ⟨x, _, rfl⟩ := List.mem_map.1 hu
      rfl
    clear hst hlit hbl hbs h hh hrest hg
    go_enter Try.func16, Try.ntmps16
    go_wp2_with (at_builtin; refine wpList_append_own _ rfl _ _ 25 rfl (w.heap.size + 2) 9 i0 (.string ⟨#[]⟩) 1 16 Try.underlying25 hi hz0 hz1 hz2 rfl (by decide) _ _ _ rfl Hlit.out ⟨g, 0, none⟩ L.length cap (L.map strV) rfl (by simp) Hcells.out hone ?c3 ?c4 ?c5 ?_)
    case c3 => unfold maxLen; omega
    case c4 => omega
    case c5 => simp
    intro v1 w4 hown1 hgr1 _
    have hs4 : Holds w4 (w.heap.size + 1) 27 [.slice none 0 0, .bool false] := Hst.out.grown hgr1 (by simp [Value.ownBlock])
    have hb4 : Below w.heap.size w w4 := Hbl.out.grown hgr1 (by simp; omega) (fun k hk => by simp [Value.ownBlock] at hk; omega)
    clear hgr1
    have HB4 := Lib.hid hb4
    have HS4 := Lib.hid hs4
    have HO4 := Lib.hid (World.ownsRow.alloc hown1 (.cells #[strV b] 9))
    have Hnew := Lib.hid (fun j u (hj : [strV b][j]? = some u) => show (w4.alloc (.cells #[strV b] 9)).cell? ((⟨w4.heap.size, 0, none⟩ : Addr).add j) = some u by
      have hh := Holds.new w4 9 [strV b]
      have add_at : (⟨w4.heap.size, 0, none⟩ : Addr).add j = ⟨w4.heap.size, j, none⟩ := by unfold Addr.add; split <;> simp_all
      rw [add_at]
      have hj1 : j < 1 := by
        rcases Nat.lt_or_ge j 1 with hl | hl
        · exact hl
        · rw [List.getElem?_eq_none (by simpa using hl)] at hj; cases hj
      have := hh.cell (i := j) (by simpa using hj1)
      rw [List.getElem?_eq_getElem (by simpa using hj1)] at hj
      injection hj with hj
      rw [← hj]
      exact this)
    have hone1 : ∀ u ∈ [strV b], u.oneCell' = true := fun u hu => by rw [List.mem_singleton.1 hu]; rfl
    have hnb : v1.ownBlock ≠ some (w.heap.size + 1) := fun e => by have := (hown1.lt _ e).1; omega
    have hsz4 : w.heap.size + 1 < w4.heap.size := hs4.lt
    clear hown1 hb4 hs4
    go_wp2_with (at_builtin; refine wpList_append_own _ rfl _ _ 25 rfl (w.heap.size + 2) 9 i0 (.string ⟨#[]⟩) 1 16 Try.underlying25 hi hz0 hz1 hz2 rfl (by decide) _ _ _ rfl HO4.out ⟨w4.heap.size, 0, none⟩ 1 1 [strV b] rfl rfl Hnew.out hone1 ?c3 ?c4 ?c5 ?_)
    case c3 => unfold maxLen; omega
    case c4 => omega
    case c5 => rw [World.size_alloc]; omega
    intro v2 w5 hown2 hgr2 _
    have hs5 : Holds w5 (w.heap.size + 1) 27 [.slice none 0 0, .bool false] := (HS4.out.behind _).grown hgr2 (fun e => hnb e.symm)
    have hb5 : Below w.heap.size w w5 := ((HB4.out.alloc (by omega) _).grown hgr2 (by rw [World.size_alloc]; omega) (fun k hk => by have := (HO4.out.lt k hk).1; omega))
    have e0 := hs5.cell (i := 0) (by simp)
    have e1 := hs5.cell (i := 1) (by simp)
    have z0 := hs5.frozen 0
    have z1 := hs5.frozen 1
    have hne2 : v2.ownBlock ≠ some (w.heap.size + 1) := fun e => by have := (hown2.lt _ e).1; omega
    obtain ⟨ad2, n2, cap2, hv2⟩ : ∃ ad2 n2 cap2, v2 = .slice ad2 n2 cap2 := by
      rcases hown2.2 with ⟨hv, _⟩ | ⟨g2, c2, cu, hv, _⟩
      · exact ⟨_, _, _, hv⟩
      · exact ⟨_, _, _, hv⟩
    subst hv2
    have Hown := Lib.hid hown2
    have Hb5 := Lib.hid hb5
    have Hs5 := Lib.hid hs5
    clear hown2 hb5 hgr2 hs5
    have hp : Holds ((w5.setCell ⟨w.heap.size + 1, 0, none⟩ (.slice ad2 n2 cap2)).setCell ⟨w.heap.size + 1, 1, none⟩ (.bool false)) (w.heap.size + 1) 27 [.slice ad2 n2 cap2, .bool false] := by
      have := (Hs5.out.put 0 (.slice ad2 n2 cap2)).put 1 (.bool false)
      simpa using this
    have Hp := Lib.hid hp
    have hfin : OwnS ((w5.setCell ⟨w.heap.size + 1, 0, none⟩ (.slice ad2 n2 cap2)).setCell ⟨w.heap.size + 1, 1, none⟩ (.bool false)) B (.slice ad2 n2 cap2) (L ++ [b]) := by
      have h1 : w5.ownsRow B 9 1 (.slice ad2 n2 cap2) (L ++ [b]).length ((L ++ [b]).map strV) := by
        have h0 : w5.ownsRow (w.heap.size + 2) 9 1 (.slice ad2 n2 cap2) (L ++ [b]).length ((L ++ [b]).map strV) := by simpa using Hown.out
        exact OwnS.le (L := L ++ [b]) h0 (show B ≤ w.heap.size + 2 by omega)
      refine World.ownsRow.kept (row := some (w.heap.size + 1)) h1 ⟨rfl, rfl, rfl, by simp [World.setCell], fun k _ hk => ?_⟩ (.inr hne2)
      rw [Below.heap_setCell _ _ _ _ (fun e => hk (by simp [e])), Below.heap_setCell _ _ _ _ (fun e => hk (by simp [e]))]
    have Hfin := Lib.hid (And.intro ((Hb5.out.setCell (p := ⟨w.heap.size + 1, 0, none⟩) (by simp) (.slice ad2 n2 cap2)).setCell (p := ⟨w.heap.size + 1, 1, none⟩) (by simp) (.bool false)) hfin)
    clear hp hfin
    go_wp2
    exact bodyPost_ret (results_cs Try.results16 _ _ (w.heap.size + 1) _ #[.slice ad2 n2 cap2, .bool false] _ _ _ (by rfl) (by rfl) Hp.out Try.underlying27 rfl state_size) rfl ⟨Hfin.out.1, _, Hfin.out.2, rfl⟩
end
end Go.Proofs.Ytmblbmkkeloegaa
