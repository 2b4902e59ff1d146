/-
  A select with a default, by the caller alone, within a walk: a notion of what a code leads to for an ordinary call's frame, a rule for a sequence, for a region that opens with a select, and the way back to a call's contract. No row of the program is read here.
-/
import Derived.Test.YtmblbmkkeloegaaBase
import Derived.Conc.LoneSelect
import Derived.Conc.LoneSelectN
namespace Go.Proofs.Ytmblbmkkeloegaa
open Go.Conc Go.RowKit

/-- What a code leads to in a frame of an ordinary call. -/
def WpN (P : Program) (c : Code) (Q : Exit → Act → World → Prop) (a : Act) (w : World) : Prop :=
  ∀ (b : Frame) (k : List Item) (cs : List Frame), b.kind = .normal → ∃ e a' w', Q e a' w' ∧ Arrives P (lone (b.at a (.code c :: k)) cs w) b k cs e a' w'

section
variable {P : Program} {Q : Exit → Act → World → Prop} {a : Act} {w : World}

theorem WpN.of {c : Code} (h : c.wp P Q a w) : WpN P c Q a w := fun b k cs _ => h b k cs

theorem Arrives.behind {m : Machine} {b : Frame} {y : Code} {k : List Item} {cs : List Frame} {e : Exit} {a' : Act} {w' : World} (hne : e ≠ .normal)
    (h : Arrives P m b (.code y :: k) cs e a' w') : Arrives P m b k cs e a' w' :=
  Arrives.pass (x := .code y) rfl (fun _ _ => .inl hne) h

/-- A sequence, of which the first may hold a select. -/
theorem WpN.seq {x y : Code} (h : WpN P x (Exit.then (WpN P y Q) Q) a w) : WpN P (.seq x y) Q a w := by
  intro b k cs hk
  obtain ⟨e, a1, w1, hq, harr⟩ := h b (.code y :: k) cs hk
  by_cases hn : e = .normal
  · subst hn
    obtain ⟨e2, a2, w2, hq2, harr2⟩ := hq b k cs hk
    exact ⟨e2, a2, w2, hq2, .of_steps (.head step_seq harr) harr2⟩
  · refine ⟨e, a1, w1, ?_, .of_steps (.one step_seq) (Arrives.behind hn harr)⟩
    cases e <;> first | exact absurd rfl hn | exact hq

/-- A sequence, of which the first holds none. -/
theorem WpN.seq_wp {x y : Code} (h : ∀ K : Act → World → Prop, (∀ a w, WpN P y Q a w → K a w) → x.wp P (Exit.then K Q) a w) : WpN P (.seq x y) Q a w :=
  WpN.seq (WpN.of (h _ fun _ _ h => h))

theorem calls_of_WpN {f : FuncId} {fn : Func} {c : Code} {args : Array Value} {R : Ending → World → Prop} (hf : P.funcs[f]? = some fn) (hb : fn.body = some c)
    (h : WpN P c (bodyPost P fn R) { tmps := args ++ Array.replicate (fn.ntmps - args.size) undef, defers := [] } w) : Calls P f args w R := by
  intro cs
  let b : Frame := { (default : Frame) with fn := f, kind := .normal }
  have henter : Frame.enter P f args .normal = b.at { tmps := args ++ Array.replicate (fn.ntmps - args.size) undef, defers := [] } [.code c] := by
    simp [Frame.enter, Frame.at, hf, hb, b]
  obtain ⟨e, a', w', hq, harr⟩ := h b [] cs rfl
  rw [← henter] at harr
  rcases e with _ | _ | _ | _ | _ | _
  · obtain ⟨hd, v, hr, hR⟩ := hq
    exact ⟨.returned v, w', _, hR, Steps.trans harr (.one step_end), rfl, rfl, hd, rfl, fn, hf, hr⟩
  · exact hq.elim
  · exact hq.elim
  · obtain ⟨hd, v, hr, hR⟩ := hq
    obtain ⟨todo, hs⟩ := harr
    exact ⟨.returned v, w', _, hR, hs, rfl, rfl, hd, rfl, fn, hf, hr⟩
  · obtain ⟨hd, hR⟩ := hq
    obtain ⟨todo, hs⟩ := harr
    exact ⟨_, w', _, hR, hs, rfl, rfl, hd, fn, hf⟩
  · exact ⟨.outgrown, w', b, hq, harr.resolve_left (by simp [b]), rfl, trivial⟩

/-- A region whose first operation is one step of the machine's, that hands over v. -/
theorem WpN.first {id : Nat} {s : Oper} {l : List Oper} {v : Value} {w1 : World}
    (hstep : ∀ (b : Frame) (k : List Item) (cs : List Frame), b.kind = .normal →
      step P (lone (b.at a (.inRegion (s :: l).toArray (0 :: List.range' 1 l.length) :: k)) cs w) = .next (lone ((b.at a (.inRegion (s :: l).toArray (0 :: List.range' 1 l.length) :: k)).finish v) cs w1))
    (h : wpList P (s :: l).toArray Q l (a.put s.dst v) w1) : WpN P (.region id (s :: l).toArray false) Q a w := by
  intro b k cs hk
  have hl : wpOps P (s :: l).toArray Q (List.range' 1 l.length) (a.put s.dst v) w1 := by
    rw [wpOps_eq_wpList l 1 (fun j => by simp [Nat.add_comm 1 j])]
    exact h
  obtain ⟨e, a', w', hq, harr⟩ := wp_ops _ _ _ hl b k cs
  refine ⟨e, a', w', hq, .of_steps (.head step_region (.one ?_)) harr⟩
  have hs := hstep b k cs hk
  rw [Frame.finish_at] at hs
  have hr : List.range (s :: l).toArray.size = 0 :: List.range' 1 l.length := by
    simp [List.range_eq_range', List.range'_succ]
  rw [hr]
  simpa using hs

variable {c cap sn r : Nat} {buf : Array Value} {z z' v : Value} {tm closed : Bool}

section
variable {id : Nat} {s : Oper} {l : List Oper}
/-- A receive or the default: something waits. -/
theorem WpN.recv_some (hg : s.guard = none) (hr : (execOp a.eval s).run P w = .ok (.comm #[rcase c z] false .select) w) (hc : w.heap[c]? = some (.chan cap buf closed sn r tm)) (hsome : 0 < buf.size)
    (h : wpList P (s :: l).toArray Q l (a.put s.dst (.tuple #[goInt 0, .bool true, buf.getD 0 undef])) (w.setChan c cap (buf.extract 1 buf.size) closed sn (r + 1) tm)) :
    WpN P (.region id (s :: l).toArray false) Q a w :=
  WpN.first (fun _ _ _ hk => by
    rw [lone_eq_solo, lone_eq_solo]
    exact step_lone_select_recv_buf (stepG_comm (by rfl) (by simp [Region.wanted, hg]) (by rw [hk]; decide) hr) hc hsome) h

/-- A receive or the default: nothing waits. -/
theorem WpN.recv_none (hg : s.guard = none) (hr : (execOp a.eval s).run P w = .ok (.comm #[rcase c z] false .select) w) (hc : w.heap[c]? = some (.chan cap #[] false sn r tm))
    (h : wpList P (s :: l).toArray Q l (a.put s.dst (.tuple #[goInt (-1), .bool false, z])) w) :
    WpN P (.region id (s :: l).toArray false) Q a w :=
  WpN.first (fun _ _ _ hk => by
    rw [lone_eq_solo, lone_eq_solo]
    exact step_lone_select_default (stepG_comm (by rfl) (by simp [Region.wanted, hg]) (by rw [hk]; decide) hr) hc) h

/-- A send or the default: there is room. -/
theorem WpN.send_room (hg : s.guard = none) (hr : (execOp a.eval s).run P w = .ok (.comm #[scase c v z'] false .select) w) (hc : w.heap[c]? = some (.chan cap buf false sn r tm)) (hroom : buf.size < cap)
    (h : wpList P (s :: l).toArray Q l (a.put s.dst (.tuple #[goInt 0, .bool false])) (w.setChan c cap (buf.push v) false (sn + 1) r tm)) :
    WpN P (.region id (s :: l).toArray false) Q a w :=
  WpN.first (fun _ _ _ hk => by
    rw [lone_eq_solo, lone_eq_solo]
    exact step_lone_select_send_room (stepG_comm (by rfl) (by simp [Region.wanted, hg]) (by rw [hk]; decide) hr) hc hroom) h

/-- A send or the default: there is no room. -/
theorem WpN.send_full (hg : s.guard = none) (hr : (execOp a.eval s).run P w = .ok (.comm #[scase c v z'] false .select) w) (hc : w.heap[c]? = some (.chan cap buf false sn r tm)) (hfull : cap ≤ buf.size)
    (h : wpList P (s :: l).toArray Q l (a.put s.dst (.tuple #[goInt (-1), .bool false])) w) :
    WpN P (.region id (s :: l).toArray false) Q a w :=
  WpN.first (fun _ _ _ hk => by
    rw [lone_eq_solo, lone_eq_solo]
    exact step_lone_select_send_full (stepG_comm (by rfl) (by simp [Region.wanted, hg]) (by rw [hk]; decide) hr) hc hfull) h
end
end

/-! A channel's block. -/
def ChanAt (w : World) (c cap : Nat) (buf : Array Value) : Prop := ∃ sn r : Nat, w.heap[c]? = some (.chan cap buf false sn r false)

theorem setChan_other {w : World} {c cap : Nat} {buf : Array Value} {cl tm : Bool} {sn r : Nat} {k : Nat} (h : c ≠ k) : (w.setChan c cap buf cl sn r tm).heap[k]? = w.heap[k]? := by
  simp [World.setChan, Array.getElem?_setIfInBounds_ne h]
end Go.Proofs.Ytmblbmkkeloegaa
