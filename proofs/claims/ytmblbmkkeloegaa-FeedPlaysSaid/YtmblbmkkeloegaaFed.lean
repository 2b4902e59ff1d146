/-
  Contracts of package feed: chunks that wait in a channel.
-/
import Derived.Test.YtmblbmkkeloegaaSel
import Derived.Test.YtmblbmkkeloegaaFedP
import Derived.Test.YtmblbmkkeloegaaDrew
import Derived.Test.YtmblbmkkeloegaaChecked
namespace Go.Proofs.Ytmblbmkkeloegaa
open Go.ChangeShapes Go.WideShapes Go.ChangeAt Go.RowKit Go.Conc

/-- A feed in block f, its channel in block c: the first chunk (empty: none), those behind it, how many bytes, and whether it is closed. -/
def FeedRaw (w : World) (f c : Nat) (fst : List UInt8) (buf : List (List UInt8)) (n : Int) (cl : Bool) : Prop :=
  Holds w f 44 [strV fst, .chan (some c), .int .i64 n, .bool cl] ∧ ∃ sn r : Nat, w.heap[c]? = some (.chan 63 (buf.map strV).toArray false sn r false)

/-- Blocks but for two of them are as they were. -/
structure FKeep (f c : Nat) (w w' : World) : Prop where
  os : w'.os = w.os
  tape : w'.tape = w.tape
  output : w'.output = w.output
  size : w.heap.size ≤ w'.heap.size
  block : ∀ k, k < w.heap.size → k ≠ f → k ≠ c → w'.heap[k]? = w.heap[k]?

theorem FKeep.refl (f c : Nat) (w : World) : FKeep f c w w := ⟨rfl, rfl, rfl, Nat.le_refl _, fun _ _ _ _ => rfl⟩
theorem FKeep.trans {f c : Nat} {w1 w2 w3 : World} (h : FKeep f c w1 w2) (k : FKeep f c w2 w3) : FKeep f c w1 w3 :=
  ⟨k.os.trans h.os, k.tape.trans h.tape, k.output.trans h.output, Nat.le_trans h.size k.size, fun i hi hf hc => (k.block i (Nat.lt_of_lt_of_le hi h.size) hf hc).trans (h.block i hi hf hc)⟩
theorem FKeep.of_below {f c : Nat} {w w' : World} (h : Below w.heap.size w w') : FKeep f c w w' := ⟨h.os, h.tape, h.output, h.size, fun k hk _ _ => h.block k hk⟩
theorem FKeep.below {B f c : Nat} {w w' : World} (h : FKeep f c w w') (hB : B ≤ w.heap.size) (hf : B ≤ f) (hc : B ≤ c) : Below B w w' :=
  ⟨h.os, h.tape, h.output, h.size, fun k hk => h.block k (by omega) (by omega) (by omega)⟩
theorem FKeep.setCell {f c : Nat} {w w' : World} (h : FKeep f c w w') (i : Nat) (v : Value) : FKeep f c w (w'.setCell ⟨f, i, none⟩ v) :=
  ⟨h.os, h.tape, h.output, by simpa [World.setCell] using h.size, fun k hk hf hc => (Below.heap_setCell w' ⟨f, i, none⟩ v k (fun e => hf e)).trans (h.block k hk hf hc)⟩
theorem FKeep.setChan {f c : Nat} {w w' : World} (h : FKeep f c w w') (cap : Nat) (buf : Array Value) (cl : Bool) (s r : Nat) (tm : Bool) : FKeep f c w (w'.setChan c cap buf cl s r tm) :=
  ⟨h.os, h.tape, h.output, by rw [size_setChan]; exact h.size, fun k hk hf hc => (setChan_other (fun e => hc e.symm)).trans (h.block k hk hf hc)⟩
theorem FKeep.holds {f c g : Nat} {t : TypeId} {cs : List Value} {w w' : World} (h : FKeep f c w w') (hh : Holds w g t cs) (hf : g ≠ f) (hc : g ≠ c) : Holds w' g t cs := (h.block g hh.lt hf hc).trans hh

theorem Holds.setChan {w : World} {g c cap : Nat} {t : TypeId} {cs : List Value} {buf : Array Value} {cl tm : Bool} {s r : Nat} (h : Holds w g t cs) (hne : c ≠ g) : Holds (w.setChan c cap buf cl s r tm) g t cs := (setChan_other hne).trans h

section
variable {w : World} {f c : Nat} {fst : List UInt8} {buf : List (List UInt8)} {n : Int} {cl : Bool}
theorem FeedRaw.ne (h : FeedRaw w f c fst buf n cl) : f ≠ c := by
  intro e
  subst e
  obtain ⟨h1, s, r, h2⟩ := h
  unfold Holds at h1
  rw [h1] at h2
  cases h2
theorem FeedRaw.flt (h : FeedRaw w f c fst buf n cl) : f < w.heap.size := h.1.lt
theorem FeedRaw.clt (h : FeedRaw w f c fst buf n cl) : c < w.heap.size := by
  obtain ⟨_, s, r, h2⟩ := h
  rcases Nat.lt_or_ge c w.heap.size with hl | hl
  · exact hl
  · rw [Array.getElem?_eq_none hl] at h2; cases h2
theorem FeedRaw.below {B : Nat} {w' : World} (h : FeedRaw w f c fst buf n cl) (hb : Below B w w') (hf : f < B) (hc : c < B) : FeedRaw w' f c fst buf n cl :=
  ⟨h.1.under hb hf, h.2.imp fun _ h => h.imp fun _ h => (hb.block c hc).trans h⟩
theorem FeedRaw.under {w' : World} (h : FeedRaw w f c fst buf n cl) (hb : Below w.heap.size w w') : FeedRaw w' f c fst buf n cl := h.below hb h.flt h.clt
theorem FeedRaw.c0 (h : FeedRaw w f c fst buf n cl) : w.cell? ⟨f, 0, none⟩ = some (strV fst) := h.1.cell (i := 0) (by simp)
theorem FeedRaw.c1 (h : FeedRaw w f c fst buf n cl) : w.cell? ⟨f, 1, none⟩ = some (.chan (some c)) := h.1.cell (i := 1) (by simp)
theorem FeedRaw.c2 (h : FeedRaw w f c fst buf n cl) : w.cell? ⟨f, 2, none⟩ = some (.int .i64 n) := h.1.cell (i := 2) (by simp)
theorem FeedRaw.c3 (h : FeedRaw w f c fst buf n cl) : w.cell? ⟨f, 3, none⟩ = some (.bool cl) := h.1.cell (i := 3) (by simp)
theorem FeedRaw.put0 (h : FeedRaw w f c fst buf n cl) (l : List UInt8) : FeedRaw (w.setCell ⟨f, 0, none⟩ (strV l)) f c l buf n cl :=
  ⟨by have := h.1.put 0 (strV l); simpa using this, h.2.imp fun _ h2 => h2.imp fun _ h2 => (Below.heap_setCell w ⟨f, 0, none⟩ _ c (fun e => h.ne e.symm)).trans h2⟩
theorem FeedRaw.put2 (h : FeedRaw w f c fst buf n cl) (m : Int) : FeedRaw (w.setCell ⟨f, 2, none⟩ (.int .i64 m)) f c fst buf m cl :=
  ⟨by have := h.1.put 2 (.int .i64 m); simpa using this, h.2.imp fun _ h2 => h2.imp fun _ h2 => (Below.heap_setCell w ⟨f, 2, none⟩ _ c (fun e => h.ne e.symm)).trans h2⟩
theorem FeedRaw.put3 (h : FeedRaw w f c fst buf n cl) (b : Bool) : FeedRaw (w.setCell ⟨f, 3, none⟩ (.bool b)) f c fst buf n b :=
  ⟨by have := h.1.put 3 (.bool b); simpa using this, h.2.imp fun _ h2 => h2.imp fun _ h2 => (Below.heap_setCell w ⟨f, 3, none⟩ _ c (fun e => h.ne e.symm)).trans h2⟩
end

set_option maxRecDepth 100000 in
theorem next_some {w : World} {f c : Nat} {fst t : List UInt8} {ts : List (List UInt8)} {n : Int} {cl : Bool} (h : FeedRaw w f c fst (t :: ts) n cl) :
    Calls Try.prog 19 #[.pointer (some ⟨f, 0, none⟩)] w fun e w' => (FeedRaw w' f c fst ts n cl ∧ FKeep f c w w' ∧ w'.heap.size = w.heap.size) ∧ e = .returned (strV t) := by
  have c1 := h.c1
  obtain ⟨sn, r, hc⟩ := h.2
  have Hh := Lib.hid h
  have hclt := h.clt
  clear h
  refine calls_of_WpN Try.func19 rfl ?_
  simp only [Try.ntmps19, List.size_toArray, List.length_cons, List.length_nil, Nat.reduceAdd, Nat.reduceSub, Array.replicate_succ, Array.replicate_zero, List.push_toArray, List.append_toArray, List.nil_append, List.cons_append]
  refine WpN.seq_wp (fun K hK => ?_)
  go_wp2
  refine WpN.seq_wp (fun K hK => ?_)
  go_wp2
  refine WpN.seq ?_
  refine WpN.recv_some (c := c) (z := .string ⟨#[]⟩) rfl (by simp [go_sem, execOp, rcase, Act.eval]) hc (by simp) ?_
  go_wp2
  refine WpN.of ?_
  go_wp2
  have hcw : (w.setChan c 63 (List.take ts.length (List.map strV ts)).toArray false sn (r + 1) false).heap[c]? = some (.chan 63 (ts.map strV).toArray false sn (r + 1) false) := by
    rw [heap_setChan _ _ _ _ _ _ _ _ hclt, List.take_of_length_le (by simp)]
  generalize List.take ts.length (List.map strV ts) = q at *
  go_ret
  exact ⟨⟨⟨Hh.out.1.setChan (fun e => Hh.out.ne e.symm), sn, r + 1, hcw⟩, (FKeep.refl f c w).setChan _ _ _ _ _ _, size_setChan _ _ _ _ _ _ _ _⟩, rfl⟩

set_option maxRecDepth 100000 in
theorem next_none {w : World} {f c : Nat} {fst : List UInt8} {n : Int} {cl : Bool} (h : FeedRaw w f c fst [] n cl) :
    Calls Try.prog 19 #[.pointer (some ⟨f, 0, none⟩)] w fun e w' => w = w' ∧ e = .returned (strV []) := by
  have c1 := h.c1
  obtain ⟨sn, r, hc⟩ := h.2
  clear h
  refine calls_of_WpN Try.func19 rfl ?_
  simp only [Try.ntmps19, List.size_toArray, List.length_cons, List.length_nil, Nat.reduceAdd, Nat.reduceSub, Array.replicate_succ, Array.replicate_zero, List.push_toArray, List.append_toArray, List.nil_append, List.cons_append]
  refine WpN.seq_wp (fun K hK => ?_)
  go_wp2
  refine WpN.seq_wp (fun K hK => ?_)
  go_wp2
  refine WpN.seq ?_
  refine WpN.recv_none (c := c) (z := .string ⟨#[]⟩) rfl (by simp [go_sem, execOp, rcase, Act.eval]) hc ?_
  go_wp2
  refine WpN.of ?_
  go_wp2
  go_ret
  exact ⟨rfl, rfl⟩

/-- A feed on which these chunks wait. -/
def FeedL (w : World) (f c : Nat) (M : List (List UInt8)) (n : Int) (cl : Bool) : Prop := FeedRaw w f c (headL M) M.tail n cl

/-- What 'next' leaves, told for the first chunk's place. -/
theorem next_any {w : World} {f c : Nat} {fst : List UInt8} {buf : List (List UInt8)} {n : Int} {cl : Bool} (h : FeedRaw w f c fst buf n cl) :
    Calls Try.prog 19 #[.pointer (some ⟨f, 0, none⟩)] w fun e w' => (FeedRaw w' f c fst buf.tail n cl ∧ FKeep f c w w' ∧ w'.heap.size = w.heap.size) ∧ e = .returned (strV (headL buf)) := by
  cases buf with
  | nil => exact (next_none h).mono fun e w' ⟨hw, he⟩ => ⟨hw ▸ ⟨h, FKeep.refl _ _ _, rfl⟩, he⟩
  | cons t ts => exact next_some h

theorem drop_any {w : World} {f c : Nat} {fst : List UInt8} {buf : List (List UInt8)} {n : Int} {cl : Bool} (h : FeedRaw w f c fst buf n cl) (k : Nat) (hk : k ≤ fst.length) :
    Calls Try.prog 22 #[.pointer (some ⟨f, 0, none⟩), .int .i64 k] w fun e w' => (FeedL w' f c (stepL (fst :: buf) k) n cl ∧ FKeep f c w w' ∧ w'.heap.size = w.heap.size) ∧ e = .returned (.tuple #[]) := by
  have c0 := h.c0
  have f0 := h.1.frozen 0
  have hkl : (k : Int) ≤ fst.length := by omega
  have Hput := h.put0 (fst.drop k)
  have Hc0 := Hput.c0
  have Hks := (FKeep.refl f c w).setCell 0 (strV (fst.drop k))
  have Hsz : (w.setCell ⟨f, 0, none⟩ (strV (fst.drop k))).heap.size = w.heap.size := by simp [World.setCell]
  have Hst := Lib.hid (stepL_cons fst buf k)
  clear h
  by_cases hlt : k < fst.length
  · rw [if_pos hlt] at Hst
    have hlen : 0 < (fst.drop k).length := by rw [List.length_drop]; omega
    generalize stepL (fst :: buf) k = S at *
    have hcut : (fst.drop k).take (fst.length - k) = fst.drop k := take_drop_len _ _
    obtain ⟨x, d, hd⟩ : ∃ x d, fst.drop k = x :: d := by
      cases hq : fst.drop k with
      | nil => rw [hq] at hlen; simp at hlen
      | cons x d => exact ⟨x, d, rfl⟩
    rw [hd] at Hput Hc0 Hks Hsz Hst hcut
    have hcut : (fst.drop k).take (fst.length - k) = x :: d := by rw [hd]; exact hcut
    have Hst := Lib.hid Hst
    have Hput := Lib.hid Hput
    have Hks := Lib.hid Hks
    have Hsz := Lib.hid Hsz
    clear hd hlen
    go_enter Try.func22, Try.ntmps22
    go_wp2
    go_end0
    refine ⟨⟨?_, Hks.out, Hsz.out⟩, rfl⟩
    rw [Hst.out.out]
    exact Hput.out
  · rw [if_neg hlt] at Hst
    have hke : k = fst.length := by omega
    generalize stepL (fst :: buf) k = S at *
    have hd : fst.drop k = [] := List.drop_of_length_le (by omega)
    have hcut : (fst.drop k).take (fst.length - k) = [] := by rw [hd]; simp
    rw [hd] at Hput Hc0 Hks Hsz
    have Hn := Lib.hid (next_any Hput)
    have Hst := Lib.hid Hst
    have Hks := Lib.hid Hks
    have Hsz := Lib.hid Hsz
    clear hd Hput hlt
    obtain ⟨t, ht⟩ : ∃ t, headL buf = t := ⟨_, rfl⟩
    obtain ⟨ts, hts⟩ : ∃ ts, buf.tail = ts := ⟨_, rfl⟩
    have Hq := Lib.hid (show FeedL = fun w f c M n cl => FeedRaw w f c (headL M) M.tail n cl from rfl)
    rw [ht, hts] at Hn
    have Hts := Lib.hid (And.intro ht hts)
    clear ht hts
    go_enter Try.func22, Try.ntmps22
    go_wp2_with fail
    refine Hn.out.mono ?_
    rintro e w2 ⟨⟨hr, hk2, hs⟩, rfl⟩
    have f0 := hr.1.frozen 0
    have d0 := hr.c0
    have Hr := Lib.hid (hr.put0 t)
    have Hk2 := Lib.hid ((Hks.out.trans hk2).setCell 0 (strV t))
    have Hs := Lib.hid (show (w2.setCell ⟨f, 0, none⟩ (strV t)).heap.size = w.heap.size by rw [← Hsz.out, ← hs]; simp [World.setCell])
    clear hr hk2 hs
    go_wp2
    go_end0
    refine ⟨⟨?_, Hk2.out, Hs.out⟩, rfl⟩
    rw [Hst.out.out]
    show FeedRaw _ _ _ (headL buf) buf.tail n cl
    rw [Hts.out.1, Hts.out.2]
    exact Hr.out

/-! Asking a feed. -/
theorem len_any {w : World} {f c : Nat} {M : List (List UInt8)} {n : Int} {cl : Bool} (h : FeedL w f c M n cl) :
    Calls Try.prog 9 #[.pointer (some ⟨f, 0, none⟩)] w fun e w' => w = w' ∧ e = .returned (.int .i64 n) := by
  have c2 := h.c2
  clear h
  go_enter Try.func9, Try.ntmps9
  go_wp2
  go_ret
  exact ⟨rfl, rfl⟩

theorem closed_any {w : World} {f c : Nat} {M : List (List UInt8)} {n : Int} {cl : Bool} (h : FeedL w f c M n cl) :
    Calls Try.prog 12 #[.pointer (some ⟨f, 0, none⟩)] w fun e w' => w = w' ∧ e = .returned (.bool cl) := by
  have c3 := h.c3
  clear h
  go_enter Try.func12, Try.ntmps12
  go_wp2
  go_ret
  exact ⟨rfl, rfl⟩

theorem chunks_any {w : World} {f c : Nat} {M : List (List UInt8)} {n : Int} {cl : Bool} (h : FeedL w f c M n cl) (hM : Full M) (hl : M.length ≤ 64) :
    Calls Try.prog 11 #[.pointer (some ⟨f, 0, none⟩)] w fun e w' => w = w' ∧ e = .returned (.int .i64 M.length) := by
  cases M with
  | nil =>
    have c0 := h.c0
    clear h
    go_enter Try.func11, Try.ntmps11
    go_wp2
    go_ret
    exact ⟨rfl, rfl⟩
  | cons x M =>
    have c0 := h.c0
    have c1 := h.c1
    obtain ⟨sn, r, hc⟩ := h.2
    have hx := hM.head
    obtain ⟨y, ys, rfl⟩ : ∃ y ys, x = y :: ys := by
      cases x with
      | nil => simp at hx
      | cons y ys => exact ⟨y, ys, rfl⟩
    have hlen := fun ty => run_len_chan (P := Try.prog) (w := w) 42 ty Try.underlying42 hc
    have hsz : (M.map strV).toArray.size = M.length := by simp
    simp only [List.tail_cons, List.length_cons] at hlen hc hl
    rw [hsz] at hlen
    clear h hM hx hc hsz
    have e0 : headL ((y :: ys) :: M) = y :: ys := rfl
    rw [e0] at c0
    go_enter Try.func11, Try.ntmps11
    go_wp2
    go_ret
    exact ⟨rfl, ret_int (by simp; omega)⟩

/-! Closing a feed. -/
theorem close_any {w : World} {f c : Nat} {M : List (List UInt8)} {n : Int} {cl : Bool} (h : FeedL w f c M n cl) :
    Calls Try.prog 18 #[.pointer (some ⟨f, 0, none⟩)] w fun e w' => (FeedL w' f c M n true ∧ FKeep f c w w') ∧ e = .returned (.int .i64 (if cl then 10 else 0)) := by
  have c3 := h.c3
  have f3 := h.1.frozen 3
  have Hh := Lib.hid h
  have Hp := Lib.hid (h.put3 true)
  have Hk := Lib.hid ((FKeep.refl f c w).setCell 3 (.bool true))
  clear h
  cases cl
  · go_enter Try.func18, Try.ntmps18
    go_wp2
    go_ret
    exact ⟨⟨Hp.out, Hk.out⟩, rfl⟩
  · go_enter Try.func18, Try.ntmps18
    go_wp2
    go_ret
    exact ⟨⟨Hh.out, FKeep.refl _ _ _⟩, rfl⟩

/-! A new feed. -/
theorem str_info : ∃ i, Try.prog.info? 9 = some i ∧ i.bytes = 16 := by
  have h : (Try.prog.info? 9).map (·.bytes) = some 16 := by kernel_rfl
  obtain ⟨i, hi, hb⟩ := Option.map_eq_some_iff.1 h
  exact ⟨i, hi, hb⟩
theorem mk_chan (w : World) : (Instr.makeChan 42 (.int .i64 63)).run Try.prog w = .ok (.chan (some w.heap.size)) (w.alloc (.chan 63 #[] false 0 0 false)) := by
  obtain ⟨i, hi, hb⟩ := str_info
  simpa using run_makeChan (P := Try.prog) (w := w) Try.underlying42 hi .i64 63 (by omega) (by rw [hb]; omega)

theorem new_any (w : World) :
    Calls Try.prog 6 #[] w fun e w' => ∃ f c, (FeedL w' f c [] 0 false ∧ Below w.heap.size w w' ∧ w.heap.size ≤ f ∧ w.heap.size ≤ c) ∧ e = .returned (.pointer (some ⟨f, 0, none⟩)) := by
  have hmc := mk_chan w
  go_enter Try.func6, Try.ntmps6
  go_wp2
  go_ret
  refine ⟨w.heap.size + 1, w.heap.size, ⟨⟨?_, 0, 0, ?_⟩, ?_, by omega, Nat.le_refl _⟩, rfl⟩
  · have := Holds.new (w.alloc (.chan 63 #[] false 0 0 false)) 44 [strV [], .chan (some w.heap.size), .int .i64 0, .bool false]
    rw [World.size_alloc] at this
    exact this
  · rw [Below.heap_alloc _ _ _ (by simp)]
    exact heap_alloc_new w _
  · exact ((Below.refl _ w).alloc (Nat.le_refl _) _).alloc (by simp) _

/-! Letting a chunk wait. -/
section
variable {w : World} {f c : Nat} {M : List (List UInt8)} {n : Int} {cl : Bool} {p : Option Addr} {cap : Nat}

theorem put_long (m : Nat) (hm : 65536 < m) (hm2 : m ≤ 9223372036854775807) :
    Calls Try.prog 13 #[.pointer (some ⟨f, 0, none⟩), .slice p m cap] w fun e w' => w = w' ∧ e = .returned (.int .i64 12) := by
  have hm3 : (65536 : Int) < m := by omega
  go_enter Try.func13, Try.ntmps13
  go_wp2
  go_ret
  exact ⟨rfl, rfl⟩
end
end Go.Proofs.Ytmblbmkkeloegaa
