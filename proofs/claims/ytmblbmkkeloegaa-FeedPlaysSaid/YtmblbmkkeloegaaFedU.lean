/-
  Contract of (*feed.Feed).Put.
-/
import Derived.Test.YtmblbmkkeloegaaFed
namespace Go.Proofs.Ytmblbmkkeloegaa
open Go.ChangeShapes Go.WideShapes Go.ChangeAt Go.RowKit Go.Conc

section
variable {w : World} {f c : Nat} {M : List (List UInt8)} {n : Int} {cl : Bool} {p : Option Addr} {cap : Nat}

set_option maxRecDepth 100000 in
theorem put_closed (h : FeedL w f c M n true) (m : Nat) (hm : m ≤ 65536) :
    Calls Try.prog 13 #[.pointer (some ⟨f, 0, none⟩), .slice p m cap] w fun e w' => w = w' ∧ e = .returned (.int .i64 10) := by
  have hm3 : (m : Int) ≤ 65536 := by omega
  have c3 := h.c3
  clear h
  go_enter Try.func13, Try.ntmps13
  go_wp2
  go_ret
  exact ⟨rfl, rfl⟩

theorem put_empty (h : FeedL w f c M n false) :
    Calls Try.prog 13 #[.pointer (some ⟨f, 0, none⟩), .slice p 0 cap] w fun e w' => w = w' ∧ e = .returned (.int .i64 0) := by
  have c3 := h.c3
  clear h
  go_enter Try.func13, Try.ntmps13
  go_wp2
  go_ret
  exact ⟨rfl, rfl⟩

set_option maxRecDepth 100000 in
theorem put_full (h : FeedL w f c M n false) (b : List UInt8) (hb : b.length ≤ 65536) (hb0 : 0 < b.length) (hM : 64 ≤ M.length)
    (hcv : (convert 36 9 (.slice p b.length cap)).run Try.prog w = .ok (strV b) w) :
    Calls Try.prog 13 #[.pointer (some ⟨f, 0, none⟩), .slice p b.length cap] w fun e w' => w = w' ∧ e = .returned (.int .i64 8) := by
  have hb1 : (b.length : Int) ≤ 65536 := by omega
  have hb2 : ((b.length : Int) == 0) = false := by rw [beq_eq_false_iff_ne]; omega
  have c1 := h.c1
  have c3 := h.c3
  obtain ⟨sn, r, hc⟩ := h.2
  have hfull : 63 ≤ (M.tail.map strV).toArray.size := by simp; omega
  clear h hM
  refine calls_of_WpN Try.func13 rfl ?_
  simp only [Try.ntmps13, List.size_toArray, List.length_cons, List.length_nil, Nat.reduceAdd, Nat.reduceSub, Array.replicate_succ, Array.replicate_zero, List.push_toArray, List.append_toArray, List.nil_append, List.cons_append]
  refine WpN.seq_wp (fun K hK => ?_)
  go_wp2
  refine WpN.seq_wp (fun K hK => ?_)
  go_wp2
  refine WpN.seq ?_
  refine WpN.seq_wp (fun K hK => ?_)
  go_wp2
  refine WpN.seq ?_
  refine WpN.send_full (c := c) (v := strV b) (z' := .string ⟨#[]⟩) rfl (by simp [go_sem, execOp, scase, Act.eval]) hc hfull ?_
  go_wp2
  refine WpN.of ?_
  go_wp2
  go_ret
  exact ⟨rfl, rfl⟩

theorem put_sent (h : FeedL w f c M n cl) (b : List UInt8) (sn r : Nat) :
    FeedRaw (w.setChan c 63 ((M.tail.map strV).toArray.push (strV b)) false (sn + 1) r false) f c (headL M) (M.tail ++ [b]) n cl ∧
      FKeep f c w (w.setChan c 63 ((M.tail.map strV).toArray.push (strV b)) false (sn + 1) r false) := by
  refine ⟨⟨h.1.setChan (fun e => h.ne e.symm), sn + 1, r, ?_⟩, (FKeep.refl f c w).setChan _ _ _ _ _ _⟩
  rw [heap_setChan _ _ _ _ _ _ _ _ h.clt]
  simp

set_option maxRecDepth 100000 in
theorem put_room (h : FeedL w f c M n false) (hF : Full M) (b : List UInt8) (hb : b.length ≤ 65536) (hb0 : 0 < b.length) (hM : M.length < 64) (hn : 0 ≤ n) (hn2 : n ≤ 4294967296)
    (hcv : (convert 36 9 (.slice p b.length cap)).run Try.prog w = .ok (strV b) w) :
    Calls Try.prog 13 #[.pointer (some ⟨f, 0, none⟩), .slice p b.length cap] w fun e w' => (FeedL w' f c (M ++ [b]) (n + b.length) false ∧ FKeep f c w w') ∧ e = .returned (.int .i64 0) := by
  have hb1 : (b.length : Int) ≤ 65536 := by omega
  have hb2 : ((b.length : Int) == 0) = false := by rw [beq_eq_false_iff_ne]; omega
  have c1 := h.c1
  have c3 := h.c3
  obtain ⟨sn, r, hc⟩ := h.2
  have hroom : (M.tail.map strV).toArray.size < 63 := by simp; omega
  obtain ⟨hr1, hk1⟩ := put_sent h b sn r
  obtain ⟨w1, hw1⟩ : ∃ w1, w.setChan c 63 ((M.tail.map strV).toArray.push (strV b)) false (sn + 1) r false = w1 := ⟨_, rfl⟩
  rw [hw1] at hr1 hk1
  have Hw1 := Lib.hid hw1
  have d2 := hr1.c2
  have g2 := hr1.1.frozen 2
  have hr2 := hr1.put2 (n + b.length)
  have hk2 := hk1.setCell 2 (.int .i64 (n + b.length))
  have e0 := hr2.c0
  have Hk2 := Lib.hid hk2
  have Hr2 := Lib.hid hr2
  clear h hM hr1 hw1 hk1 hk2
  refine calls_of_WpN Try.func13 rfl ?_
  simp only [Try.ntmps13, List.size_toArray, List.length_cons, List.length_nil, Nat.reduceAdd, Nat.reduceSub, Array.replicate_succ, Array.replicate_zero, List.push_toArray, List.append_toArray, List.nil_append, List.cons_append]
  refine WpN.seq_wp (fun K hK => ?_)
  go_wp2
  refine WpN.seq_wp (fun K hK => ?_)
  go_wp2
  refine WpN.seq ?_
  refine WpN.seq_wp (fun K hK => ?_)
  go_wp2
  refine WpN.seq ?_
  refine WpN.send_room (c := c) (v := strV b) (z' := .string ⟨#[]⟩) rfl (by simp [go_sem, execOp, scase, Act.eval]) hc hroom ?_
  rw [Hw1.out]
  clear hc hroom c1 c3
  go_wp2
  refine WpN.of ?_
  go_wp2
  refine WpN.of ?_
  cases M with
  | nil =>
    have e0 : (w1.setCell ⟨f, 2, none⟩ (.int .i64 (n + b.length))).cell? ⟨f, 0, none⟩ = some (strV []) := e0
    have Hn := Lib.hid (next_any hr2)
    have Hn : Hid (Calls Try.prog 19 #[.pointer (some ⟨f, 0, none⟩)] (w1.setCell ⟨f, 2, none⟩ (.int .i64 (n + b.length))) fun e w' => (FeedRaw w' f c [] [] (n + b.length) false ∧ FKeep f c (w1.setCell ⟨f, 2, none⟩ (.int .i64 (n + b.length))) w' ∧ w'.heap.size = (w1.setCell ⟨f, 2, none⟩ (.int .i64 (n + b.length))).heap.size) ∧ e = .returned (strV b)) := Hn
    go_wp2_with fail
    refine Hn.out.mono ?_
    rintro e w3 ⟨⟨hr3, hk3, _⟩, rfl⟩
    have f0 := hr3.1.frozen 0
    have d0 := hr3.c0
    have Hr := Lib.hid (hr3.put0 b)
    have Hk := Lib.hid ((Hk2.out.trans hk3).setCell 0 (strV b))
    clear hr3 hk3
    go_wp2
    go_ret
    exact ⟨⟨Hr.out, Hk.out⟩, rfl⟩
  | cons x M =>
    have hx := hF.head
    obtain ⟨y, ys, rfl⟩ : ∃ y ys, x = y :: ys := by
      cases x with
      | nil => simp at hx
      | cons y ys => exact ⟨y, ys, rfl⟩
    have e0 : (w1.setCell ⟨f, 2, none⟩ (.int .i64 (n + b.length))).cell? ⟨f, 0, none⟩ = some (strV (y :: ys)) := e0
    clear hF hx
    go_wp2
    go_ret
    exact ⟨⟨Hr2.out, Hk2.out⟩, rfl⟩
end
end Go.Proofs.Ytmblbmkkeloegaa
