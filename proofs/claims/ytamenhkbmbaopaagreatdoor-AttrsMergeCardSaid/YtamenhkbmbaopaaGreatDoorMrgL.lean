/-
  Contract of the law's test of length.
-/
import Derived.Test.YtamenhkbmbaopaaGreatDoorMrgS
namespace Go.Proofs.YtamenhkbmbaopaaGreatDoor
open Go.ChangeShapes Go.WideShapes Go.ChangeAt Go.RowKit Go.Maps

def longP (p : Pr) : Bool := decide (300 < p.1.length) || decide (300 < p.2.length)
def tooLong (l : List Pr) : Bool := decide (12 < l.length) || l.any longP
theorem tooLong_fits {l : List Pr} (h : tooLong l = false) : l.length ≤ 12 ∧ prFits 600 l := by
  unfold tooLong at h
  rw [Bool.or_eq_false_iff] at h
  refine ⟨by have := of_decide_eq_false h.1; omega, fun p hp => ?_⟩
  have h2 := List.any_eq_false.1 h.2 p hp
  unfold longP at h2
  simp only [Bool.or_eq_true, decide_eq_true_eq, not_or] at h2
  omega

set_option maxRecDepth 100000 in
set_option maxHeartbeats 1000000 in
theorem long_any (l : List Pr) (al : Option Addr) (cl : Nat) (w : World) (hl : PairsIn w (.slice al l.length cl) l) :
    Calls Tryz.prog 6 #[.slice al l.length cl] w fun e w' => Below w.heap.size w w' ∧ e = .returned (.bool (tooLong l)) := by
  have Hl := Lib.hid hl.cells
  generalize hR : tooLong l = R
  have HR := Lib.hid hR
  clear hl hR
  by_cases h12 : 12 < l.length
  · have Hq := Lib.hid (show R = true by rw [← HR.out]; unfold tooLong; rw [decide_eq_true h12]; rfl)
    have h1 : (12 : Int) < l.length := by omega
    clear h12
    go_enter Tryz.func6, Tryz.ntmps6
    go_wp2
    go_ret
    rw [Hq.out]
    exact ⟨Below.refl _ _, rfl⟩
  · have h1 : ¬ (12 : Int) < l.length := by omega
    have HR2 := Lib.hid (show l.any longP = R by rw [← HR.out]; unfold tooLong; rw [decide_eq_false h12]; rfl)
    clear HR
    go_enter Tryz.func6, Tryz.ntmps6
    go_wp2
    go_loopw [10] (fun i wr => ∃ k : Nat, i = .int .i64 k ∧ k ≤ l.length ∧ (l.take k).any longP = false ∧ Below w.heap.size w wr) (fun i _ => l.length - (intOf i).toNat)
    case atStart => exact ⟨0, rfl, Nat.zero_le _, rfl, Below.refl _ _⟩
    case round =>
      obtain ⟨k, rfl, hk, hf, hb⟩ := hrel
      have Hf := Lib.hid hf
      have Hb := Lib.hid hb
      clear hf hb
      by_cases hlt : k < l.length
      · obtain ⟨b, o, rfl, hb0, c1, c2⟩ := Hl.out k hlt
        rw [← Hb.out.cell (p := ⟨b, o + k * 2, none⟩) hb0] at c1
        rw [← Hb.out.cell (p := ⟨b, o + k * 2 + 1, none⟩) hb0] at c2
        have hlt2 : (k : Int) < l.length := by omega
        have Hst := Lib.hid (show longP l[k] = false → (l.take (k + 1)).any longP = false from fun h => by
          rw [List.take_succ_eq_append_getElem hlt, List.any_append, Hf.out, List.any_cons, h]; rfl)
        have Hyes := Lib.hid (show longP l[k] = true → R = true from fun h => by
          rw [← HR2.out, List.any_eq_true]; exact ⟨l[k], List.getElem_mem hlt, h⟩)
        generalize l[k] = p at *
        obtain ⟨x, y⟩ := p
        simp only at c1 c2
        by_cases hx : 300 < x.length
        · have Hq := Lib.hid (Hyes.out (by unfold longP; rw [decide_eq_true hx]; rfl))
          have h2 : (300 : Int) < x.length := by omega
          clear hx Hyes Hst
          go_wp2
          go_ret
          rw [Hq.out]
          exact ⟨Hb.out.alloc Hb.out.size _, rfl⟩
        · have h2 : ¬ (300 : Int) < x.length := by omega
          by_cases hy : 300 < y.length
          · have Hq := Lib.hid (Hyes.out (by unfold longP; rw [decide_eq_true hy, Bool.or_true]))
            have h3 : (300 : Int) < y.length := by omega
            clear hx hy Hyes Hst
            go_wp2
            go_ret
            rw [Hq.out]
            exact ⟨Hb.out.alloc Hb.out.size _, rfl⟩
          · have h3 : ¬ (300 : Int) < y.length := by omega
            have Hq := Lib.hid (Hst.out (by unfold longP; rw [decide_eq_false hx, decide_eq_false hy]; rfl))
            clear hx hy Hyes Hst
            go_wp2
            go_roundw
            case rel => exact ⟨k + 1, by go_num, by omega, Hq.out, Hb.out.alloc Hb.out.size _⟩
            case measure => simp [intOf]; omega
      · have hkn : k = l.length := by omega
        subst hkn
        have Hq := Lib.hid (show R = false by rw [← HR2.out, ← Hf.out, List.take_length])
        go_wp2
        go_ret
        rw [Hq.out]
        exact ⟨Hb.out, rfl⟩
end Go.Proofs.YtamenhkbmbaopaaGreatDoor
