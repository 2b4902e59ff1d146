/-
  Contract of the document's own Same (lists of records).
-/
import Derived.Test.YtamenhkbmbaopaaGreatDoorPair
import Derived.Deep.QuietTactic
import Derived.BigQuiet
namespace Go.Proofs.YtamenhkbmbaopaaGreatDoor
open Go.ChangeShapes Go.WideShapes Go.ChangeAt Go.RowKit

theorem same_any (x y : List Pr) (b o c : Nat) (b2 o2 c2 : Nat) (w : World) (hx : PairsAt w b o x) (hy : PairsAt w b2 o2 y) (hlx : x.length ≤ 140737488355328) (hly : y.length ≤ 140737488355328) :
    Calls Tryz.prog 9 #[.slice (some ⟨b, o, none⟩) x.length c, .slice (some ⟨b2, o2, none⟩) y.length c2] w fun e w' => e = .returned (.bool (decide (x = y))) ∧ ∃ m, w' = w.drewN m := by
  go_enter Tryz.func9, Tryz.ntmps9
  go_wp2
  · have hne : (x.length : Int) ≠ y.length := by have h : ((x.length : Int) != y.length) = true := (by assumption); simpa using h
    have Hq := Lib.hid (show decide (x = y) = false from decide_eq_false (fun e => hne (by rw [e])))
    go_ret
    rw [Hq.out]
    exact ⟨rfl, 0, rfl⟩
  · have hll : (x.length : Int) = y.length := by have h : ((x.length : Int) != y.length) = false := (by assumption); simpa using h
    have Hll := Lib.hid (show x.length = y.length by omega)
    go_loopw [5] (fun i wr => ∃ k m : Nat, i = .int .i64 k ∧ k ≤ x.length ∧ x.take k = y.take k ∧ wr = w.drewN m) (fun i _ => x.length - (intOf i).toNat)
    case atStart => exact ⟨0, 0, rfl, Nat.zero_le _, rfl, rfl⟩
    case round =>
      obtain ⟨k, m, rfl, hk, hs, rfl⟩ := hrel
      have Hs := Lib.hid hs
      clear hs
      by_cases hlt : k < x.length
      · have hly2 : k < y.length := by omega
        obtain ⟨c1, c2⟩ := (show PairsAt (w.drewN m) b o x from hx) k hlt
        obtain ⟨d1, d2⟩ := (show PairsAt (w.drewN m) b2 o2 y from hy) k hly2
        have Hdr := Lib.hid (fun j => show (w.drewN m).drewN j = w.drewN (m + j) from drewN_add w m j)
        generalize w.drewN m = wd at *
        have Heq := Lib.hid (show x[k] = y[k] → x.take (k + 1) = y.take (k + 1) from fun e => by rw [List.take_succ_eq_append_getElem hlt, List.take_succ_eq_append_getElem hly2, Hs.out, e])
        have Hne := Lib.hid (show x[k] ≠ y[k] → decide (x = y) = false from fun e => decide_eq_false (fun h => e (by subst h; rfl)))
        generalize hD : decide (x = y) = D at *
        have HD := Lib.hid hD
        clear hD
        have hlt1 : (k : Int) < x.length := by omega
        have hlt2 : (k : Int) < y.length := by omega
        generalize x[k] = p at *
        generalize y[k] = q at *
        obtain ⟨p1, p2⟩ := p
        obtain ⟨q1, q2⟩ := q
        by_cases hpq : ((p1, p2) : Pr) = (q1, q2)
        · have Hq := Lib.hid (Heq.out hpq)
          have hneq := fun W => pair_neq (p1, p2) (q1, q2) W
          rw [decide_eq_true hpq] at hneq
          simp only at hneq c1 c2 d1 d2
          clear hpq Heq Hne
          go_wp2
          go_quiet (fail)
          go_wp2
          go_roundw
          case rel => exact ⟨k + 1, m + nq, by go_num, by omega, Hq.out, Hdr.out nq⟩
          case measure => simp [intOf]; omega
        · have Hq := Lib.hid (Hne.out hpq)
          have hneq := fun W => pair_neq (p1, p2) (q1, q2) W
          rw [decide_eq_false hpq] at hneq
          simp only at hneq c1 c2 d1 d2
          clear hpq Heq Hne
          go_wp2
          go_quiet (fail)
          go_wp2
          go_ret
          rw [HD.out, Hq.out]
          exact ⟨rfl, m + nq, Hdr.out nq⟩
      · have hkn : k = x.length := by omega
        subst hkn
        have Hq := Lib.hid (show decide (x = y) = true from decide_eq_true (by
          have := Hs.out
          rwa [List.take_length, Hll.out, List.take_length] at this))
        go_wp2
        go_ret
        rw [Hq.out]
        exact ⟨rfl, m, rfl⟩


theorem same_nil (ad ad2 : Option Addr) (c c2 : Nat) (w : World) :
    Calls Tryz.prog 9 #[.slice ad 0 c, .slice ad2 0 c2] w fun e w' => e = .returned (.bool true) ∧ ∃ m, w' = w.drewN m := by
  go_enter Tryz.func9, Tryz.ntmps9
  go_wp2
  go_loop [5] (fun i => i = .int .i64 0) (fun _ => 0)
  case atStart => exact rfl
  case round =>
    obtain rfl := hrel
    go_wp2
    go_ret
    exact ⟨rfl, 0, rfl⟩
theorem same_len (ad ad2 : Option Addr) (n n2 c c2 : Nat) (w : World) (hn : n ≠ n2) :
    Calls Tryz.prog 9 #[.slice ad n c, .slice ad2 n2 c2] w fun e w' => e = .returned (.bool false) ∧ ∃ m, w' = w.drewN m := by
  have hne : ((n : Int) != n2) = true := by
    rw [bne_iff_ne]; omega
  go_enter Tryz.func9, Tryz.ntmps9
  go_wp2
  go_ret
  exact ⟨rfl, 0, rfl⟩
theorem sameIn_any (x y : List Pr) (v u : Value) (w : World) (hx : PairsIn w v x) (hy : PairsIn w u y) (hlx : x.length ≤ 140737488355328) (hly : y.length ≤ 140737488355328) :
    Calls Tryz.prog 9 #[v, u] w fun e w' => e = .returned (.bool (decide (x = y))) ∧ ∃ m, w' = w.drewN m := by
  obtain ⟨ad, c, rfl, h⟩ := hx
  obtain ⟨ad2, c2, rfl, h2⟩ := hy
  by_cases hl : x.length = y.length
  · by_cases hn : x = []
    · have hn2 : y = [] := by subst hn; exact List.length_eq_zero_iff.1 hl.symm
      subst hn hn2
      rw [decide_eq_true rfl]
      exact same_nil ad ad2 c c2 w
    · have hn2 : y ≠ [] := fun e => hn (by subst e; exact List.length_eq_zero_iff.1 hl)
      rcases h with h | ⟨b, o, rfl, hb, hp⟩
      · exact absurd h hn
      · rcases h2 with h2 | ⟨b2, o2, rfl, hb2, hp2⟩
        · exact absurd h2 hn2
        · exact same_any x y b o c b2 o2 c2 w hp hp2 hlx hly
  · rw [decide_eq_false (fun e => hl (by rw [e]))]
    exact same_len ad ad2 _ _ c c2 w hl
end Go.Proofs.YtamenhkbmbaopaaGreatDoor
