/-
  Contract of the chapter's example (layer 6).
-/
import Derived.Test.YtafglickbaeoeaaDoorRecG
namespace Go.Proofs.YtafglickbaeoeaaDoor
open Go.ChangeShapes Go.WideShapes Go.ChangeAt Go.RowKit

theorem PairsIn.one {w : World} {g cap : Nat} {k v : List UInt8} (h : Holds w g 25 [.string ⟨k.toArray⟩, .string ⟨v.toArray⟩]) : PairsIn w (.slice (some ⟨g, 0, none⟩) 1 cap) [(k, v)] := by
  refine ⟨_, cap, rfl, .inr ⟨g, 0, rfl, h.lt, ?_⟩⟩
  intro i hi
  have hi0 : i = 0 := by simpa using hi
  subst hi0
  obtain ⟨c0, c1, -, -⟩ := two_holds h
  exact ⟨c0, c1⟩
theorem size_path : prSize ([112, 97, 116, 104], [97]) = 9 := by
  unfold prSize szOf prRest
  rw [szFrom_hit _ _ _ (by rw [Lib.nDigits_small (by decide)]; exact Nat.le_refl _)]
  rfl
theorem print_path : prPrint [([112, 97, 116, 104], [97])] = ([57, 32, 112, 97, 116, 104, 61, 97, 10], 0) := by
  unfold prPrint
  rw [if_neg (by decide), show ([([112, 97, 116, 104], [97])] : List Pr).all prRight = true by decide, if_neg (by simp), if_neg (by show ¬ 65536 < prSize _ + 0; rw [size_path]; decide)]
  show (prText _ ++ [], _) = _
  unfold prText
  rw [size_path, Lib.decDigits_one (by decide)]
  rfl
theorem parse_path : rParse [49, 48, 32, 112, 97, 116, 104, 61, 97, 10] = ([([112, 97, 116, 104], [97])], 0) := by decide +kernel

theorem awake6_any (w : World) (ht : TabOk w) :
    Calls Tryd.prog 7 #[] w fun e w' => Below w.heap.size w w' ∧ e = .returned (.bool true) := by
  have Ht := Lib.hid ht
  have Hp := Lib.hid (fun v w1 hv ht => printIn_any [([112, 97, 116, 104], [97])] v w1 hv (by intro p hp; have : p = ([112, 97, 116, 104], [97]) := (by simpa using hp); subst this; decide) ht (by decide))
  unfold print2 at Hp
  rw [print_path] at Hp
  have Hq := Lib.hid (fun w1 => parse_any [49, 48, 32, 112, 97, 116, 104, 61, 97, 10] w1 (by decide))
  rw [parse_path] at Hq
  have Hs := Lib.hid (fun w1 ht => size_any ([112, 97, 116, 104], [97]) w1 (by decide) ht)
  rw [size_path] at Hs
  unfold prVal at Hs
  clear ht
  go_enter Tryd.func7, Tryd.ntmps7
  go_wp2_with fail
  have Hb0 := Lib.hid ((Below.refl w.heap.size w).alloc (Nat.le_refl _) (.cells #[.string ⟨#[112, 97, 116, 104]⟩, .string ⟨#[97]⟩] 25))
  refine (Hp.out _ _ (PairsIn.one (k := [112, 97, 116, 104]) (v := [97]) (Holds.new w 25 _)) (Ht.out.below Hb0.out (Nat.le_refl _))).mono ?_
  rintro e w1 ⟨hb, rfl⟩
  have Hb1 := Lib.hid (Hb0.out.trans (hb.mono Hb0.out.size))
  clear hb
  go_wp2_with fail
  refine (Hq.out _).mono ?_
  rintro e w2 ⟨hb, v, rfl, hv⟩
  have Hb2 := Lib.hid (Hb1.out.trans (hb.mono Hb1.out.size))
  obtain ⟨ad, cap, rfl, -⟩ := hv
  clear hb
  go_wp2_with fail
  refine (Hs.out _ (Ht.out.below Hb2.out (Nat.le_refl _))).mono ?_
  rintro e w3 ⟨hb, rfl⟩
  have Hb3 := Lib.hid (Hb2.out.trans (hb.mono Hb2.out.size))
  clear hb
  go_wp2
  go_ret
  exact ⟨Hb3.out, rfl⟩

theorem rGo_err (f : Nat) : ∀ (acc : List Pr) (s : List UInt8) (R : List Pr) (e : Int), rGo f acc s = (R, e) → e ≠ 0 → R = [] := by
  induction f with
  | zero =>
    intro acc s R e h he
    cases s with
    | nil => rw [rGo_nil] at h; cases h; exact absurd rfl he
    | cons b l => rw [rGo_full _ _ (by simp)] at h; cases h; rfl
  | succ f ih =>
    intro acc s R e h he
    by_cases hs : s = []
    · subst hs; rw [rGo_nil] at h; cases h; exact absurd rfl he
    · rcases hf : rFirst s with e2 | ⟨p, n⟩
      · rw [rGo_bad _ _ _ hs hf] at h; cases h; rfl
      · rw [rGo_ok _ _ _ hs hf] at h; exact ih _ _ _ _ h he
theorem rParse_err {s : List UInt8} {R : List Pr} {e : Int} (h : rParse s = (R, e)) (he : e ≠ 0) : R = [] := by
  unfold rParse at h
  split at h
  · cases h; rfl
  · exact rGo_err _ _ _ _ _ h he
end Go.Proofs.YtafglickbaeoeaaDoor
