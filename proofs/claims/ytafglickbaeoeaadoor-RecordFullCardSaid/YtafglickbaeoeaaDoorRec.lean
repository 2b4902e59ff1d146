/-
  Contracts of package record's small calls and of the document's own: Right, Size.
-/
import Derived.Test.YtafglickbaeoeaaDoorRows
import Derived.Test.YtafglickbaeoeaaDoorRecP
import Derived.Test.YtafglickbaeoeaaDoorMem
import Derived.Test.YtafglickbaeoeaaDoorDig
import Derived.Test.YtafglickbaeoeaaDoorItoa
import Derived.Laws.StructEq
import Derived.Deep.QuietTactic
import Derived.BigQuiet
import Derived.Deep.CutBlock
import Derived.Deep.DeepCutAuto
namespace Go.Proofs.YtafglickbaeoeaaDoor
open Go.ChangeShapes Go.WideShapes Go.ChangeAt Go.RowKit

/-- A record as a value. -/
def prVal (p : Pr) : Value := .agg #[.string ⟨p.1.toArray⟩, .string ⟨p.2.toArray⟩]

theorem two_holds {w : World} {g : Nat} {t : TypeId} {a b : Value} (h : Holds w g t [a, b]) :
    w.cell? ⟨g, 0, none⟩ = some a ∧ w.cell? ⟨g, 1, none⟩ = some b ∧ w.frozen? ⟨g, 0, none⟩ = false ∧ w.frozen? ⟨g, 1, none⟩ = false :=
  ⟨h.cell (i := 0) (by simp), h.cell (i := 1) (by simp), h.frozen 0, h.frozen 1⟩
theorem boxed {w w1 : World} {a b : Value} {t : TypeId} (hb : Below (w.alloc (.cells #[a, b] t)).heap.size (w.alloc (.cells #[a, b] t)) w1) :
    Holds w1 w.heap.size t [a, b] ∧ Below w.heap.size w w1 :=
  ⟨(Holds.new w t [a, b]).under hb (by simp), ((Below.refl _ _).alloc (Nat.le_refl _) _).trans (hb.mono (by simp))⟩

theorem right_any (p : Pr) (w : World) :
    Calls Tryd.prog 10 #[prVal p] w fun e w' => Below w.heap.size w w' ∧ e = .returned (.bool (prRight p)) := by
  obtain ⟨k, v⟩ := p
  unfold prVal
  by_cases hk : k = []
  · subst hk
    have Hq := Lib.hid (show prRight ([], v) = false from rfl)
    go_enter Tryd.func10, Tryd.ntmps10
    go_wp2
    go_ret
    rw [Hq.out]
    exact ⟨(Below.refl _ _).alloc (Nat.le_refl _) _, rfl⟩
  · have hne : k.isEmpty = false := by simpa using hk
    have Hq := Lib.hid (show prRight (k, v) = !decide (0 ≤ Lib.indexByte k 61) by
      by_cases hm : (61 : UInt8) ∈ k
      · rw [(indexC 61 k).1 hm]
        have : prRight (k, v) = false := decide_eq_false (fun e => e.2 hm)
        rw [this, decide_eq_true (by omega)]; rfl
      · rw [(indexC 61 k).2 hm]
        have : prRight (k, v) = true := decide_eq_true ⟨hk, hm⟩
        rw [this]; rfl)
    have Hc := Lib.hid (fun w => Tryd.strings_Contains_one ⟨k.toArray⟩ 61 w)
    clear hk
    go_enter Tryd.func10, Tryd.ntmps10
    go_wp2_with fail
    refine (Hc.out _).mono ?_
    rintro e w' ⟨rfl, rfl⟩
    go_wp2
    go_ret
    rw [Hq.out]
    exact ⟨(Below.refl _ _).alloc (Nat.le_refl _) _, rfl⟩

theorem size_any (p : Pr) (w : World) (hp : prRest p ≤ 4611686018427387904) (ht : TabOk w) :
    Calls Tryd.prog 8 #[prVal p] w fun e w' => Below w.heap.size w w' ∧ e = .returned (.int .i64 (prSize p)) := by
  have Hs := Lib.hid (szOf_spec (prRest p) hp).2.1
  have Hr := Lib.hid (show szFrom (prRest p) 20 1 = prSize p from rfl)
  have Hl := Lib.hid (show prRest p = p.1.length + p.2.length + 3 from rfl)
  have Ht := Lib.hid ht
  generalize hR : prRest p = R at *
  generalize hS : prSize p = S at *
  obtain ⟨k, v⟩ := p
  unfold prVal
  clear hR hS ht
  have h1 : IntKind.i64.wrap (1 + (k.length : Int) + 1 + v.length + 1) = R := by have h : R = k.length + v.length + 3 := Hl.out; rw [IntWalk.i64_in _ (by omega)]; omega
  have hk1 : (k.length : Int) ≤ 4611686018427387904 := by have h : R = k.length + v.length + 3 := Hl.out; omega
  have hv1 : (k.length : Int) + v.length ≤ 4611686018427387904 := by have h : R = k.length + v.length + 3 := Hl.out; omega
  clear Hl
  go_enter Tryd.func8, Tryd.ntmps8
  go_wp2
  clear h1
  go_loopw [4] (fun d wr => ∃ c f : Nat, d = .int .i64 c ∧ c + f = 21 ∧ 1 ≤ c ∧ szFrom R f c = S ∧ Below w.heap.size w wr) (fun d _ => 21 - (intOf d).toNat)
  case atStart => exact ⟨1, 20, rfl, rfl, Nat.le_refl _, Hr.out, (Below.refl _ _).alloc (Nat.le_refl _) _⟩
  case round =>
    obtain ⟨c, f, rfl, hcf, hc1, hS, hb⟩ := hrel
    have Hi := Lib.hid (itoa_any (R + c : Int) wr (by omega) (by omega) (Ht.out.below hb (Nat.le_refl _)))
    have hlen : (Lib.decDigits ((R : Int) + c).toNat).length = Lib.nDigits (R + c) := by rw [Lib.decDigits_length]; congr 1
    generalize Lib.decDigits ((R : Int) + c).toNat = x at *
    have h19 := nDigits_19 (R + c) (by omega)
    have Hb := Lib.hid hb
    by_cases hgt : c < Lib.nDigits (R + c)
    · have hx : (c : Int) < x.length := by omega
      obtain ⟨g, rfl⟩ : ∃ g, f = g + 1 := ⟨f - 1, by omega⟩
      have HS := Lib.hid ((szFrom_next R g c (by omega)).symm.trans hS)
      have hc19 : c < 19 := by omega
      clear hlen hb hS hgt h19
      go_wp2_with fail
      refine Hi.out.mono ?_
      rintro e w2 ⟨hb2, rfl⟩
      have Hb2 := Lib.hid (Hb.out.trans (hb2.mono Hb.out.size))
      clear hb2
      go_wp2
      go_roundw
      case rel => exact ⟨c + 1, g, by go_num, by omega, by omega, HS.out, Hb2.out⟩
      case measure => simp [intOf]; omega
    · have hx : ¬ (c : Int) < x.length := by omega
      have HS := Lib.hid (show R + c = S by
        rcases f with _ | g
        · exact hS
        · exact (szFrom_hit R g c (by omega)).symm.trans hS)
      have hc21 : c ≤ 21 := by omega
      clear hlen hb hS hgt h19
      go_wp2_with fail
      refine Hi.out.mono ?_
      rintro e w2 ⟨hb2, rfl⟩
      have Hb2 := Lib.hid (Hb.out.trans (hb2.mono Hb.out.size))
      clear hb2
      go_wp2
      go_ret
      refine ⟨Hb2.out, ?_⟩
      rw [← HS.out]
      rfl

theorem refSize_any (p : Pr) (w : World) (hp : prRest p ≤ 4503599627370496) :
    Calls Tryd.prog 9 #[prVal p] w fun e w' => Below w.heap.size w w' ∧ e = .returned (.int .i64 (prSize p)) := by
  have Hr := Lib.hid (show szFrom (prRest p) 20 1 = prSize p from rfl)
  have Hl := Lib.hid (show prRest p = p.1.length + p.2.length + 3 from rfl)
  generalize hR : prRest p = R at *
  generalize hS : prSize p = S at *
  obtain ⟨k, v⟩ := p
  unfold prVal
  clear hR hS
  have h1 : IntKind.i64.wrap ((k.length : Int) + v.length + 3) = R := by have h : R = k.length + v.length + 3 := Hl.out; rw [IntWalk.i64_in _ (by omega)]; omega
  have hk1 : (k.length : Int) + v.length ≤ 4611686018427387904 := by have h : R = k.length + v.length + 3 := Hl.out; omega
  clear Hl
  go_enter Tryd.func9, Tryd.ntmps9
  go_wp2
  clear h1
  go_loopw [4] (fun d wr => ∃ c f : Nat, d = .int .i64 (R + c : Int) ∧ c + f = 21 ∧ 1 ≤ c ∧ szFrom R f c = S ∧ c ≤ Lib.nDigits (R + c) ∧ Below w.heap.size w wr) (fun d _ => R + 21 - (intOf d).toNat)
  case atStart => exact ⟨1, 20, rfl, rfl, Nat.le_refl _, Hr.out, Lib.nDigits_pos _, (Below.refl _ _).alloc (Nat.le_refl _) _⟩
  case round =>
    obtain ⟨c, f, rfl, hcf, hc1, hS, hcd, hb⟩ := hrel
    have Hi := Lib.hid (digits_any (R + c : Int) wr (by omega) (by omega))
    have hlen : (Lib.decDigits ((R : Int) + c).toNat).length = Lib.nDigits (R + c) := by rw [Lib.decDigits_length]; congr 1
    generalize Lib.decDigits ((R : Int) + c).toNat = x at *
    have h19 := nDigits_19 (R + c) (by omega)
    have hm := nDigits_mono (R + (c + 1)) (R + c) (by omega)
    have Hb := Lib.hid hb
    by_cases hgt : c < Lib.nDigits (R + c)
    · have hx : ((R : Int) + x.length == R + c) = false := by rw [beq_eq_false_iff_ne]; omega
      obtain ⟨g, rfl⟩ : ∃ g, f = g + 1 := ⟨f - 1, by omega⟩
      have HS := Lib.hid ((szFrom_next R g c (by omega)).symm.trans hS)
      have Hc2 := Lib.hid (show c + 1 ≤ Lib.nDigits (R + (c + 1)) by omega)
      have hc19 : c < 19 := by omega
      have hx9 : x.length ≤ 19 := by omega
      clear hlen hb hS hgt h19 hcd hm
      go_wp2_with fail
      refine Hi.out.mono ?_
      rintro e w2 ⟨hb2, rfl⟩
      have Hb2 := Lib.hid (Hb.out.trans (hb2.mono Hb.out.size))
      clear hb2
      go_wp2
      go_roundw
      case rel => exact ⟨c + 1, g, by go_num, by omega, by omega, HS.out, Hc2.out, Hb2.out⟩
      case measure => simp [intOf]; omega
    · have hx : ((R : Int) + x.length == R + c) = true := by rw [beq_iff_eq]; omega
      have HS := Lib.hid (show R + c = S by
        rcases f with _ | g
        · exact hS
        · exact (szFrom_hit R g c (by omega)).symm.trans hS)
      have hc21 : c ≤ 19 := by omega
      have hx9 : x.length ≤ 19 := by omega
      clear hlen hb hS hgt h19 hcd hm
      go_wp2_with fail
      refine Hi.out.mono ?_
      rintro e w2 ⟨hb2, rfl⟩
      have Hb2 := Lib.hid (Hb.out.trans (hb2.mono Hb.out.size))
      clear hb2
      go_wp2
      go_ret
      refine ⟨Hb2.out, ?_⟩
      rw [← HS.out]
      rfl

theorem mem_aheadC {c : UInt8} {l : List UInt8} : c ∈ l ↔ (aheadC c l).length < l.length := by
  constructor
  · exact aheadC_length c l
  · intro h
    rcases Classical.em (c ∈ l) with hm | hm
    · exact hm
    · rw [(aheadC_none c l hm).1] at h; omega

theorem refRight_any (p : Pr) (w : World) (hp : p.1.length ≤ 4611686018427387904) :
    Calls Tryd.prog 11 #[prVal p] w fun e w' => Below w.heap.size w w' ∧ e = .returned (.bool (prRight p)) := by
  obtain ⟨k, v⟩ := p
  unfold prVal
  have Hq := Lib.hid (show prRight (k, v) = decide (k ≠ [] ∧ 61 ∉ k) from rfl)
  generalize prRight (k, v) = B at *
  simp only at hp
  have H := Holds.new w 25 [.string ⟨k.toArray⟩, .string ⟨v.toArray⟩]
  have Hb := Lib.hid ((Below.refl w.heap.size w).alloc (Nat.le_refl _) (.cells #[.string ⟨k.toArray⟩, .string ⟨v.toArray⟩] 25))
  go_enter Tryd.func11, Tryd.ntmps11
  go_wp2
  change Holds (w.alloc (.cells #[.string ⟨k.toArray⟩, .string ⟨v.toArray⟩] 25)) _ _ _ at H
  obtain ⟨c0, c1, f0, f1⟩ := two_holds H
  clear H c1 f0 f1
  generalize w.alloc (.cells #[.string ⟨k.toArray⟩, .string ⟨v.toArray⟩] 25) = wa at *
  go_loop [3] (fun i => ∃ n : Nat, i = .int .i64 n ∧ n ≤ (aheadC 61 k).length ∧ n ≤ k.length) (fun i => k.length - (intOf i).toNat)
  case atStart => exact ⟨0, rfl, Nat.zero_le _, Nat.zero_le _⟩
  case round =>
    obtain ⟨n, rfl, hn, hnk⟩ := hrel
    by_cases hlt : n < k.length
    · have hg := aheadC_get 61 k n hlt hn
      by_cases he : n = (aheadC 61 k).length
      · have e1 : ((k[n].toNat : Int) == 61) = true := by rw [hg.2 he]; rfl
        have HB := Lib.hid (show B = false by rw [Hq.out]; exact decide_eq_false (fun e => e.2 (mem_aheadC.2 (he ▸ hlt))))
        clear hg he hn
        go_wp2
        go_ret
        rw [HB.out]
        exact ⟨Hb.out, rfl⟩
      · have e1 : ((k[n].toNat : Int) == 61) = false := by
          rw [beq_eq_false_iff_ne]
          intro e
          exact he (hg.1 (UInt8.toNat_inj.1 (by have : (61 : UInt8).toNat = 61 := rfl; omega)))
        have hn2 := Lib.hid (show n + 1 ≤ (aheadC 61 k).length by omega)
        clear hg he hn
        go_wp2
        go_round
        case rel => exact ⟨n + 1, by go_num, hn2.out, by omega⟩
        case measure => simp [intOf]; omega
    · have hno : 61 ∉ k := fun hm => by have := aheadC_length 61 k hm; omega
      have HB := Lib.hid (show B = !k.isEmpty by rw [Hq.out]; cases k <;> simp_all)
      clear hno hn
      go_wp2
      go_ret
      rw [HB.out]
      exact ⟨Hb.out, rfl⟩
end Go.Proofs.YtafglickbaeoeaaDoor
