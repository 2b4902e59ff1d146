/- The walk of the law SumsSpoilt. -/
import Derived.Test.YtnlldpcgmbilaaaDoorSumB
import Derived.Deep.RegionHeld3
namespace Go.Proofs.YtnlldpcgmbilaaaDoor.sumsSpoilt
open Go.ChangeShapes Go.WideShapes Go.ChangeAt Go.RowKit

/-- Bytes that lie in a block, and may be written. -/
def BytesAt (w : World) (g : Nat) (L : List UInt8) : Prop := g < w.heap.size ∧ ∀ j (h : j < L.length), w.cell? ⟨g, j, none⟩ = some (.int .u8 L[j].toNat) ∧ w.frozen? ⟨g, j, none⟩ = false

theorem BytesAt.under {B g : Nat} {w w' : World} {L : List UInt8} (h : BytesAt w g L) (hb : Below B w w') (hg : g < B) : BytesAt w' g L :=
  ⟨Nat.lt_of_lt_of_le h.1 hb.size, fun j hj => ⟨by rw [hb.cell (p := ⟨g, j, none⟩) hg]; exact (h.2 j hj).1, by rw [hb.frozen (p := ⟨g, j, none⟩) hg]; exact (h.2 j hj).2⟩⟩

theorem BytesAt.conv {g cap : Nat} {w : World} {L : List UInt8} (h : BytesAt w g L) (hl : L.length = 512) :
    (convert 34 9 (.slice (some ⟨g, 0, none⟩) 512 cap)).run Tryd.prog w = .ok (.string ⟨L.toArray⟩) w := by
  have := run_convert_bytes_back (P := Tryd.prog) w 34 9 5 ⟨g, 0, none⟩ cap L Tryd.underlying34 Tryd.underlying5 Tryd.underlying9 (fun j hj => by
    have hadd : (⟨g, 0, none⟩ : Addr).add j = ⟨g, j, none⟩ := by unfold Addr.add; split <;> simp_all
    rw [hadd]
    exact (h.2 j hj).1)
  rwa [hl] at this

theorem BytesAt.put {g i : Nat} {w : World} {L : List UInt8} (h : BytesAt w g L) (hi : i < L.length) (x : UInt8) : BytesAt (w.setCell ⟨g, i, none⟩ (.int .u8 x.toNat)) g (L.set i x) := by
  refine ⟨by simpa [World.setCell] using h.1, fun j hj => ?_⟩
  have hj2 : j < L.length := by simpa using hj
  rw [World.frozen?_setCell, List.getElem_set]
  refine ⟨?_, (h.2 j hj2).2⟩
  by_cases hij : i = j
  · subst hij
    rw [if_pos rfl, World.cell?_setCell_same (h := (h.2 i hi).1)]
  · rw [if_neg hij, World.cell?_setCell_other (h := fun e => hij (by cases e; rfl))]
    exact (h.2 j hj2).1

/-- '[]byte(s)' of 512 bytes. -/
theorem bytes_of (c : List UInt8) (hc : c.length = 512) (w : World) : ∃ g cap w3, (convert 9 34 (.string ⟨c.toArray⟩)).run Tryd.prog w = .ok (.slice (some ⟨g, 0, none⟩) 512 cap) w3 ∧ BytesAt w3 g c ∧ w.heap.size ≤ g ∧ Below w.heap.size w w3 := by
  have hr := run_bytes_of_string (P := Tryd.prog) w 9 34 5 ⟨c.toArray⟩ Tryd.underlying9 Tryd.underlying34 Tryd.underlying5
  have hsz : (⟨c.toArray⟩ : ByteArray).size = 512 := hc
  rw [hsz] at hr
  refine ⟨_, _, _, hr, ⟨?_, fun j hj => ⟨?_, ?_⟩⟩, Nat.le_refl _, ?_⟩
  · simp
  · rw [show w.heap.size = w.drew.heap.size from rfl, World.cell?_alloc_mark]
    exact bytesRow_at ⟨c.toArray⟩ _ j hj
  · rw [show w.heap.size = w.drew.heap.size from rfl, World.frozen?_alloc_mark]
    have hlt : j < (bytesRow ⟨c.toArray⟩ (grownCap w 512 0 5)).size := by
      have := Array.getElem?_eq_some_iff.1 (bytesRow_at ⟨c.toArray⟩ (grownCap w 512 0 5) j hj)
      exact this.1
    rw [decide_eq_false (by omega)]; rfl
  · exact (Below.drew (Below.refl _ _)).alloc (Nat.le_refl _) _

/-- What the last statement's region keeps. -/
def Keep (W : World) (g : Nat) (x : List UInt8) (w : World) : Prop := BytesAt w g x ∧ x.length = 512 ∧ Below W.heap.size W w
theorem Keep.step {W : World} {g : Nat} {x : List UInt8} {w w' : World} (h : Keep W g x w) (hb : Below w.heap.size w w') : Keep W g x w' :=
  ⟨h.1.under hb h.1.1, h.2.1, h.2.2.trans (hb.mono h.2.2.size)⟩
theorem Keep.drew {W : World} {g : Nat} {x : List UInt8} {w : World} (h : Keep W g x w) : Keep W g x w.drew := h.step ⟨rfl, rfl, rfl, Nat.le_refl _, fun _ _ => rfl⟩
theorem Keep.all {W : World} {g cap : Nat} {x : List UInt8} {w : World} (h : Keep W g x w) :
    Keep W g x w ∧ (convert 34 9 (.slice (some ⟨g, 0, none⟩) 512 cap)).run Tryd.prog w = .ok (.string ⟨x.toArray⟩) w := ⟨h, h.1.conv h.2.1⟩

theorem spoilt_right' (b c : List UInt8) (hb : b.length = 512) (hc : c = sealOf b) (i : Nat) (v : UInt8) (hi : i < c.length) (hf : ¬ (148 ≤ i ∧ i < 156)) (hv : v ≠ c[i]) :
    sRight (c.set i v) = (bSum true (c.set i v) == bSum false c) := by
  subst hc
  exact spoilt_right b hb i v (by rw [sealOf_length b hb] at hi; exact hi) hf hv

set_option maxRecDepth 100000 in
theorem walk (s : List UInt8) (at_ by_ : Int) (w : World) (hs : s.length ≤ maxLen) (ha : 0 ≤ at_ ∧ at_ ≤ 65535) (hb : 0 ≤ by_ ∧ by_ ≤ 255) :
    Calls Tryd.prog 5 #[.string ⟨s.toArray⟩, .int .u16 at_, .int .u8 by_] w fun e w' => Below w.heap.size w w' ∧ e = .returned (.bool true) := by
  obtain ⟨ha0, ha1⟩ := ha
  obtain ⟨hb0, hb1⟩ := hb
  have Hblk := Lib.hid (block_any s [] w hs)
  clear hs
  go_enter Tryd.func5, Tryd.ntmps5
  go_wp2_with fail
  refine Hblk.out.mono ?_
  rintro e w1 ⟨hbb, b, hbl, rfl⟩
  have Hb1 := Lib.hid hbb
  have Hbl := Lib.hid hbl
  clear hbb hbl
  obtain ⟨c, hc⟩ : ∃ c, c = sealOf b := ⟨_, rfl⟩
  have hcl : c.length = 512 := by rw [hc]; exact sealOf_length b Hbl.out
  have Hl2 := Lib.hid hcl
  have G1 := Lib.hid (sSeal_any b w1 Hbl.out)
  have el : ((c.length : Int) != 512) = false := by rw [hcl]; rfl
  have Hsp := Lib.hid (fun i v => spoilt_right' b c Hbl.out hc i v)
  rw [← hc] at G1
  clear hcl hc
  go_wp2_with fail
  refine G1.out.mono ?_
  rintro e w2 ⟨hb2, rfl⟩
  have Hb2 := Lib.hid (Hb1.out.trans (hb2.mono Hb1.out.size))
  clear hb2
  have hm0 : 0 ≤ at_ % 512 := by omega
  have hm1 : at_ % 512 < 512 := by omega
  by_cases hin : 148 ≤ at_ % 512 ∧ at_ % 512 < 156
  · obtain ⟨h1, h2⟩ := hin
    go_wp2_with fail
    refine (awake3_any w2).mono ?_
    rintro e w7 ⟨hb7, rfl⟩
    have Hb7 := Lib.hid (Hb2.out.trans (hb7.mono Hb2.out.size))
    clear hb7
    go_wp2
    go_ret
    exact ⟨Hb7.out, rfl⟩
  · have hin2 : at_ % 512 < 148 ∨ 148 ≤ at_ % 512 ∧ 156 ≤ at_ % 512 := by omega
    clear hin
    rcases hin2 with h1 | ⟨h1, h2⟩
    · by_cases h3 : by_ = 0
      · subst h3
        go_wp2_with fail
        refine (awake3_any w2).mono ?_
        rintro e w7 ⟨hb7, rfl⟩
        have Hb7 := Lib.hid (Hb2.out.trans (hb7.mono Hb2.out.size))
        clear hb7
        go_wp2
        go_ret
        exact ⟨Hb7.out, rfl⟩
      · have e3 : (by_ == 0) = false := by simpa using h3
        obtain ⟨g, cap, w3, hcv, hat, hgw, hbw⟩ := bytes_of c Hl2.out w2
        have Hat := Lib.hid hat
        have Hb3 := Lib.hid (Hb2.out.trans (hbw.mono Hb2.out.size))
        have Hg := Lib.hid (Nat.le_trans Hb2.out.size hgw)
        clear hbw hgw hat
        have hil : (at_ % 512).toNat < c.length := by have := Hl2.out; omega
        obtain ⟨hce, hfr⟩ := Hat.out.2 (at_ % 512).toNat hil
        go_wp2_with fail
        obtain ⟨v, hv⟩ : ∃ v : UInt8, v = UInt8.ofNat (((c[(at_ % 512).toNat].toNat : Int) + by_) % 256).toNat := ⟨_, rfl⟩
        have hvi : (v.toNat : Int) = ((c[(at_ % 512).toNat].toNat : Int) + by_) % 256 := by
          rw [hv, UInt8.toNat_ofNat']
          omega
        have hne : v ≠ c[(at_ % 512).toNat] := by
          intro e
          have := byte_lt c[(at_ % 512).toNat]
          rw [e] at hvi
          omega
        have hk0 : Keep w g (c.set (at_ % 512).toNat v) (w3.setCell ⟨g, (at_ % 512).toNat, none⟩ (.int .u8 (((c[(at_ % 512).toNat].toNat : Int) + by_) % 256))) := by
          rw [← hvi]
          exact ⟨Hat.out.put hil v, by rw [List.length_set]; exact Hl2.out, Hb3.out.setCell Hg.out _⟩
        have hR := Hsp.out (at_ % 512).toNat v hil (by omega) hne
        clear hv hvi hne
        generalize w3.setCell ⟨g, (at_ % 512).toNat, none⟩ (.int .u8 (((c[(at_ % 512).toNat].toNat : Int) + by_) % 256)) = w4 at *
        obtain ⟨x, hx⟩ : ∃ x, x = c.set (at_ % 512).toNat v := ⟨_, rfl⟩
        rw [← hx] at hk0 hR
        clear hx
        have Hx := Lib.hid hk0.2.1
        have hk := hk0
        clear hk0
        have C1 := Lib.hid (sRight_any x)
        have C2 := Lib.hid (fun w => refRight_any x w Hx.out)
        have C3 := Lib.hid (fun w => refSum_any x true w Hx.out)
        have C4 := Lib.hid (fun w => refSum_any c false w Hl2.out)
        rw [hR] at C1 C2
        clear hR hce hfr Hsp hcv
        generalize bSum true x = A at *
        generalize bSum false c = B at *
        go_region_held3 (fun w' => Keep w g x w' ∧ (convert 34 9 (.slice (some ⟨g, 0, none⟩) 512 cap)).run Tryd.prog w' = .ok (.string ⟨x.toArray⟩) w')
          (first | assumption | exact Keep.all (Keep.drew hk) | exact Keep.all (Keep.step (Keep.drew hk) hbA) | exact Keep.all (Keep.step (And.left (by assumption)) hbA))
          (first
            | (go_at_call 10; refine (C1.out _).mono ?_; rintro e wA ⟨hbA, rfl⟩)
            | (go_at_call 11; refine (C2.out _).mono ?_; rintro e wA ⟨rfl, rfl⟩)
            | (go_at_call_of 9 (Value.bool true); refine (C3.out _).mono ?_; rintro e wA ⟨rfl, rfl⟩)
            | (go_at_call_of 9 (Value.bool false); refine (C4.out _).mono ?_; rintro e wA ⟨rfl, rfl⟩)
            | (go_at_call 12; refine (awake3_any _).mono ?_; rintro e wA ⟨hbA, rfl⟩))
        have hS : Keep w g x wA := by first | assumption | exact And.left (by assumption)
        go_wp2
        go_ret
        exact ⟨hS.2.2, rfl⟩
    · by_cases h3 : by_ = 0
      · subst h3
        go_wp2_with fail
        refine (awake3_any w2).mono ?_
        rintro e w7 ⟨hb7, rfl⟩
        have Hb7 := Lib.hid (Hb2.out.trans (hb7.mono Hb2.out.size))
        clear hb7
        go_wp2
        go_ret
        exact ⟨Hb7.out, rfl⟩
      · have e3 : (by_ == 0) = false := by simpa using h3
        obtain ⟨g, cap, w3, hcv, hat, hgw, hbw⟩ := bytes_of c Hl2.out w2
        have Hat := Lib.hid hat
        have Hb3 := Lib.hid (Hb2.out.trans (hbw.mono Hb2.out.size))
        have Hg := Lib.hid (Nat.le_trans Hb2.out.size hgw)
        clear hbw hgw hat
        have hil : (at_ % 512).toNat < c.length := by have := Hl2.out; omega
        obtain ⟨hce, hfr⟩ := Hat.out.2 (at_ % 512).toNat hil
        go_wp2_with fail
        obtain ⟨v, hv⟩ : ∃ v : UInt8, v = UInt8.ofNat (((c[(at_ % 512).toNat].toNat : Int) + by_) % 256).toNat := ⟨_, rfl⟩
        have hvi : (v.toNat : Int) = ((c[(at_ % 512).toNat].toNat : Int) + by_) % 256 := by
          rw [hv, UInt8.toNat_ofNat']
          omega
        have hne : v ≠ c[(at_ % 512).toNat] := by
          intro e
          have := byte_lt c[(at_ % 512).toNat]
          rw [e] at hvi
          omega
        have hk0 : Keep w g (c.set (at_ % 512).toNat v) (w3.setCell ⟨g, (at_ % 512).toNat, none⟩ (.int .u8 (((c[(at_ % 512).toNat].toNat : Int) + by_) % 256))) := by
          rw [← hvi]
          exact ⟨Hat.out.put hil v, by rw [List.length_set]; exact Hl2.out, Hb3.out.setCell Hg.out _⟩
        have hR := Hsp.out (at_ % 512).toNat v hil (by omega) hne
        clear hv hvi hne
        generalize w3.setCell ⟨g, (at_ % 512).toNat, none⟩ (.int .u8 (((c[(at_ % 512).toNat].toNat : Int) + by_) % 256)) = w4 at *
        obtain ⟨x, hx⟩ : ∃ x, x = c.set (at_ % 512).toNat v := ⟨_, rfl⟩
        rw [← hx] at hk0 hR
        clear hx
        have Hx := Lib.hid hk0.2.1
        have hk := hk0
        clear hk0
        have C1 := Lib.hid (sRight_any x)
        have C2 := Lib.hid (fun w => refRight_any x w Hx.out)
        have C3 := Lib.hid (fun w => refSum_any x true w Hx.out)
        have C4 := Lib.hid (fun w => refSum_any c false w Hl2.out)
        rw [hR] at C1 C2
        clear hR hce hfr Hsp hcv
        generalize bSum true x = A at *
        generalize bSum false c = B at *
        go_region_held3 (fun w' => Keep w g x w' ∧ (convert 34 9 (.slice (some ⟨g, 0, none⟩) 512 cap)).run Tryd.prog w' = .ok (.string ⟨x.toArray⟩) w')
          (first | assumption | exact Keep.all (Keep.drew hk) | exact Keep.all (Keep.step (Keep.drew hk) hbA) | exact Keep.all (Keep.step (And.left (by assumption)) hbA))
          (first
            | (go_at_call 10; refine (C1.out _).mono ?_; rintro e wA ⟨hbA, rfl⟩)
            | (go_at_call 11; refine (C2.out _).mono ?_; rintro e wA ⟨rfl, rfl⟩)
            | (go_at_call_of 9 (Value.bool true); refine (C3.out _).mono ?_; rintro e wA ⟨rfl, rfl⟩)
            | (go_at_call_of 9 (Value.bool false); refine (C4.out _).mono ?_; rintro e wA ⟨rfl, rfl⟩)
            | (go_at_call 12; refine (awake3_any _).mono ?_; rintro e wA ⟨hbA, rfl⟩))
        have hS : Keep w g x wA := by first | assumption | exact And.left (by assumption)
        go_wp2
        go_ret
        exact ⟨hS.2.2, rfl⟩
end Go.Proofs.YtnlldpcgmbilaaaDoor.sumsSpoilt
