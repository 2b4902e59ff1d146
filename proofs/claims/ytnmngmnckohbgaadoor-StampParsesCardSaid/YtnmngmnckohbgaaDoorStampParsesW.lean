/- The walk of the law StampParses. -/
import Derived.Test.YtnmngmnckohbgaaDoorStA
import Derived.Test.YtnmngmnckohbgaaDoorStS
namespace Go.Proofs.YtnmngmnckohbgaaDoor.stampParses
open Go.ChangeShapes Go.WideShapes Go.ChangeAt Go.RowKit

theorem walk (s : List UInt8) (w : World) (hs : s.length ≤ maxLen) (ht : TabOk w) :
    Calls Tryd.prog 3 #[.string ⟨s.toArray⟩] w fun e w' => Below w.heap.size w w' ∧ e = .returned (.bool true) := by
  have P1 := Lib.hid (stParse_any s w hs)
  have Ht := Lib.hid ht
  clear ht
  unfold maxLen at hs
  by_cases hbig : 100 < s.length
  · rw [parse_long s hbig] at P1
    go_enter Tryd.func3, Tryd.ntmps3
    go_wp2_with fail
    refine P1.out.mono ?_
    rintro e w1 ⟨hb1, rfl⟩
    have Hb1 := Lib.hid hb1
    have Ht1 := Lib.hid ((Ht.out.below hb1 (Nat.le_refl _)).below ((Below.refl _ _).alloc (Nat.le_refl _) (.cells #[.int .i64 0, .int .i64 0] 23)) (Nat.le_refl _))
    clear hb1
    go_wp2_with fail
    refine (awake4_any _ Ht1.out).mono ?_
    rintro e w2 ⟨hb2, rfl⟩
    obtain ⟨H0, hb, hz⟩ := box1 hb2
    have Hb2 := Lib.hid (Hb1.out.trans (hb.mono Hb1.out.size))
    clear hb2 H0 hb
    go_wp2
    go_ret
    exact ⟨Hb2.out, rfl⟩
  · have R1 := Lib.hid (fun w1 => refParse_any s w1 (by omega))
    have hr := parse_right s
    rcases hp : stParse s with ⟨⟨a, c⟩, f⟩
    rw [hp] at P1 R1 hr
    by_cases hf : f = 0
    · have hR : stRight a c = true := hr hf
      subst hf
      have T1 := Lib.hid (fun w1 => stText_ok a c w1 hR)
      have P2 := Lib.hid (fun w1 => stParse_any (stText a c) w1 (by
        unfold stText maxLen
        have hb := stRight_true hR
        split
        · have := dec2_length (stOpp a c).1 (stOpp a c).2 (by unfold stOpp; split <;> simp only <;> omega)
          simp; omega
        · have := dec2_length a c (by omega); omega))
      rw [parse_text a c hR] at P2
      generalize stText a c = u at *
      clear hr hR hp
      go_enter Tryd.func3, Tryd.ntmps3
      go_wp2_with fail
      refine P1.out.mono ?_
      rintro e w1 ⟨hb1, rfl⟩
      have Hb1 := Lib.hid hb1
      have Ht1 := Lib.hid ((Ht.out.below hb1 (Nat.le_refl _)).below ((Below.refl _ _).alloc (Nat.le_refl _) (.cells #[.int .i64 a, .int .i64 c] 23)) (Nat.le_refl _))
      clear hb1
      go_wp2_with fail
      refine (R1.out _).mono ?_
      rintro e w' ⟨rfl, rfl⟩
      go_wp2_with fail
      refine (T1.out _ Ht1.out).mono ?_
      rintro e w2 ⟨hb2, rfl⟩
      have Ht2 := Lib.hid (Ht1.out.below hb2 (Nat.le_refl _))
      obtain ⟨H0, hb, hz⟩ := box1 hb2
      have Hb2 := Lib.hid (Hb1.out.trans (hb.mono Hb1.out.size))
      have H0' := Lib.hid H0
      clear hb2 H0 hb
      go_wp2_with fail
      refine (P2.out _).mono ?_
      rintro e w3 ⟨hb3, rfl⟩
      have Ht3 := Lib.hid ((Ht2.out.below hb3 (Nat.le_refl _)).below ((Below.refl _ _).alloc (Nat.le_refl _) (.cells #[.int .i64 a, .int .i64 c] 23)) (Nat.le_refl _))
      have H3 := H0'.out.under hb3 hz
      have hz3 : w1.heap.size < w3.heap.size := Nat.lt_of_lt_of_le hz hb3.size
      have Hb3 := Lib.hid (Hb2.out.trans (hb3.mono Hb2.out.size))
      obtain ⟨c0, c1, f0, f1⟩ := two_cells H3
      clear hb3 H3 hz
      go_wp2_with fail
      refine (awake4_any _ Ht3.out).mono ?_
      rintro e w4 ⟨hb4, rfl⟩
      obtain ⟨H0, hb, hz⟩ := box1 hb4
      have Hb4 := Lib.hid (Hb3.out.trans (hb.mono Hb3.out.size))
      clear hb4 H0 hb
      go_wp2
      go_ret
      exact ⟨Hb4.out, rfl⟩
    · have e0 : (f != 0) = true := by rw [bne_iff_ne]; exact hf
      clear hr hf hp
      go_enter Tryd.func3, Tryd.ntmps3
      go_wp2_with fail
      refine P1.out.mono ?_
      rintro e w1 ⟨hb1, rfl⟩
      have Hb1 := Lib.hid hb1
      have Ht1 := Lib.hid ((Ht.out.below hb1 (Nat.le_refl _)).below ((Below.refl _ _).alloc (Nat.le_refl _) (.cells #[.int .i64 a, .int .i64 c] 23)) (Nat.le_refl _))
      clear hb1
      go_wp2_with fail
      refine (R1.out _).mono ?_
      rintro e w' ⟨rfl, rfl⟩
      go_wp2_with fail
      refine (awake4_any _ Ht1.out).mono ?_
      rintro e w2 ⟨hb2, rfl⟩
      obtain ⟨H0, hb, hz⟩ := box1 hb2
      have Hb2 := Lib.hid (Hb1.out.trans (hb.mono Hb1.out.size))
      clear hb2 H0 hb
      go_wp2
      go_ret
      exact ⟨Hb2.out, rfl⟩
end Go.Proofs.YtnmngmnckohbgaaDoor.stampParses
