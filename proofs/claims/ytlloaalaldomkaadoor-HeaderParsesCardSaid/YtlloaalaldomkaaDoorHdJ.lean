/-
  Contract of the document's own Build of a head.
-/
import Derived.Test.YtlloaalaldomkaaDoorHdG
namespace Go.Proofs.YtlloaalaldomkaaDoor
open Go.ChangeShapes Go.WideShapes Go.ChangeAt Go.RowKit

def padF (s : List UInt8) (n : Nat) : List UInt8 := s ++ List.replicate (n - s.length) 0
/-- The document's block before it is sealed. -/
def refRaw (h : Hd) (p b : List UInt8) : List UInt8 :=
  padF b 100 ++ octStr h.mode 8 ++ octStr h.uid 8 ++ octStr h.gid 8 ++ octStr h.size 12 ++ octStr h.time 12 ++ [32, 32, 32, 32, 32, 32, 32, 32] ++ [UInt8.ofNat (hdKind h.kind).toNat] ++ padF h.link 100 ++ hdMark ++ padF h.uname 32 ++ padF h.gname 32 ++ octStr h.major 8 ++ octStr h.minor 8 ++ padF p 155 ++ padF [] 12

theorem padF_length (s : List UInt8) (n : Nat) (h : s.length ≤ n) : (padF s n).length = n := by simp [padF]; omega

set_option maxRecDepth 100000 in
set_option maxHeartbeats 2000000 in
theorem refBuild_walk (w : World) (C : List Value) (nm y1 y2 y3 p b pb pl pu pg pp pz o0 o1 o2 o3 o4 o5 o6 S : List UInt8) (k m0 m1 m2 m3 m4 m5 m6 : Int)
    (hk : Hid (0 ≤ k ∧ k < 256))
    (Hc : Hid (C[0]? = some (.string ⟨nm.toArray⟩) ∧ C[1]? = some (.string ⟨y1.toArray⟩) ∧ C[2]? = some (.int .u8 k) ∧ C[3]? = some (.int .i64 m0) ∧ C[4]? = some (.int .i64 m1) ∧ C[5]? = some (.int .i64 m2) ∧ C[6]? = some (.int .i64 m3) ∧ C[7]? = some (.int .i64 m4) ∧ C[8]? = some (.string ⟨y2.toArray⟩) ∧ C[9]? = some (.string ⟨y3.toArray⟩) ∧ C[10]? = some (.int .i64 m5) ∧ C[11]? = some (.int .i64 m6)))
    (RP : Hid (∀ w : World, Calls Tryd.prog 25 #[.string ⟨nm.toArray⟩] w fun e w' => Below w.heap.size w w' ∧ e = .returned (.tuple #[.string ⟨p.toArray⟩, .string ⟨b.toArray⟩, .bool true])))
    (Fb : Hid (∀ w : World, Calls Tryd.prog 27 #[.string ⟨b.toArray⟩, .int .i64 100] w fun e w' => w = w' ∧ e = .returned (.string ⟨pb.toArray⟩)))
    (Fl : Hid (∀ w : World, Calls Tryd.prog 27 #[.string ⟨y1.toArray⟩, .int .i64 100] w fun e w' => w = w' ∧ e = .returned (.string ⟨pl.toArray⟩)))
    (Fu : Hid (∀ w : World, Calls Tryd.prog 27 #[.string ⟨y2.toArray⟩, .int .i64 32] w fun e w' => w = w' ∧ e = .returned (.string ⟨pu.toArray⟩)))
    (Fg : Hid (∀ w : World, Calls Tryd.prog 27 #[.string ⟨y3.toArray⟩, .int .i64 32] w fun e w' => w = w' ∧ e = .returned (.string ⟨pg.toArray⟩)))
    (Fp : Hid (∀ w : World, Calls Tryd.prog 27 #[.string ⟨p.toArray⟩, .int .i64 155] w fun e w' => w = w' ∧ e = .returned (.string ⟨pp.toArray⟩)))
    (Fz : Hid (∀ w : World, Calls Tryd.prog 27 #[.string ⟨([] : List UInt8).toArray⟩, .int .i64 12] w fun e w' => w = w' ∧ e = .returned (.string ⟨pz.toArray⟩)))
    (G0 : Hid (∀ w : World, Calls Tryd.prog 28 #[.int .i64 m0, .int .i64 8] w fun e w' => w = w' ∧ e = .returned (.string ⟨o0.toArray⟩)))
    (G1 : Hid (∀ w : World, Calls Tryd.prog 28 #[.int .i64 m1, .int .i64 8] w fun e w' => w = w' ∧ e = .returned (.string ⟨o1.toArray⟩)))
    (G2 : Hid (∀ w : World, Calls Tryd.prog 28 #[.int .i64 m2, .int .i64 8] w fun e w' => w = w' ∧ e = .returned (.string ⟨o2.toArray⟩)))
    (G3 : Hid (∀ w : World, Calls Tryd.prog 28 #[.int .i64 m3, .int .i64 12] w fun e w' => w = w' ∧ e = .returned (.string ⟨o3.toArray⟩)))
    (G4 : Hid (∀ w : World, Calls Tryd.prog 28 #[.int .i64 m4, .int .i64 12] w fun e w' => w = w' ∧ e = .returned (.string ⟨o4.toArray⟩)))
    (G5 : Hid (∀ w : World, Calls Tryd.prog 28 #[.int .i64 m5, .int .i64 8] w fun e w' => w = w' ∧ e = .returned (.string ⟨o5.toArray⟩)))
    (G6 : Hid (∀ w : World, Calls Tryd.prog 28 #[.int .i64 m6, .int .i64 8] w fun e w' => w = w' ∧ e = .returned (.string ⟨o6.toArray⟩)))
    (n0 : pb.length = 100) (n1 : o0.length = 8) (n2 : o1.length = 8) (n3 : o2.length = 8) (n4 : o3.length = 12) (n5 : o4.length = 12) (n6 : pl.length = 100) (n7 : pu.length = 32) (n8 : pg.length = 32) (n9 : o5.length = 8) (n10 : o6.length = 8) (n11 : pp.length = 155) (n12 : pz.length = 12)
    (HS : Hid (∀ w : World, Calls Tryd.prog 14 #[.string ⟨(pb ++ o0 ++ o1 ++ o2 ++ o3 ++ o4 ++ [32, 32, 32, 32, 32, 32, 32, 32] ++ [UInt8.ofNat (hdKind k).toNat] ++ pl ++ hdMark ++ pu ++ pg ++ o5 ++ o6 ++ pp ++ pz).toArray⟩] w fun e w' => Below w.heap.size w w' ∧ e = .returned (.string ⟨S.toArray⟩))) :
    Calls Tryd.prog 11 #[.agg C.toArray] w fun e w' => Below w.heap.size w w' ∧ e = .returned (.string ⟨S.toArray⟩) := by
  have Ho := Lib.hid (Holds.new w 23 C)
  have c0 : (w.alloc (.cells C.toArray 23)).cell? ⟨w.heap.size, 0, none⟩ = some (.string ⟨nm.toArray⟩) := Ho.out.at Hc.out.1
  have hkk : (if k = 0 then [48] else [UInt8.ofNat k.toNat]) = [UInt8.ofNat (hdKind k).toNat] := by
    unfold hdKind
    by_cases h : k = 0
    · rw [if_pos h, if_pos h]; rfl
    · rw [if_neg h, if_neg h]
  have n13 : [UInt8.ofNat (hdKind k).toNat].length = 1 := rfl
  have n14 : hdMark.length = 8 := rfl
  have n15 : ([32, 32, 32, 32, 32, 32, 32, 32] : List UInt8).length = 8 := rfl
  have Hm := Lib.hid (show hdMark = [117, 115, 116, 97, 114, 0, 48, 48] from rfl)
  have HKK := Lib.hid hkk
  clear hkk
  generalize [UInt8.ofNat (hdKind k).toNat] = ks at *
  go_enter Tryd.func11, Tryd.ntmps11
  go_wp2_with fail
  refine (RP.out _).mono ?_
  rintro e w2 ⟨hb2, rfl⟩
  have Ho2 := Lib.hid (Ho.out.under hb2 Ho.out.lt)
  have Hb2 := Lib.hid (((Below.refl w.heap.size w).alloc (Nat.le_refl _) (.cells C.toArray 23)).trans (hb2.mono (by simp)))
  have hz2 : w.heap.size < w2.heap.size := Ho2.out.lt
  clear hb2 c0 Ho
  have c2 : w2.cell? ⟨w.heap.size, 2, none⟩ = some (.int .u8 k) := Ho2.out.at Hc.out.2.2.1
  have hconv := run_byte_string (P := Tryd.prog) 39 5 9 Tryd.underlying39 Tryd.underlying5 Tryd.underlying9 k hk.out.1 hk.out.2 w2
  by_cases hk0 : k = 0
  · have e0 : (k == 0) = true := by rw [hk0]; rfl
    have Hks := Lib.hid (show ks = [48] by rw [← HKK.out, if_pos hk0])
    clear hk0 HKK
    go_wp2_with fail
    have Ho3 := Lib.hid (Ho2.out.behind (.cells #[.int .u8 k] 5))
    have Hb3 := Lib.hid (Hb2.out.alloc Hb2.out.size (.cells #[.int .u8 k] 5))
    clear hconv c2 Ho2 Hb2
    generalize w2.alloc (.cells #[.int .u8 k] 5) = w3 at *
    obtain ⟨-, h1, -, h3, h4, h5, h6, h7, h8, h9, h10, h11⟩ := Hc.out
    have c1 := Ho3.out.at h1
    have c3 := Ho3.out.at h3
    have c4 := Ho3.out.at h4
    have c5 := Ho3.out.at h5
    have c6 := Ho3.out.at h6
    have c7 := Ho3.out.at h7
    have c8 := Ho3.out.at h8
    have c9 := Ho3.out.at h9
    have c10 := Ho3.out.at h10
    have c11 := Ho3.out.at h11
    clear h1 h3 h4 h5 h6 h7 h8 h9 h10 h11 Hc Ho3
    go_quiet (first
          | (go_at_call_of 27 (#[Value.string ⟨b.toArray⟩, Value.int .i64 100]); exact quiet_eq0 (Fb.out _))
          | (go_at_call_of 27 (#[Value.string ⟨y1.toArray⟩, Value.int .i64 100]); exact quiet_eq0 (Fl.out _))
          | (go_at_call_of 27 (#[Value.string ⟨y2.toArray⟩, Value.int .i64 32]); exact quiet_eq0 (Fu.out _))
          | (go_at_call_of 27 (#[Value.string ⟨y3.toArray⟩, Value.int .i64 32]); exact quiet_eq0 (Fg.out _))
          | (go_at_call_of 27 (#[Value.string ⟨p.toArray⟩, Value.int .i64 155]); exact quiet_eq0 (Fp.out _))
          | (go_at_call_of 27 (#[Value.string ⟨#[]⟩, Value.int .i64 12]); exact quiet_eq0 (Fz.out _))
          | (go_at_call_of 28 (#[Value.int .i64 m0, Value.int .i64 8]); exact quiet_eq0 (G0.out _))
          | (go_at_call_of 28 (#[Value.int .i64 m1, Value.int .i64 8]); exact quiet_eq0 (G1.out _))
          | (go_at_call_of 28 (#[Value.int .i64 m2, Value.int .i64 8]); exact quiet_eq0 (G2.out _))
          | (go_at_call_of 28 (#[Value.int .i64 m3, Value.int .i64 12]); exact quiet_eq0 (G3.out _))
          | (go_at_call_of 28 (#[Value.int .i64 m4, Value.int .i64 12]); exact quiet_eq0 (G4.out _))
          | (go_at_call_of 28 (#[Value.int .i64 m5, Value.int .i64 8]); exact quiet_eq0 (G5.out _))
          | (go_at_call_of 28 (#[Value.int .i64 m6, Value.int .i64 8]); exact quiet_eq0 (G6.out _)))
    have Hb4 := Lib.hid (show Below w.heap.size w (w3.drewN nq) from below_drewN Hb3.out _)
    generalize w3.drewN nq = w4 at *
    go_wp2_with fail
    have H := HS.out w4
    rw [Hm.out, Hks.out] at H
    simp only [List.append_assoc, List.cons_append, List.nil_append] at H
    refine H.mono ?_
    rintro e w5 ⟨hb5, rfl⟩
    have Hb5 := Lib.hid (Hb4.out.trans (hb5.mono Hb4.out.size))
    clear hb5 H
    go_wp2
    go_ret
    exact ⟨Hb5.out, rfl⟩
  · have e0 : (k == 0) = false := by rw [beq_eq_false_iff_ne]; exact hk0
    have Hks := Lib.hid (show ks = [UInt8.ofNat k.toNat] by rw [← HKK.out, if_neg hk0])
    clear hk0 HKK
    have n16 : [UInt8.ofNat k.toNat].length = 1 := rfl
    generalize [UInt8.ofNat k.toNat] = kq at *
    go_wp2_with fail
    have Ho3 := Lib.hid (Ho2.out.behind (.cells #[.int .u8 k] 5))
    have Hb3 := Lib.hid (Hb2.out.alloc Hb2.out.size (.cells #[.int .u8 k] 5))
    clear hconv c2 Ho2 Hb2
    generalize w2.alloc (.cells #[.int .u8 k] 5) = w3 at *
    obtain ⟨-, h1, -, h3, h4, h5, h6, h7, h8, h9, h10, h11⟩ := Hc.out
    have c1 := Ho3.out.at h1
    have c3 := Ho3.out.at h3
    have c4 := Ho3.out.at h4
    have c5 := Ho3.out.at h5
    have c6 := Ho3.out.at h6
    have c7 := Ho3.out.at h7
    have c8 := Ho3.out.at h8
    have c9 := Ho3.out.at h9
    have c10 := Ho3.out.at h10
    have c11 := Ho3.out.at h11
    clear h1 h3 h4 h5 h6 h7 h8 h9 h10 h11 Hc Ho3
    go_quiet (first
          | (go_at_call_of 27 (#[Value.string ⟨b.toArray⟩, Value.int .i64 100]); exact quiet_eq0 (Fb.out _))
          | (go_at_call_of 27 (#[Value.string ⟨y1.toArray⟩, Value.int .i64 100]); exact quiet_eq0 (Fl.out _))
          | (go_at_call_of 27 (#[Value.string ⟨y2.toArray⟩, Value.int .i64 32]); exact quiet_eq0 (Fu.out _))
          | (go_at_call_of 27 (#[Value.string ⟨y3.toArray⟩, Value.int .i64 32]); exact quiet_eq0 (Fg.out _))
          | (go_at_call_of 27 (#[Value.string ⟨p.toArray⟩, Value.int .i64 155]); exact quiet_eq0 (Fp.out _))
          | (go_at_call_of 27 (#[Value.string ⟨#[]⟩, Value.int .i64 12]); exact quiet_eq0 (Fz.out _))
          | (go_at_call_of 28 (#[Value.int .i64 m0, Value.int .i64 8]); exact quiet_eq0 (G0.out _))
          | (go_at_call_of 28 (#[Value.int .i64 m1, Value.int .i64 8]); exact quiet_eq0 (G1.out _))
          | (go_at_call_of 28 (#[Value.int .i64 m2, Value.int .i64 8]); exact quiet_eq0 (G2.out _))
          | (go_at_call_of 28 (#[Value.int .i64 m3, Value.int .i64 12]); exact quiet_eq0 (G3.out _))
          | (go_at_call_of 28 (#[Value.int .i64 m4, Value.int .i64 12]); exact quiet_eq0 (G4.out _))
          | (go_at_call_of 28 (#[Value.int .i64 m5, Value.int .i64 8]); exact quiet_eq0 (G5.out _))
          | (go_at_call_of 28 (#[Value.int .i64 m6, Value.int .i64 8]); exact quiet_eq0 (G6.out _)))
    have Hb4 := Lib.hid (show Below w.heap.size w (w3.drewN nq) from below_drewN Hb3.out _)
    generalize w3.drewN nq = w4 at *
    go_wp2_with fail
    have H := HS.out w4
    rw [Hm.out, Hks.out] at H
    simp only [List.append_assoc, List.cons_append, List.nil_append] at H
    refine H.mono ?_
    rintro e w5 ⟨hb5, rfl⟩
    have Hb5 := Lib.hid (Hb4.out.trans (hb5.mono Hb4.out.size))
    clear hb5 H
    go_wp2
    go_ret
    exact ⟨Hb5.out, rfl⟩
end Go.Proofs.YtlloaalaldomkaaDoor
