/-
  Contracts of text.Blank and of the document's own answers Read, Write and Blank.
-/
import Derived.Test.YtlloaalaldomkaaDoorTxt
namespace Go.Proofs.YtlloaalaldomkaaDoor
open Go.ChangeShapes Go.WideShapes Go.ChangeAt Go.RowKit

theorem refTRead_any (l : List UInt8) (w : World) (hl : l.length ≤ 9223372036854775807) :
    Calls Tryd.prog 24 #[.string ⟨l.toArray⟩] w fun e w' => w = w' ∧ e = .returned (.string ⟨(txtRead l).toArray⟩) := by
  have hall : ∀ k, k ≤ l.length → ((l.take k ++ txtRead (l.drop k)) = txtRead l) → k < l.length → ∀ (hk : k < l.length), l[k] ≠ 0 → (l.take (k + 1) ++ txtRead (l.drop (k + 1))) = txtRead l := by
    intro k _ h _ hk hne
    rw [drop_at hk, txtRead_cons, if_neg hne] at h
    rw [← h, ← List.take_append_getElem hk, List.append_assoc]; rfl
  go_enter Tryd.func24, Tryd.ntmps24
  have Hall := Lib.hid hall
  clear hall
  go_wp2
  go_loop [3] (fun i => ∃ k : Nat, k ≤ l.length ∧ i = .int .i64 k ∧ (l.take k ++ txtRead (l.drop k)) = txtRead l) (fun i => l.length - (intOf i).toNat)
  case atStart => exact ⟨0, Nat.zero_le _, rfl, by simp⟩
  case round =>
    obtain ⟨k, hk, rfl, hs⟩ := hrel
    have Hs := Lib.hid hs
    clear hs
    by_cases hlt : k < l.length
    · by_cases h0 : (l[k].toNat : Int) = 0
      · have Hz := Lib.hid (show txtRead l = l.take k by
          rw [← Hs.out, drop_at hlt, txtRead_cons, if_pos (UInt8.toNat_inj.1 (by have : (0 : UInt8).toNat = 0 := rfl; omega)), List.append_nil])
        have e1 : ((l[k].toNat : Int) == 0) = true := by simpa using h0
        have e2 : ((l[k].toNat : Int) != 0) = false := by simpa using h0
        clear h0
        go_wp2
        go_ret
        rw [Hz.out]
        exact ⟨rfl, by simp⟩
      · have Hn := Lib.hid (Hall.out k hk Hs.out hlt hlt (fun e => h0 (by rw [e]; rfl)))
        have e1 : ((l[k].toNat : Int) == 0) = false := by simpa using h0
        have e2 : ((l[k].toNat : Int) != 0) = true := by simpa using h0
        clear h0
        go_wp2
        go_round
        case rel => exact ⟨k + 1, by omega, by go_num, Hn.out⟩
        case measure => simp [intOf]; omega
    · have Hz := Lib.hid (show txtRead l = l.take k by
        rw [← Hs.out, List.drop_of_length_le (by omega)]; simp [txtRead])
      go_wp2
      go_ret
      rw [Hz.out]
      exact ⟨rfl, by simp⟩

theorem refTWrite_ok (l : List UInt8) (n : Nat) (w : World) (hn : n ≤ 512) (hl : l.length ≤ n) (h0 : 0 ∉ l) :
    Calls Tryd.prog 50 #[.string ⟨l.toArray⟩, .int .i64 n] w fun e w' => w = w' ∧ e = .returned (.tuple #[.string ⟨(l ++ List.replicate (n - l.length) 0).toArray⟩, .bool true]) := by
  have Hr := Lib.hid (refTRead_any l w (by omega))
  rw [txtRead_all l h0] at Hr
  clear h0
  go_enter Tryd.func50, Tryd.ntmps50
  go_wp2_with fail
  refine Hr.out.mono ?_
  rintro e w' ⟨rfl, rfl⟩
  go_wp2
  go_loop [0] (fun s => ∃ t : List UInt8, s = .string ⟨t.toArray⟩ ∧ t.length ≤ n ∧ (t ++ List.replicate (n - t.length) 0) = (l ++ List.replicate (n - l.length) 0)) (fun s => n - (match s with | .string b => b.size | _ => 0))
  case atStart => exact ⟨l, rfl, hl, rfl⟩
  case round =>
    obtain ⟨t, rfl, ht, hs⟩ := hrel
    have Hs := Lib.hid hs
    clear hs
    by_cases hlt : t.length < n
    · have Hn := Lib.hid (show ((t ++ [0]) ++ List.replicate (n - (t ++ [0]).length) 0) = (l ++ List.replicate (n - l.length) 0) by
        rw [← Hs.out, List.append_assoc]
        congr 1
        rw [List.length_append, List.length_singleton, show n - t.length = (n - (t.length + 1)) + 1 by omega, List.replicate_succ]
        rfl)
      go_wp2
      go_round
      case rel => exact ⟨t ++ [0], rfl, by simp; omega, Hn.out⟩
      case measure => show n - (t ++ [0]).length < n - t.length; rw [List.length_append, List.length_singleton]; omega
    · have Hz := Lib.hid (show (l ++ List.replicate (n - l.length) 0) = t by rw [← Hs.out, show n - t.length = 0 by omega]; simp)
      go_wp2
      go_ret2
      rw [Hz.out]
      exact ⟨rfl, rfl⟩

theorem refTWrite_no (l : List UInt8) (n : Int) (w : World) (hl : l.length ≤ 9223372036854775807) (h : ¬ (0 ≤ n ∧ n ≤ 512 ∧ (l.length : Int) ≤ n ∧ 0 ∉ l)) :
    Calls Tryd.prog 50 #[.string ⟨l.toArray⟩, .int .i64 n] w fun e w' => w = w' ∧ e = .returned (.tuple #[.string ⟨([] : List UInt8).toArray⟩, .bool false]) := by
  by_cases h1 : n < 0
  · clear h
    go_enter Tryd.func50, Tryd.ntmps50
    go_wp2
    go_ret2
    exact ⟨rfl, rfl⟩
  · by_cases h2 : 512 < n
    · clear h
      go_enter Tryd.func50, Tryd.ntmps50
      go_wp2
      go_ret2
      exact ⟨rfl, rfl⟩
    · by_cases h3 : n < (l.length : Int)
      · clear h
        go_enter Tryd.func50, Tryd.ntmps50
        go_wp2
        go_ret2
        exact ⟨rfl, rfl⟩
      · have h0 : 0 ∈ l := by
          by_cases hm : 0 ∈ l
          · exact hm
          · exact absurd ⟨by omega, by omega, by omega, hm⟩ h
        have Hr := Lib.hid (refTRead_any l w hl)
        have hne : (txtRead l == l) = false := by
          rw [beq_eq_false_iff_ne]; intro e; exact (txtRead_eq_iff l).1 e h0
        generalize txtRead l = t at *
        clear h h0
        go_enter Tryd.func50, Tryd.ntmps50
        go_wp2_with fail
        refine Hr.out.mono ?_
        rintro e w' ⟨rfl, rfl⟩
        go_wp2
        go_ret2
        exact ⟨rfl, rfl⟩

theorem refTWrite_any (l : List UInt8) (n : Int) (w : World) (hl : l.length ≤ 9223372036854775807) :
    Calls Tryd.prog 50 #[.string ⟨l.toArray⟩, .int .i64 n] w fun e w' => w = w' ∧ e = .returned (.tuple #[.string ⟨((txtWrite l n).getD []).toArray⟩, .bool (txtWrite l n).isSome]) := by
  by_cases h : 0 ≤ n ∧ n ≤ 512 ∧ (l.length : Int) ≤ n ∧ 0 ∉ l
  · obtain ⟨m, rfl⟩ : ∃ m : Nat, n = m := ⟨n.toNat, by omega⟩
    have hq : txtWrite l m = some (l ++ List.replicate (m - l.length) 0) := by unfold txtWrite; rw [if_pos h]; rfl
    rw [hq]
    exact refTWrite_ok l m w (by omega) (by omega) h.2.2.2
  · have hq : txtWrite l n = none := by unfold txtWrite; rw [if_neg h]
    rw [hq]
    exact refTWrite_no l n w hl h

/-- Are all bytes NUL? -/
def txtBlank (l : List UInt8) : Bool := l.all (· == 0)

theorem trimLeft_nul (l : List UInt8) : (Lib.trimLeftB l 0 == []) = txtBlank l := by
  induction l with
  | nil => rfl
  | cons b l ih =>
    unfold Lib.trimLeftB txtBlank at *
    by_cases h : b = 0
    · rw [List.dropWhile_cons_of_pos (by simp [h]), List.all_cons, ih]; simp [h]
    · rw [List.dropWhile_cons_of_neg (by simp [h]), List.all_cons]; simp [h]

theorem tBlank_any (l : List UInt8) (w : World) :
    Calls Tryd.prog 44 #[.string ⟨l.toArray⟩] w fun e w' => w = w' ∧ e = .returned (.bool (txtBlank l)) := by
  have Hc := Lib.hid (Tryd.strings_TrimLeft_one ⟨l.toArray⟩ 0 (by decide) w)
  have Hq := Lib.hid (show (Lib.trimLeftB (⟨l.toArray⟩ : ByteArray).data.toList 0 == []) = txtBlank l from trimLeft_nul l)
  generalize Lib.trimLeftB (⟨l.toArray⟩ : ByteArray).data.toList 0 = t at *
  rcases t with _ | ⟨c, t⟩
  · go_enter Tryd.func44, Tryd.ntmps44
    go_wp2_with fail
    refine Hc.out.mono ?_
    rintro e w' ⟨rfl, rfl⟩
    go_wp2
    go_ret
    rw [← Hq.out]
    exact ⟨rfl, rfl⟩
  · go_enter Tryd.func44, Tryd.ntmps44
    go_wp2_with fail
    refine Hc.out.mono ?_
    rintro e w' ⟨rfl, rfl⟩
    go_wp2
    go_ret
    rw [← Hq.out]
    exact ⟨rfl, rfl⟩

theorem refTBlank_any (l : List UInt8) (w : World) (hl : l.length ≤ 9223372036854775807) :
    Calls Tryd.prog 22 #[.string ⟨l.toArray⟩] w fun e w' => w = w' ∧ e = .returned (.bool (txtBlank l)) := by
  go_enter Tryd.func22, Tryd.ntmps22
  go_wp2
  go_loop [3] (fun i => ∃ k : Nat, k ≤ l.length ∧ i = .int .i64 k ∧ txtBlank (l.drop k) = txtBlank l) (fun i => l.length - (intOf i).toNat)
  case atStart => exact ⟨0, Nat.zero_le _, rfl, rfl⟩
  case round =>
    obtain ⟨k, hk, rfl, hs⟩ := hrel
    have Hs := Lib.hid hs
    clear hs
    by_cases hlt : k < l.length
    · have Hd := Lib.hid (show txtBlank l = ((l[k] == 0) && txtBlank (l.drop (k + 1))) by rw [← Hs.out, drop_at hlt]; rfl)
      by_cases h0 : (l[k].toNat : Int) = 0
      · have Hz := Lib.hid (show txtBlank (l.drop (k + 1)) = txtBlank l by
          rw [Hd.out, show (l[k] == 0) = true by rw [beq_iff_eq]; exact UInt8.toNat_inj.1 (by have : (0 : UInt8).toNat = 0 := rfl; omega)]; rfl)
        have e1 : ((l[k].toNat : Int) == 0) = true := by simpa using h0
        have e2 : ((l[k].toNat : Int) != 0) = false := by simpa using h0
        clear h0
        go_wp2
        go_round
        case rel => exact ⟨k + 1, by omega, by go_num, Hz.out⟩
        case measure => simp [intOf]; omega
      · have Hz := Lib.hid (show txtBlank l = false by
          rw [Hd.out, show (l[k] == 0) = false by rw [beq_eq_false_iff_ne]; intro e; exact h0 (by rw [e]; rfl)]; rfl)
        have e1 : ((l[k].toNat : Int) == 0) = false := by simpa using h0
        have e2 : ((l[k].toNat : Int) != 0) = true := by simpa using h0
        clear h0
        go_wp2
        go_ret
        rw [Hz.out]
        exact ⟨rfl, rfl⟩
    · have Hz := Lib.hid (show txtBlank l = true by rw [← Hs.out, List.drop_of_length_le (by omega)]; rfl)
      go_wp2
      go_ret
      rw [Hz.out]
      exact ⟨rfl, rfl⟩
end Go.Proofs.YtlloaalaldomkaaDoor
