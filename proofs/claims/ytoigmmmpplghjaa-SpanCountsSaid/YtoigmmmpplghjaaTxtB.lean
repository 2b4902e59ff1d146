/-
  Contract of the document's Blank.
-/
import Derived.Test.YtoigmmmpplghjaaBase
import Derived.Test.YtoigmmmpplghjaaChecked
namespace Go.Proofs.Ytoigmmmpplghjaa
open Go.ChangeShapes Go.WideShapes Go.ChangeAt Go.RowKit

/-- Are all bytes NUL? -/
def txtBlank (l : List UInt8) : Bool := l.all (· == 0)

theorem refTBlank_any (l : List UInt8) (w : World) (hl : l.length ≤ 9223372036854775807) :
    Calls Try.prog 15 #[.string ⟨l.toArray⟩] w fun e w' => w = w' ∧ e = .returned (.bool (txtBlank l)) := by
  go_enter Try.func15, Try.ntmps15
  go_wp2
  go_loop [3] (fun i => ∃ k : Nat, k ≤ l.length ∧ i = .int .i64 k ∧ txtBlank (l.drop k) = txtBlank l) (fun i => l.length - (intOf i).toNat)
  case atStart => exact ⟨0, Nat.zero_le _, rfl, rfl⟩
  case round =>
    obtain ⟨k, hk, rfl, hs⟩ := hrel
    have Hs := Lib.hid hs
    clear hs
    by_cases hlt : k < l.length
    · have Hd := Lib.hid (show txtBlank l = ((l[k] == 0) && txtBlank (l.drop (k + 1))) by rw [← Hs.out, drop_at hlt]; rfl)
      by_cases h0 : (l[k].toNat : Int) = 0
      · have Hz := Lib.hid (show txtBlank (l.drop (k + 1)) = txtBlank l by
          rw [Hd.out, show (l[k] == 0) = true by rw [beq_iff_eq]; exact UInt8.toNat_inj.1 (by have : (0 : UInt8).toNat = 0 := rfl; omega)]; rfl)
        have e1 : ((l[k].toNat : Int) == 0) = true := by simpa using h0
        have e2 : ((l[k].toNat : Int) != 0) = false := by simpa using h0
        clear h0
        go_wp2
        go_round
        case rel => exact ⟨k + 1, by omega, by go_num, Hz.out⟩
        case measure => simp [intOf]; omega
      · have Hz := Lib.hid (show txtBlank l = false by
          rw [Hd.out, show (l[k] == 0) = false by rw [beq_eq_false_iff_ne]; intro e; exact h0 (by rw [e]; rfl)]; rfl)
        have e1 : ((l[k].toNat : Int) == 0) = false := by simpa using h0
        have e2 : ((l[k].toNat : Int) != 0) = true := by simpa using h0
        clear h0
        go_wp2
        go_ret
        rw [Hz.out]
        exact ⟨rfl, rfl⟩
    · have Hz := Lib.hid (show txtBlank l = true by rw [← Hs.out, List.drop_of_length_le (by omega)]; rfl)
      go_wp2
      go_ret
      rw [Hz.out]
      exact ⟨rfl, rfl⟩
end Go.Proofs.Ytoigmmmpplghjaa
