/-
  Texts of this seat's proof, joined: their order is that of the build.
-/
import Derived.Test.YtjmmecokfijglaaGreatDoorJ02
namespace Go.Proofs.YtjmmecokfijglaaGreatDoor
open Go.ChangeShapes Go.WideShapes Go.ChangeAt Go.RowKit

/-- A base to a power, as long as it is below 2 to the power of 54. -/
def refPow (b : Int) : Nat → Int → Int
  | 0, v => v
  | k + 1, v => if v < 18014398509481984 then refPow b k (v * b) else v

theorem refPow_succ (b : Int) (k : Nat) (v : Int) : refPow b (k + 1) v = if v < 18014398509481984 then refPow b k (v * b) else v := rfl

theorem refPow8 (m : Nat) (h : m ≤ 11) : refPow 8 m 1 = 8 ^ m := by
  have : m = 0 ∨ m = 1 ∨ m = 2 ∨ m = 3 ∨ m = 4 ∨ m = 5 ∨ m = 6 ∨ m = 7 ∨ m = 8 ∨ m = 9 ∨ m = 10 ∨ m = 11 := by omega
  rcases this with h | h | h | h | h | h | h | h | h | h | h | h <;> subst h <;> decide
theorem refPow256 (m : Nat) (h : m ≤ 6) : refPow 256 m 1 = 256 ^ m := by
  have : m = 0 ∨ m = 1 ∨ m = 2 ∨ m = 3 ∨ m = 4 ∨ m = 5 ∨ m = 6 := by omega
  rcases this with h | h | h | h | h | h | h <;> subst h <;> decide
theorem refPow256_le (m : Nat) : ∀ v : Int, 0 ≤ v → v ≤ 4611686018427387904 → 0 ≤ refPow 256 m v ∧ refPow 256 m v ≤ 4611686018427387904 := by
  induction m with
  | zero => intro v h0 h1; exact ⟨h0, h1⟩
  | succ k ih =>
    intro v h0 h1
    rw [refPow_succ]
    by_cases h : v < 18014398509481984
    · rw [if_pos h]; exact ih _ (by omega) (by omega)
    · rw [if_neg h]; exact ⟨h0, h1⟩

/-! ### Octal -/
/-- m digits more, put ahead of s. -/
def refOct : Nat → Int → List UInt8 → List UInt8
  | 0, _, s => s
  | m + 1, v, s => refOct m (v / 8) (UInt8.ofNat (48 + v % 8).toNat :: s)

theorem refOct_succ (m : Nat) (v : Int) (s : List UInt8) : refOct (m + 1) v s = refOct m (v / 8) (UInt8.ofNat (48 + v % 8).toNat :: s) := rfl

/-- m digits of v, the highest one first. -/
def digs (m : Nat) (v : Int) : List UInt8 := (List.range m).map fun k => UInt8.ofNat (48 + v / 8 ^ (m - 1 - k) % 8).toNat

theorem refOct_digs (m : Nat) : ∀ (v : Int) (s : List UInt8), refOct m v s = digs m v ++ s := by
  induction m with
  | zero => intro v s; rfl
  | succ m ih =>
    intro v s
    rw [refOct_succ, ih]
    unfold digs
    rw [List.range_succ, List.map_append, List.append_assoc]
    congr 1
    · apply List.map_congr_left
      intro k hk
      have hk : k < m := by simpa using hk
      congr 4
      rw [Int.ediv_ediv_of_nonneg (by decide), ← Int.pow_succ']
      congr 2
      omega
    · simp

theorem octStr_digs (v : Int) (n : Nat) : octStr v n = digs (n - 1) v ++ [0] := by
  unfold octStr digs
  congr 1
  apply List.map_congr_left
  intro k hk
  unfold octDig
  rw [Int.pow_mul]
  have : n - 2 - k = n - 1 - 1 - k := by omega
  rw [this]
  rfl

theorem octStr_ref (v : Int) (n : Nat) : octStr v n = refOct (n - 1) v [0] := by rw [octStr_digs, refOct_digs]

theorem digs_succ (m : Nat) (v : Int) : digs (m + 1) v = UInt8.ofNat (48 + v / 8 ^ m % 8).toNat :: digs m v := by
  unfold digs
  rw [List.range_succ_eq_map, List.map_cons, List.map_map]
  congr 1
  apply List.map_congr_left
  intro k _
  show UInt8.ofNat (48 + v / 8 ^ (m + 1 - 1 - (k + 1)) % 8).toNat = _
  rw [show m + 1 - 1 - (k + 1) = m - 1 - k by omega]

theorem digit_byte (x : Int) : ((UInt8.ofNat (48 + x % 8).toNat).toNat : Int) = 48 + x % 8 := by
  rw [UInt8.toNat_ofNat']
  have : (48 + x % 8).toNat % 2 ^ 8 = (48 + x % 8).toNat := Nat.mod_eq_of_lt (by omega)
  rw [this]; omega

theorem mod_split (v : Int) (m : Nat) : v % 8 ^ (m + 1) = v / 8 ^ m % 8 * 8 ^ m + v % 8 ^ m := by
  have hp : (0 : Int) < 8 ^ m := Int.pow_pos (by decide)
  have h1 := Int.emod_add_mul_ediv v (8 ^ m)
  have h2 := Int.emod_add_mul_ediv (v / 8 ^ m) 8
  have h3 := Int.emod_add_mul_ediv v (8 ^ (m + 1))
  have h4 : v / 8 ^ (m + 1) = v / 8 ^ m / 8 := by rw [Int.ediv_ediv_of_nonneg (Int.le_of_lt hp), ← Int.pow_succ]
  rw [h4, Int.pow_succ] at h3
  generalize v / 8 ^ m / 8 = q at *
  generalize v / 8 ^ m = a at *
  generalize a % 8 = d at *
  generalize v % 8 ^ m = r at *
  rw [Int.pow_succ]
  generalize (8 : Int) ^ m = p at *
  generalize v % (p * 8) = t at *
  have e : a = d + 8 * q := h2.symm
  subst e
  rw [← h1] at h3
  have : p * (d + 8 * q) = d * p + p * 8 * q := by rw [Int.mul_add, Int.mul_comm p d, Int.mul_assoc]
  omega

theorem readOctal_digs (m : Nat) : ∀ (q z v : Int), q ≠ 2 → readOctal q z (digs m v ++ [0]) = (z * 8 ^ m + v % 8 ^ m, 0) := by
  induction m with
  | zero =>
    intro q z v hq
    show readOctal q z [0] = _
    rw [readOctal_cons, if_neg (by simp), if_neg (by simp), if_pos (by simp)]
    show (z, 0) = _
    simp [Int.emod_one]
  | succ m ih =>
    intro q z v hq
    rw [digs_succ, List.cons_append, readOctal_cons, digit_byte]
    rw [if_neg (by omega), if_pos ⟨hq, by omega, by omega⟩, ih 1 _ v (by decide), mod_split v m, Int.pow_succ]
    congr 1
    rw [show 48 + v / 8 ^ m % 8 - 48 = v / 8 ^ m % 8 by omega, Int.add_mul, Int.mul_assoc, Int.mul_comm 8 ((8 : Int) ^ m)]
    omega

theorem octRead_octStr (v : Int) (n : Nat) (h2 : 2 ≤ n) (h12 : n ≤ 12) (h0 : 0 ≤ v) (hs : v / 2 ^ (3 * (n - 1)) = 0) : octRead (octStr v n) = (v, 0) := by
  have hlen : (octStr v n).length = n := by simp [octStr]; omega
  have hv : v % 8 ^ (n - 1) = v := by
    rw [Int.pow_mul] at hs
    have hp : (0 : Int) < (2 ^ 3) ^ (n - 1) := Int.pow_pos (by decide)
    have := Int.lt_ediv_add_one_mul_self v hp
    rw [hs] at this
    exact Int.emod_eq_of_lt h0 (by simpa using this)
  have hr := readOctal_digs (n - 1) 0 0 v (by decide)
  rw [← octStr_digs, hv, Int.zero_mul, Int.zero_add] at hr
  obtain ⟨m, rfl⟩ : ∃ m, n = m + 2 := ⟨n - 2, by omega⟩
  rw [octStr_digs, show m + 2 - 1 = m + 1 by omega, digs_succ, List.cons_append] at hr hlen ⊢
  unfold octRead
  rw [if_pos (by rw [hlen]; simp [isSize]; omega)]
  show (if _ then _ else if _ then _ else _) = _
  rw [digit_byte, if_neg (by omega), if_neg (by omega)]
  exact hr

/-! ### Binary -/
theorem shr_eq (v : Int) (c : Nat) (h : -9223372036854775808 ≤ v ∧ v ≤ 9223372036854775807) : shr v c = v / 2 ^ c := by
  unfold shr
  rcases Nat.le_total c 64 with hc | hc
  · rw [Nat.min_eq_left hc]
  · rw [Nat.min_eq_right hc]
    have h64 : (2 : Int) ^ 64 = 18446744073709551616 := by decide
    have hle : (2 : Int) ^ 64 ≤ 2 ^ c := by
      have := Nat.pow_le_pow_right (n := 2) (by decide) hc
      exact_mod_cast this
    by_cases hn : 0 ≤ v
    · rw [Int.ediv_eq_zero_of_lt hn (by omega), Int.ediv_eq_zero_of_lt hn (by omega)]
    · have e : ∀ p : Int, 18446744073709551616 ≤ p → v / p = -1 := by
        intro p hp
        have h1 := Int.ediv_mul_le v (b := p) (by omega)
        have h2 := Int.lt_ediv_add_one_mul_self v (b := p) (by omega)
        have h3 : v / p < 0 := Int.ediv_neg_of_neg_of_pos (by omega) (by omega)
        have h4 : -1 ≤ v / p := by
          rcases Int.lt_or_le (v / p) (-1) with hlt | hle
          · have : (v / p + 1) * p ≤ (-1) * p := Int.mul_le_mul_of_nonneg_right (by omega) (by omega)
            omega
          · exact hle
        omega
      rw [e _ (by omega), e _ (by omega)]

/-- m bytes of v, the highest one first. -/
def bytesOf (m : Nat) (v : Int) : List UInt8 := (List.range m).map fun k => UInt8.ofNat (v / 256 ^ (m - 1 - k) % 256).toNat

theorem bytesOf_succ (m : Nat) (v : Int) : bytesOf (m + 1) v = UInt8.ofNat (v / 256 ^ m % 256).toNat :: bytesOf m v := by
  unfold bytesOf
  rw [List.range_succ_eq_map, List.map_cons, List.map_map]
  congr 1
  apply List.map_congr_left
  intro k _
  show UInt8.ofNat (v / 256 ^ (m + 1 - 1 - (k + 1)) % 256).toNat = _
  rw [show m + 1 - 1 - (k + 1) = m - 1 - k by omega]

theorem binStr_bytes (v : Int) (n : Nat) (hn : 1 ≤ n) (h : -9223372036854775808 ≤ v ∧ v ≤ 9223372036854775807) : binStr v n = binFirst v :: bytesOf (n - 1) v := by
  obtain ⟨m, rfl⟩ : ∃ m, n = m + 1 := ⟨n - 1, by omega⟩
  unfold binStr bytesOf
  rw [List.range_succ_eq_map, List.map_cons, List.map_map]
  congr 1
  apply List.map_congr_left
  intro k _
  show (if k + 1 = 0 then binFirst v else binDig v (m + 1) (k + 1)) = _
  rw [if_neg (by omega)]
  unfold binDig
  rw [shr_eq _ _ h, Int.pow_mul]
  have : m + 1 - 1 - (k + 1) = m + 1 - 1 - 1 - k := by omega
  rw [this]
  rfl

theorem byte_mod (x : Int) : ((UInt8.ofNat (x % 256).toNat).toNat : Int) = x % 256 := by
  rw [UInt8.toNat_ofNat']
  have : (x % 256).toNat % 2 ^ 8 = (x % 256).toNat := Nat.mod_eq_of_lt (by omega)
  rw [this]; omega

theorem div_in (v p : Int) (hp : 1 ≤ p) (h : inRange v = true) : inRange (v / p) = true := by
  simp only [inRange, Bool.and_eq_true, decide_eq_true_eq] at h ⊢
  constructor
  · rw [Int.le_ediv_iff_mul_le (by omega)]
    have : -9007199254740991 * p ≤ -9007199254740991 * 1 := Int.mul_le_mul_of_nonpos_left (by decide) hp
    omega
  · by_cases h0 : 0 ≤ v
    · exact Int.le_trans (Int.ediv_le_self _ h0) h.2
    · have := Int.ediv_neg_of_neg_of_pos (a := v) (b := p) (by omega) (by omega)
      omega

theorem readBinary_bytes (m : Nat) : ∀ v : Int, inRange v = true → readBinary (v / 256 ^ m) (bytesOf m v) = (v, 0) := by
  induction m with
  | zero => intro v _; show (v / 256 ^ 0, (0 : Int)) = _; simp
  | succ m ih =>
    intro v hv
    have hp : (0 : Int) < 256 ^ m := Int.pow_pos (by decide)
    rw [bytesOf_succ, readBinary_cons, byte_mod]
    have e : v / 256 ^ (m + 1) * 256 + v / 256 ^ m % 256 = v / 256 ^ m := by
      rw [Int.pow_succ, ← Int.ediv_ediv_of_nonneg (Int.le_of_lt hp)]
      have := Int.emod_add_mul_ediv (v / 256 ^ m) 256
      omega
    rw [e, if_pos (div_in v _ (by omega) hv)]
    exact ih v hv

theorem octRead_binStr (v : Int) (n : Nat) (h2 : 2 ≤ n) (h12 : n ≤ 12) (hv : inRange v = true) (hs : above v n = 0 ∨ above v n = -1) : octRead (binStr v n) = (v, 0) := by
  have hr : -9223372036854775808 ≤ v ∧ v ≤ 9223372036854775807 := by simp [inRange] at hv; omega
  have hlen : (binStr v n).length = n := by simp [binStr]
  have hb := readBinary_bytes (n - 1) v hv
  have ha : above v n = v / 256 ^ (n - 1) := by unfold above; rw [shr_eq _ _ hr, Int.pow_mul]; rfl
  rw [← ha] at hb
  rw [binStr_bytes v n (by omega) hr] at hlen ⊢
  have hsign : (above v n = 0 → 0 ≤ v) ∧ (above v n = -1 → v < 0) := by
    have hp : (0 : Int) < 256 ^ (n - 1) := Int.pow_pos (by decide)
    rw [ha]
    constructor
    · intro h
      have := Int.ediv_mul_le v (Int.ne_of_gt hp)
      rw [h] at this; omega
    · intro h
      have := Int.lt_ediv_add_one_mul_self v hp
      rw [h] at this; omega
  unfold octRead
  rw [if_pos (by rw [hlen]; simp [isSize]; omega)]
  show (if _ then _ else if _ then _ else _) = _
  rcases hs with h | h
  · rw [show binFirst v = 128 from if_neg (by have := hsign.1 h; omega), if_pos (by decide)]
    rw [h] at hb; exact hb
  · rw [show binFirst v = 255 from if_pos (hsign.2 h), if_neg (by decide), if_pos (by decide)]
    rw [h] at hb; exact hb

/-- What is written is read as it was, in as many bytes as were asked. -/
theorem octRead_octWrite (v n : Int) (h : (octWrite v n).2 = 0) : octRead (octWrite v n).1 = (v, 0) ∧ (((octWrite v n).1.length : Nat) : Int) = n := by
  by_cases hz : isSize n = true
  · by_cases hr : inRange v = true
    · obtain ⟨m, rfl⟩ : ∃ m : Nat, n = m := ⟨n.toNat, by simp [isSize] at hz; omega⟩
      have h2 : 2 ≤ m ∧ m ≤ 12 := by simp [isSize] at hz; omega
      by_cases ho : isSize (m : Int) = true ∧ 0 ≤ v ∧ v / 2 ^ (3 * ((m : Int).toNat - 1)) = 0
      · have hq : octalOf v m = some (octStr v m) := by unfold octalOf; rw [if_pos ho]; rfl
        have hw : octWrite v m = (octStr v m, 0) := by simp [octWrite, hz, hr, hq]
        rw [hw]
        exact ⟨octRead_octStr v m h2.1 h2.2 ho.2.1 (by simpa using ho.2.2), by simp [octStr]; omega⟩
      · have hq : octalOf v m = none := by unfold octalOf; rw [if_neg ho]
        by_cases hb : isSize (m : Int) = true ∧ (above v (m : Int).toNat = 0 ∨ above v (m : Int).toNat = -1)
        · have hq2 : binaryOf v m = some (binStr v m) := by unfold binaryOf; rw [if_pos hb]; rfl
          have hw : octWrite v m = (binStr v m, 0) := by simp [octWrite, hz, hr, hq, hq2]
          rw [hw]
          exact ⟨octRead_binStr v m h2.1 h2.2 hr (by simpa using hb.2), by simp [binStr]⟩
        · have hq2 : binaryOf v m = none := by unfold binaryOf; rw [if_neg hb]
          have hw : octWrite v m = ([], 6) := by simp [octWrite, hz, hr, hq, hq2]
          rw [hw] at h; cases h
    · have hw : octWrite v n = ([], 6) := by simp [octWrite, hz, hr]
      rw [hw] at h; cases h
  · have hw : octWrite v n = ([], 1) := by simp [octWrite, hz]
    rw [hw] at h; cases h

/-! ### The document's own binary -/
def refBin (neg : Bool) : Nat → Int → List UInt8 → List UInt8
  | 0, _, s => s
  | m + 1, w, s => refBin neg m (w / 256) (UInt8.ofNat (if neg then 255 - w % 256 else w % 256).toNat :: s)
theorem refBin_succ (neg : Bool) (m : Nat) (w : Int) (s : List UInt8) : refBin neg (m + 1) w s = refBin neg m (w / 256) (UInt8.ofNat (if neg then 255 - w % 256 else w % 256).toNat :: s) := rfl

theorem refBin_up (m : Nat) : ∀ (v : Int) (s : List UInt8), refBin false m v s = bytesOf m v ++ s := by
  induction m with
  | zero => intro v s; rfl
  | succ m ih =>
    intro v s
    rw [refBin_succ, ih]
    unfold bytesOf
    rw [List.range_succ, List.map_append, List.append_assoc]
    congr 1
    · apply List.map_congr_left
      intro k hk
      have hk : k < m := by simpa using hk
      congr 3
      rw [Int.ediv_ediv_of_nonneg (by decide), ← Int.pow_succ']
      congr 2
      omega
    · simp

theorem neg_div (w p : Int) (hp : 0 < p) : (-w - 1) / p = -(w / p) - 1 := by
  have h1 := Int.emod_add_mul_ediv w p
  have h2 := Int.emod_nonneg w (Int.ne_of_gt hp)
  have h3 := Int.emod_lt_of_pos w hp
  have : -w - 1 = (p - 1 - w % p) + p * (-(w / p) - 1) := by
    rw [Int.mul_sub, Int.mul_neg]; omega
  rw [this, Int.add_mul_ediv_left _ _ (Int.ne_of_gt hp), Int.ediv_eq_zero_of_lt (by omega) (by omega)]
  omega

theorem refBin_down (m : Nat) : ∀ (w : Int) (s : List UInt8), refBin true m w s = bytesOf m (-w - 1) ++ s := by
  induction m with
  | zero => intro v s; rfl
  | succ m ih =>
    intro w s
    rw [refBin_succ, ih]
    unfold bytesOf
    rw [List.range_succ, List.map_append, List.append_assoc]
    congr 1
    · apply List.map_congr_left
      intro k hk
      have hk : k < m := by simpa using hk
      congr 3
      rw [← neg_div w 256 (by decide), Int.ediv_ediv_of_nonneg (by decide), ← Int.pow_succ']
      congr 2
      omega
    · have : (-w - 1) % 256 = 255 - w % 256 := by omega
      simp [this]

theorem binStr_ref (v : Int) (n : Nat) (hn : 1 ≤ n) (h : -9223372036854775808 ≤ v ∧ v ≤ 9223372036854775807) :
    binStr v n = binFirst v :: refBin (decide (v < 0)) (n - 1) (if v < 0 then -v - 1 else v) [] := by
  rw [binStr_bytes v n hn h]
  by_cases hv : v < 0
  · rw [if_pos hv, decide_eq_true hv, refBin_down, List.append_nil, show -(-v - 1) - 1 = v by omega]
  · rw [if_neg hv, decide_eq_false hv, refBin_up, List.append_nil]

/-- The document's word on what binary holds is octal.Binary's. -/
theorem above_ref (v : Int) (n : Nat) (h2 : 2 ≤ n) (h12 : n ≤ 12) (hv : inRange v = true) :
    (above v n = 0 ∨ above v n = -1) ↔ ¬ ((refPow 256 (n - 1) 1 ≤ v ∧ n < 8) ∨ (v < -refPow 256 (n - 1) 1 ∧ n < 8)) := by
  have hr : -9007199254740991 ≤ v ∧ v ≤ 9007199254740991 := by simpa [inRange] using hv
  have ha : above v n = v / 256 ^ (n - 1) := by unfold above; rw [shr_eq _ _ (by omega), Int.pow_mul]; rfl
  rw [ha]
  have key : ∀ p : Int, 0 < p → ((v / p = 0 ∨ v / p = -1) ↔ (-p ≤ v ∧ v < p)) := by
    intro p hp
    have h1 := Int.ediv_mul_le v (Int.ne_of_gt hp)
    have h2 := Int.lt_ediv_add_one_mul_self v hp
    constructor
    · rintro (h | h) <;> rw [h] at h1 h2 <;> omega
    · rintro ⟨h3, h4⟩
      by_cases h0 : 0 ≤ v
      · exact .inl (Int.ediv_eq_zero_of_lt h0 h4)
      · right
        have : v = (v + p) + p * (-1) := by omega
        rw [this, Int.add_mul_ediv_left _ _ (Int.ne_of_gt hp), Int.ediv_eq_zero_of_lt (by omega) (by omega)]
        decide
  rw [key _ (Int.pow_pos (by decide))]
  by_cases h8 : n < 8
  · rw [refPow256 (n - 1) (by omega)]
    generalize (256 : Int) ^ (n - 1) = p
    omega
  · have hbig : (72057594037927936 : Int) ≤ 256 ^ (n - 1) := by
      have h7 : (256 : Nat) ^ 7 ≤ 256 ^ (n - 1) := Nat.pow_le_pow_right (by decide) (by omega)
      have h7' : (256 : Nat) ^ 7 = 72057594037927936 := by decide
      have hc : (((256 : Nat) ^ (n - 1) : Nat) : Int) = (256 : Int) ^ (n - 1) := by simp
      omega
    omega
end Go.Proofs.YtjmmecokfijglaaGreatDoor
