/-
  Texts of this seat's proof, joined: their order is that of the build.
-/
import Derived.Test.YtjmmecokfijglaaGreatDoorJB01
namespace Go.Proofs.YtjmmecokfijglaaGreatDoor
open Go.ChangeShapes Go.WideShapes Go.ChangeAt Go.RowKit

/-! ### Writing -/
def octDig (v : Int) (n k : Nat) : UInt8 := UInt8.ofNat (48 + v / 2 ^ (3 * (n - 2 - k)) % 8).toNat
def octStr (v : Int) (n : Nat) : List UInt8 := (List.range (n - 1)).map (octDig v n) ++ [0]
def octPart (v : Int) (n k : Nat) : List UInt8 := (List.range n).map fun i => if i < k then octDig v n i else 0

def octalOf (v n : Int) : Option (List UInt8) := if isSize n = true ∧ 0 ≤ v ∧ v / 2 ^ (3 * (n.toNat - 1)) = 0 then some (octStr v n.toNat) else none

theorem octPart_length (v : Int) (n k : Nat) : (octPart v n k).length = n := by simp [octPart]
theorem octPart_zero (v : Int) (n : Nat) : octPart v n 0 = List.replicate n 0 := by
  apply List.ext_getElem
  · simp [octPart]
  · intro i h1 h2; simp [octPart]
theorem octPart_succ (v : Int) (n k : Nat) : (octPart v n k).set k (octDig v n k) = octPart v n (k + 1) := by
  apply List.ext_getElem
  · simp [octPart]
  · intro i h1 h2
    rw [List.getElem_set]
    simp only [octPart, List.getElem_map, List.getElem_range]
    by_cases h : k = i
    · subst h; rw [if_pos rfl, if_pos (Nat.lt_succ_self _)]
    · rw [if_neg h]
      by_cases h3 : i < k
      · rw [if_pos h3, if_pos (by omega)]
      · rw [if_neg h3, if_neg (by omega)]
theorem octPart_full (v : Int) (n : Nat) (h : 1 ≤ n) : octPart v n (n - 1) = octStr v n := by
  apply List.ext_getElem
  · simp [octPart, octStr]; omega
  · intro i h1 h2
    simp only [octPart, octStr, List.getElem_map, List.getElem_range]
    rw [octPart_length] at h1
    by_cases h3 : i < n - 1
    · rw [if_pos h3, List.getElem_append_left (by simpa using h3)]; simp
    · rw [if_neg h3, List.getElem_append_right (by simp; omega)]; simp

theorem i64_and7 (x : Int) : bits .and .i64 x 7 = x % 8 := by
  have h7 : (BitVec.ofInt 64 7).toNat = 7 := by decide
  show IntKind.i64.wrap ((BitVec.ofInt 64 x &&& BitVec.ofInt 64 7).toNat : Int) = _
  rw [BitVec.toNat_and, h7, BitVec.toNat_ofInt]
  have h64 : ((2 ^ 64 : Nat) : Int) = 18446744073709551616 := by decide
  rw [h64]
  have hm : ∀ a : Nat, a &&& 7 = a % 8 := fun a => Nat.and_two_pow_sub_one_eq_mod a 3
  rw [hm, IntKind.wrap_i64]
  omega

theorem octDig_int (v : Int) (n k : Nat) : (UInt8.ofNat (48 + v / 2 ^ (3 * (n - 2 - k)) % 8).toNat) = octDig v n k := rfl

/-! ### Binary -/
/-- v, shifted to the right by so many bits. -/
def shr (v : Int) (c : Nat) : Int := v / 2 ^ min c 64
theorem shift_shr_nat (v c : Int) (h : 0 ≤ c) : Op.shift .shr .i64 v .i64 c = pure (.int .i64 (shr v c.toNat)) := shift_shr_any .i64 .i64 v c h
def binDig (v : Int) (n k : Nat) : UInt8 := UInt8.ofNat (shr v (8 * (n - 1 - k)) % 256).toNat
def binFirst (v : Int) : UInt8 := if v < 0 then 255 else 128
def binStr (v : Int) (n : Nat) : List UInt8 := (List.range n).map fun i => if i = 0 then binFirst v else binDig v n i
def binPart (v : Int) (n k : Nat) : List UInt8 := (List.range n).map fun i => if i = 0 then binFirst v else if i < k then binDig v n i else 0

theorem binPart_length (v : Int) (n k : Nat) : (binPart v n k).length = n := by simp [binPart]
theorem binPart_one (v : Int) (n : Nat) : (List.replicate n 0).set 0 (binFirst v) = binPart v n 1 := by
  apply List.ext_getElem
  · simp [binPart]
  · intro i h1 h2
    rw [List.getElem_set]
    simp only [binPart, List.getElem_map, List.getElem_range, List.getElem_replicate]
    by_cases h : i = 0
    · subst h; simp
    · rw [if_neg (by omega), if_neg h, if_neg (by omega)]
theorem binPart_succ (v : Int) (n k : Nat) (hk : 1 ≤ k) : (binPart v n k).set k (binDig v n k) = binPart v n (k + 1) := by
  apply List.ext_getElem
  · simp [binPart]
  · intro i h1 h2
    rw [List.getElem_set]
    simp only [binPart, List.getElem_map, List.getElem_range]
    by_cases h : k = i
    · subst h; rw [if_pos rfl, if_neg (by omega), if_pos (Nat.lt_succ_self _)]
    · rw [if_neg h]
      by_cases h0 : i = 0
      · rw [if_pos h0, if_pos h0]
      · rw [if_neg h0, if_neg h0]
        by_cases h3 : i < k
        · rw [if_pos h3, if_pos (by omega)]
        · rw [if_neg h3, if_neg (by omega)]
theorem binPart_full (v : Int) (n : Nat) : binPart v n n = binStr v n := by
  apply List.ext_getElem
  · simp [binPart, binStr]
  · intro i h1 h2
    simp only [binPart, binStr, List.getElem_map, List.getElem_range]
    rw [binPart_length] at h1
    by_cases h0 : i = 0
    · rw [if_pos h0, if_pos h0]
    · rw [if_neg h0, if_neg h0, if_pos h1]

/-- What stands above the bytes behind the first one. -/
def above (v : Int) (n : Nat) : Int := shr v (8 * (n - 1))
def binaryOf (v n : Int) : Option (List UInt8) := if isSize n = true ∧ (above v n.toNat = 0 ∨ above v n.toNat = -1) then some (binStr v n.toNat) else none

def octWrite (v n : Int) : List UInt8 × Int :=
  if isSize n = true then
    if inRange v = true then
      match octalOf v n with
      | some s => (s, 0)
      | none => match binaryOf v n with
        | some s => (s, 0)
        | none => ([], 6)
    else ([], 6)
  else ([], 1)
end Go.Proofs.YtjmmecokfijglaaGreatDoor
namespace Go.Proofs.YtjmmecokfijglaaGreatDoor
open Go.ChangeShapes Go.WideShapes Go.ChangeAt Go.RowKit

/-- A base to a power, as long as it is below 2 to the power of 54. -/
def refPow (b : Int) : Nat → Int → Int
  | 0, v => v
  | k + 1, v => if v < 18014398509481984 then refPow b k (v * b) else v

theorem refPow_succ (b : Int) (k : Nat) (v : Int) : refPow b (k + 1) v = if v < 18014398509481984 then refPow b k (v * b) else v := rfl

theorem refPow8 (m : Nat) (h : m ≤ 11) : refPow 8 m 1 = 8 ^ m := by
  have : m = 0 ∨ m = 1 ∨ m = 2 ∨ m = 3 ∨ m = 4 ∨ m = 5 ∨ m = 6 ∨ m = 7 ∨ m = 8 ∨ m = 9 ∨ m = 10 ∨ m = 11 := by omega
  rcases this with h | h | h | h | h | h | h | h | h | h | h | h <;> subst h <;> decide
theorem refPow256 (m : Nat) (h : m ≤ 6) : refPow 256 m 1 = 256 ^ m := by
  have : m = 0 ∨ m = 1 ∨ m = 2 ∨ m = 3 ∨ m = 4 ∨ m = 5 ∨ m = 6 := by omega
  rcases this with h | h | h | h | h | h | h <;> subst h <;> decide
theorem refPow256_le (m : Nat) : ∀ v : Int, 0 ≤ v → v ≤ 4611686018427387904 → 0 ≤ refPow 256 m v ∧ refPow 256 m v ≤ 4611686018427387904 := by
  induction m with
  | zero => intro v h0 h1; exact ⟨h0, h1⟩
  | succ k ih =>
    intro v h0 h1
    rw [refPow_succ]
    by_cases h : v < 18014398509481984
    · rw [if_pos h]; exact ih _ (by omega) (by omega)
    · rw [if_neg h]; exact ⟨h0, h1⟩

/-! ### Octal -/
/-- m digits more, put ahead of s. -/
def refOct : Nat → Int → List UInt8 → List UInt8
  | 0, _, s => s
  | m + 1, v, s => refOct m (v / 8) (UInt8.ofNat (48 + v % 8).toNat :: s)

theorem refOct_succ (m : Nat) (v : Int) (s : List UInt8) : refOct (m + 1) v s = refOct m (v / 8) (UInt8.ofNat (48 + v % 8).toNat :: s) := rfl

/-- m digits of v, the highest one first. -/
def digs (m : Nat) (v : Int) : List UInt8 := (List.range m).map fun k => UInt8.ofNat (48 + v / 8 ^ (m - 1 - k) % 8).toNat

theorem refOct_digs (m : Nat) : ∀ (v : Int) (s : List UInt8), refOct m v s = digs m v ++ s := by
  induction m with
  | zero => intro v s; rfl
  | succ m ih =>
    intro v s
    rw [refOct_succ, ih]
    unfold digs
    rw [List.range_succ, List.map_append, List.append_assoc]
    congr 1
    · apply List.map_congr_left
      intro k hk
      have hk : k < m := by simpa using hk
      congr 4
      rw [Int.ediv_ediv_of_nonneg (by decide), ← Int.pow_succ']
      congr 2
      omega
    · simp

theorem octStr_digs (v : Int) (n : Nat) : octStr v n = digs (n - 1) v ++ [0] := by
  unfold octStr digs
  congr 1
  apply List.map_congr_left
  intro k hk
  unfold octDig
  rw [Int.pow_mul]
  have : n - 2 - k = n - 1 - 1 - k := by omega
  rw [this]
  rfl

theorem octStr_ref (v : Int) (n : Nat) : octStr v n = refOct (n - 1) v [0] := by rw [octStr_digs, refOct_digs]

theorem digs_succ (m : Nat) (v : Int) : digs (m + 1) v = UInt8.ofNat (48 + v / 8 ^ m % 8).toNat :: digs m v := by
  unfold digs
  rw [List.range_succ_eq_map, List.map_cons, List.map_map]
  congr 1
  apply List.map_congr_left
  intro k _
  show UInt8.ofNat (48 + v / 8 ^ (m + 1 - 1 - (k + 1)) % 8).toNat = _
  rw [show m + 1 - 1 - (k + 1) = m - 1 - k by omega]

theorem digit_byte (x : Int) : ((UInt8.ofNat (48 + x % 8).toNat).toNat : Int) = 48 + x % 8 := by
  rw [UInt8.toNat_ofNat']
  have : (48 + x % 8).toNat % 2 ^ 8 = (48 + x % 8).toNat := Nat.mod_eq_of_lt (by omega)
  rw [this]; omega

theorem mod_split (v : Int) (m : Nat) : v % 8 ^ (m + 1) = v / 8 ^ m % 8 * 8 ^ m + v % 8 ^ m := by
  have hp : (0 : Int) < 8 ^ m := Int.pow_pos (by decide)
  have h1 := Int.emod_add_mul_ediv v (8 ^ m)
  have h2 := Int.emod_add_mul_ediv (v / 8 ^ m) 8
  have h3 := Int.emod_add_mul_ediv v (8 ^ (m + 1))
  have h4 : v / 8 ^ (m + 1) = v / 8 ^ m / 8 := by rw [Int.ediv_ediv_of_nonneg (Int.le_of_lt hp), ← Int.pow_succ]
  rw [h4, Int.pow_succ] at h3
  generalize v / 8 ^ m / 8 = q at *
  generalize v / 8 ^ m = a at *
  generalize a % 8 = d at *
  generalize v % 8 ^ m = r at *
  rw [Int.pow_succ]
  generalize (8 : Int) ^ m = p at *
  generalize v % (p * 8) = t at *
  have e : a = d + 8 * q := h2.symm
  subst e
  rw [← h1] at h3
  have : p * (d + 8 * q) = d * p + p * 8 * q := by rw [Int.mul_add, Int.mul_comm p d, Int.mul_assoc]
  omega

theorem readOctal_digs (m : Nat) : ∀ (q z v : Int), q ≠ 2 → readOctal q z (digs m v ++ [0]) = (z * 8 ^ m + v % 8 ^ m, 0) := by
  induction m with
  | zero =>
    intro q z v hq
    show readOctal q z [0] = _
    rw [readOctal_cons, if_neg (by simp), if_neg (by simp), if_pos (by simp)]
    show (z, 0) = _
    simp [Int.emod_one]
  | succ m ih =>
    intro q z v hq
    rw [digs_succ, List.cons_append, readOctal_cons, digit_byte]
    rw [if_neg (by omega), if_pos ⟨hq, by omega, by omega⟩, ih 1 _ v (by decide), mod_split v m, Int.pow_succ]
    congr 1
    rw [show 48 + v / 8 ^ m % 8 - 48 = v / 8 ^ m % 8 by omega, Int.add_mul, Int.mul_assoc, Int.mul_comm 8 ((8 : Int) ^ m)]
    omega

theorem octRead_octStr (v : Int) (n : Nat) (h2 : 2 ≤ n) (h12 : n ≤ 12) (h0 : 0 ≤ v) (hs : v / 2 ^ (3 * (n - 1)) = 0) : octRead (octStr v n) = (v, 0) := by
  have hlen : (octStr v n).length = n := by simp [octStr]; omega
  have hv : v % 8 ^ (n - 1) = v := by
    rw [Int.pow_mul] at hs
    have hp : (0 : Int) < (2 ^ 3) ^ (n - 1) := Int.pow_pos (by decide)
    have := Int.lt_ediv_add_one_mul_self v hp
    rw [hs] at this
    exact Int.emod_eq_of_lt h0 (by simpa using this)
  have hr := readOctal_digs (n - 1) 0 0 v (by decide)
  rw [← octStr_digs, hv, Int.zero_mul, Int.zero_add] at hr
  obtain ⟨m, rfl⟩ : ∃ m, n = m + 2 := ⟨n - 2, by omega⟩
  rw [octStr_digs, show m + 2 - 1 = m + 1 by omega, digs_succ, List.cons_append] at hr hlen ⊢
  unfold octRead
  rw [if_pos (by rw [hlen]; simp [isSize]; omega)]
  show (if _ then _ else if _ then _ else _) = _
  rw [digit_byte, if_neg (by omega), if_neg (by omega)]
  exact hr

/-! ### Binary -/
theorem shr_eq (v : Int) (c : Nat) (h : -9223372036854775808 ≤ v ∧ v ≤ 9223372036854775807) : shr v c = v / 2 ^ c := by
  unfold shr
  rcases Nat.le_total c 64 with hc | hc
  · rw [Nat.min_eq_left hc]
  · rw [Nat.min_eq_right hc]
    have h64 : (2 : Int) ^ 64 = 18446744073709551616 := by decide
    have hle : (2 : Int) ^ 64 ≤ 2 ^ c := by
      have := Nat.pow_le_pow_right (n := 2) (by decide) hc
      exact_mod_cast this
    by_cases hn : 0 ≤ v
    · rw [Int.ediv_eq_zero_of_lt hn (by omega), Int.ediv_eq_zero_of_lt hn (by omega)]
    · have e : ∀ p : Int, 18446744073709551616 ≤ p → v / p = -1 := by
        intro p hp
        have h1 := Int.ediv_mul_le v (b := p) (by omega)
        have h2 := Int.lt_ediv_add_one_mul_self v (b := p) (by omega)
        have h3 : v / p < 0 := Int.ediv_neg_of_neg_of_pos (by omega) (by omega)
        have h4 : -1 ≤ v / p := by
          rcases Int.lt_or_le (v / p) (-1) with hlt | hle
          · have : (v / p + 1) * p ≤ (-1) * p := Int.mul_le_mul_of_nonneg_right (by omega) (by omega)
            omega
          · exact hle
        omega
      rw [e _ (by omega), e _ (by omega)]

/-- m bytes of v, the highest one first. -/
def bytesOf (m : Nat) (v : Int) : List UInt8 := (List.range m).map fun k => UInt8.ofNat (v / 256 ^ (m - 1 - k) % 256).toNat

theorem bytesOf_succ (m : Nat) (v : Int) : bytesOf (m + 1) v = UInt8.ofNat (v / 256 ^ m % 256).toNat :: bytesOf m v := by
  unfold bytesOf
  rw [List.range_succ_eq_map, List.map_cons, List.map_map]
  congr 1
  apply List.map_congr_left
  intro k _
  show UInt8.ofNat (v / 256 ^ (m + 1 - 1 - (k + 1)) % 256).toNat = _
  rw [show m + 1 - 1 - (k + 1) = m - 1 - k by omega]

theorem binStr_bytes (v : Int) (n : Nat) (hn : 1 ≤ n) (h : -9223372036854775808 ≤ v ∧ v ≤ 9223372036854775807) : binStr v n = binFirst v :: bytesOf (n - 1) v := by
  obtain ⟨m, rfl⟩ : ∃ m, n = m + 1 := ⟨n - 1, by omega⟩
  unfold binStr bytesOf
  rw [List.range_succ_eq_map, List.map_cons, List.map_map]
  congr 1
  apply List.map_congr_left
  intro k _
  show (if k + 1 = 0 then binFirst v else binDig v (m + 1) (k + 1)) = _
  rw [if_neg (by omega)]
  unfold binDig
  rw [shr_eq _ _ h, Int.pow_mul]
  have : m + 1 - 1 - (k + 1) = m + 1 - 1 - 1 - k := by omega
  rw [this]
  rfl

theorem byte_mod (x : Int) : ((UInt8.ofNat (x % 256).toNat).toNat : Int) = x % 256 := by
  rw [UInt8.toNat_ofNat']
  have : (x % 256).toNat % 2 ^ 8 = (x % 256).toNat := Nat.mod_eq_of_lt (by omega)
  rw [this]; omega

theorem div_in (v p : Int) (hp : 1 ≤ p) (h : inRange v = true) : inRange (v / p) = true := by
  simp only [inRange, Bool.and_eq_true, decide_eq_true_eq] at h ⊢
  constructor
  · rw [Int.le_ediv_iff_mul_le (by omega)]
    have : -9007199254740991 * p ≤ -9007199254740991 * 1 := Int.mul_le_mul_of_nonpos_left (by decide) hp
    omega
  · by_cases h0 : 0 ≤ v
    · exact Int.le_trans (Int.ediv_le_self _ h0) h.2
    · have := Int.ediv_neg_of_neg_of_pos (a := v) (b := p) (by omega) (by omega)
      omega

theorem readBinary_bytes (m : Nat) : ∀ v : Int, inRange v = true → readBinary (v / 256 ^ m) (bytesOf m v) = (v, 0) := by
  induction m with
  | zero => intro v _; show (v / 256 ^ 0, (0 : Int)) = _; simp
  | succ m ih =>
    intro v hv
    have hp : (0 : Int) < 256 ^ m := Int.pow_pos (by decide)
    rw [bytesOf_succ, readBinary_cons, byte_mod]
    have e : v / 256 ^ (m + 1) * 256 + v / 256 ^ m % 256 = v / 256 ^ m := by
      rw [Int.pow_succ, ← Int.ediv_ediv_of_nonneg (Int.le_of_lt hp)]
      have := Int.emod_add_mul_ediv (v / 256 ^ m) 256
      omega
    rw [e, if_pos (div_in v _ (by omega) hv)]
    exact ih v hv

theorem octRead_binStr (v : Int) (n : Nat) (h2 : 2 ≤ n) (h12 : n ≤ 12) (hv : inRange v = true) (hs : above v n = 0 ∨ above v n = -1) : octRead (binStr v n) = (v, 0) := by
  have hr : -9223372036854775808 ≤ v ∧ v ≤ 9223372036854775807 := by simp [inRange] at hv; omega
  have hlen : (binStr v n).length = n := by simp [binStr]
  have hb := readBinary_bytes (n - 1) v hv
  have ha : above v n = v / 256 ^ (n - 1) := by unfold above; rw [shr_eq _ _ hr, Int.pow_mul]; rfl
  rw [← ha] at hb
  rw [binStr_bytes v n (by omega) hr] at hlen ⊢
  have hsign : (above v n = 0 → 0 ≤ v) ∧ (above v n = -1 → v < 0) := by
    have hp : (0 : Int) < 256 ^ (n - 1) := Int.pow_pos (by decide)
    rw [ha]
    constructor
    · intro h
      have := Int.ediv_mul_le v (Int.ne_of_gt hp)
      rw [h] at this; omega
    · intro h
      have := Int.lt_ediv_add_one_mul_self v hp
      rw [h] at this; omega
  unfold octRead
  rw [if_pos (by rw [hlen]; simp [isSize]; omega)]
  show (if _ then _ else if _ then _ else _) = _
  rcases hs with h | h
  · rw [show binFirst v = 128 from if_neg (by have := hsign.1 h; omega), if_pos (by decide)]
    rw [h] at hb; exact hb
  · rw [show binFirst v = 255 from if_pos (hsign.2 h), if_neg (by decide), if_pos (by decide)]
    rw [h] at hb; exact hb

/-- What is written is read as it was, in as many bytes as were asked. -/
theorem octRead_octWrite (v n : Int) (h : (octWrite v n).2 = 0) : octRead (octWrite v n).1 = (v, 0) ∧ (((octWrite v n).1.length : Nat) : Int) = n := by
  by_cases hz : isSize n = true
  · by_cases hr : inRange v = true
    · obtain ⟨m, rfl⟩ : ∃ m : Nat, n = m := ⟨n.toNat, by simp [isSize] at hz; omega⟩
      have h2 : 2 ≤ m ∧ m ≤ 12 := by simp [isSize] at hz; omega
      by_cases ho : isSize (m : Int) = true ∧ 0 ≤ v ∧ v / 2 ^ (3 * ((m : Int).toNat - 1)) = 0
      · have hq : octalOf v m = some (octStr v m) := by unfold octalOf; rw [if_pos ho]; rfl
        have hw : octWrite v m = (octStr v m, 0) := by simp [octWrite, hz, hr, hq]
        rw [hw]
        exact ⟨octRead_octStr v m h2.1 h2.2 ho.2.1 (by simpa using ho.2.2), by simp [octStr]; omega⟩
      · have hq : octalOf v m = none := by unfold octalOf; rw [if_neg ho]
        by_cases hb : isSize (m : Int) = true ∧ (above v (m : Int).toNat = 0 ∨ above v (m : Int).toNat = -1)
        · have hq2 : binaryOf v m = some (binStr v m) := by unfold binaryOf; rw [if_pos hb]; rfl
          have hw : octWrite v m = (binStr v m, 0) := by simp [octWrite, hz, hr, hq, hq2]
          rw [hw]
          exact ⟨octRead_binStr v m h2.1 h2.2 hr (by simpa using hb.2), by simp [binStr]⟩
        · have hq2 : binaryOf v m = none := by unfold binaryOf; rw [if_neg hb]
          have hw : octWrite v m = ([], 6) := by simp [octWrite, hz, hr, hq, hq2]
          rw [hw] at h; cases h
    · have hw : octWrite v n = ([], 6) := by simp [octWrite, hz, hr]
      rw [hw] at h; cases h
  · have hw : octWrite v n = ([], 1) := by simp [octWrite, hz]
    rw [hw] at h; cases h

/-! ### The document's own binary -/
def refBin (neg : Bool) : Nat → Int → List UInt8 → List UInt8
  | 0, _, s => s
  | m + 1, w, s => refBin neg m (w / 256) (UInt8.ofNat (if neg then 255 - w % 256 else w % 256).toNat :: s)
theorem refBin_succ (neg : Bool) (m : Nat) (w : Int) (s : List UInt8) : refBin neg (m + 1) w s = refBin neg m (w / 256) (UInt8.ofNat (if neg then 255 - w % 256 else w % 256).toNat :: s) := rfl

theorem refBin_up (m : Nat) : ∀ (v : Int) (s : List UInt8), refBin false m v s = bytesOf m v ++ s := by
  induction m with
  | zero => intro v s; rfl
  | succ m ih =>
    intro v s
    rw [refBin_succ, ih]
    unfold bytesOf
    rw [List.range_succ, List.map_append, List.append_assoc]
    congr 1
    · apply List.map_congr_left
      intro k hk
      have hk : k < m := by simpa using hk
      congr 3
      rw [Int.ediv_ediv_of_nonneg (by decide), ← Int.pow_succ']
      congr 2
      omega
    · simp

theorem neg_div (w p : Int) (hp : 0 < p) : (-w - 1) / p = -(w / p) - 1 := by
  have h1 := Int.emod_add_mul_ediv w p
  have h2 := Int.emod_nonneg w (Int.ne_of_gt hp)
  have h3 := Int.emod_lt_of_pos w hp
  have : -w - 1 = (p - 1 - w % p) + p * (-(w / p) - 1) := by
    rw [Int.mul_sub, Int.mul_neg]; omega
  rw [this, Int.add_mul_ediv_left _ _ (Int.ne_of_gt hp), Int.ediv_eq_zero_of_lt (by omega) (by omega)]
  omega

theorem refBin_down (m : Nat) : ∀ (w : Int) (s : List UInt8), refBin true m w s = bytesOf m (-w - 1) ++ s := by
  induction m with
  | zero => intro v s; rfl
  | succ m ih =>
    intro w s
    rw [refBin_succ, ih]
    unfold bytesOf
    rw [List.range_succ, List.map_append, List.append_assoc]
    congr 1
    · apply List.map_congr_left
      intro k hk
      have hk : k < m := by simpa using hk
      congr 3
      rw [← neg_div w 256 (by decide), Int.ediv_ediv_of_nonneg (by decide), ← Int.pow_succ']
      congr 2
      omega
    · have : (-w - 1) % 256 = 255 - w % 256 := by omega
      simp [this]

theorem binStr_ref (v : Int) (n : Nat) (hn : 1 ≤ n) (h : -9223372036854775808 ≤ v ∧ v ≤ 9223372036854775807) :
    binStr v n = binFirst v :: refBin (decide (v < 0)) (n - 1) (if v < 0 then -v - 1 else v) [] := by
  rw [binStr_bytes v n hn h]
  by_cases hv : v < 0
  · rw [if_pos hv, decide_eq_true hv, refBin_down, List.append_nil, show -(-v - 1) - 1 = v by omega]
  · rw [if_neg hv, decide_eq_false hv, refBin_up, List.append_nil]

/-- The document's word on what binary holds is octal.Binary's. -/
theorem above_ref (v : Int) (n : Nat) (h2 : 2 ≤ n) (h12 : n ≤ 12) (hv : inRange v = true) :
    (above v n = 0 ∨ above v n = -1) ↔ ¬ ((refPow 256 (n - 1) 1 ≤ v ∧ n < 8) ∨ (v < -refPow 256 (n - 1) 1 ∧ n < 8)) := by
  have hr : -9007199254740991 ≤ v ∧ v ≤ 9007199254740991 := by simpa [inRange] using hv
  have ha : above v n = v / 256 ^ (n - 1) := by unfold above; rw [shr_eq _ _ (by omega), Int.pow_mul]; rfl
  rw [ha]
  have key : ∀ p : Int, 0 < p → ((v / p = 0 ∨ v / p = -1) ↔ (-p ≤ v ∧ v < p)) := by
    intro p hp
    have h1 := Int.ediv_mul_le v (Int.ne_of_gt hp)
    have h2 := Int.lt_ediv_add_one_mul_self v hp
    constructor
    · rintro (h | h) <;> rw [h] at h1 h2 <;> omega
    · rintro ⟨h3, h4⟩
      by_cases h0 : 0 ≤ v
      · exact .inl (Int.ediv_eq_zero_of_lt h0 h4)
      · right
        have : v = (v + p) + p * (-1) := by omega
        rw [this, Int.add_mul_ediv_left _ _ (Int.ne_of_gt hp), Int.ediv_eq_zero_of_lt (by omega) (by omega)]
        decide
  rw [key _ (Int.pow_pos (by decide))]
  by_cases h8 : n < 8
  · rw [refPow256 (n - 1) (by omega)]
    generalize (256 : Int) ^ (n - 1) = p
    omega
  · have hbig : (72057594037927936 : Int) ≤ 256 ^ (n - 1) := by
      have h7 : (256 : Nat) ^ 7 ≤ 256 ^ (n - 1) := Nat.pow_le_pow_right (by decide) (by omega)
      have h7' : (256 : Nat) ^ 7 = 72057594037927936 := by decide
      have hc : (((256 : Nat) ^ (n - 1) : Nat) : Int) = (256 : Int) ^ (n - 1) := by simp
      omega
    omega
end Go.Proofs.YtjmmecokfijglaaGreatDoor
namespace Go.Proofs.YtjmmecokfijglaaGreatDoor
open Go.ChangeShapes Go.WideShapes Go.ChangeAt Go.RowKit

/-- A field's number in octal. -/
def sRead (b : UInt8) (t : List UInt8) : Int × Bool := if (octRead (b :: t)).2 = 0 ∧ (b.toNat : Int) ≤ 127 then ((octRead (b :: t)).1, true) else (0, false)

/-- The field of a block's sum. -/
def fieldOf (l : List UInt8) : List UInt8 := (l.drop 148).take 8
theorem fieldOf_parts (l : List UInt8) (h : l.length = 512) : ∃ b t, fieldOf l = b :: t ∧ t.length = 7 ∧ l[148] = b := by
  have hl : (fieldOf l).length = 8 := by unfold fieldOf; rw [List.length_take, List.length_drop]; omega
  rcases hf : fieldOf l with _ | ⟨b, t⟩
  · rw [hf] at hl; cases hl
  · refine ⟨b, t, rfl, by rw [hf] at hl; simpa using hl, ?_⟩
    have : (fieldOf l)[0]? = some b := by rw [hf]; rfl
    unfold fieldOf at this
    rw [List.getElem?_take_of_lt (by decide), List.getElem?_drop, List.getElem?_eq_getElem (by omega)] at this
    simpa using this

/-- Is a block's sum that of its bytes? -/
def sRight (l : List UInt8) : Bool :=
  decide (l.length = 512) && match fieldOf l with
    | [] => false
    | b :: t => (sRead b t).2 && (((sRead b t).1 == bSum false l) || ((sRead b t).1 == bSum true l))

/-- The field of a sealed block. -/
def sealField (v : Int) : List UInt8 := octStr v 7 ++ [32]
theorem sealField_length (v : Int) : (sealField v).length = 8 := by simp [sealField, octStr]
def sealOf (l : List UInt8) : List UInt8 := l.take 148 ++ (sealField (bSum false l) ++ l.drop 156)
theorem sealOf_length (l : List UInt8) (h : l.length = 512) : (sealOf l).length = 512 := by
  unfold sealOf
  rw [List.length_append, List.length_append, sealField_length, List.length_take, List.length_drop]; omega

theorem readOctal_digits_on (m : Nat) (s : List UInt8) : ∀ (q z v : Int), q ≠ 2 → readOctal q z (digs (m + 1) v ++ s) = readOctal 1 (z * 8 ^ (m + 1) + v % 8 ^ (m + 1)) s := by
  induction m with
  | zero =>
    intro q z v hq
    show readOctal q z (UInt8.ofNat (48 + v / 8 ^ 0 % 8).toNat :: s) = _
    rw [readOctal_cons, digit_byte, if_neg (by omega), if_pos ⟨hq, by omega, by omega⟩]
    congr 1
    simp
    omega
  | succ m ih =>
    intro q z v hq
    rw [digs_succ, List.cons_append, readOctal_cons, digit_byte]
    rw [if_neg (by omega), if_pos ⟨hq, by omega, by omega⟩, ih 1 _ v (by decide), mod_split v (m + 1), Int.pow_succ 8 (m + 1)]
    congr 1
    rw [show 48 + v / 8 ^ (m + 1) % 8 - 48 = v / 8 ^ (m + 1) % 8 by omega, Int.add_mul, Int.mul_assoc, Int.mul_comm 8 ((8 : Int) ^ (m + 1))]
    omega

theorem sealField_eq (v : Int) : sealField v = digs 6 v ++ [0, 32] := by
  unfold sealField
  rw [octStr_digs, List.append_assoc]; rfl

/-- What a sealed block's field tells. -/
theorem sealField_read (v : Int) (h0 : 0 ≤ v) (h1 : v < 262144) : octRead (sealField v) = (v, 0) ∧ ∃ b t, sealField v = b :: t ∧ 48 ≤ (b.toNat : Int) ∧ (b.toNat : Int) ≤ 55 := by
  have hd : sealField v = UInt8.ofNat (48 + v / 8 ^ 5 % 8).toNat :: (digs 5 v ++ [0, 32]) := by rw [sealField_eq, digs_succ]; rfl
  have hb := digit_byte (v / 8 ^ 5)
  have hs : (2 : Nat) ≤ (sealField v).length ∧ (sealField v).length ≤ 12 := by rw [sealField_length]; omega
  refine ⟨?_, _, _, hd, by rw [hb]; omega, by rw [hb]; omega⟩
  have hu : octRead (sealField v) = readOctal 0 0 (sealField v) := by
    unfold octRead
    rw [if_pos (by simp [isSize]; omega), hd]
    show (if _ then _ else if _ then _ else _) = _
    rw [if_neg (by rw [hb]; omega), if_neg (by rw [hb]; omega)]
  rw [hu, sealField_eq, readOctal_digits_on 5 [0, 32] 0 0 v (by decide)]
  have : (8 : Int) ^ (5 + 1) = 262144 := by decide
  rw [this, show (0 : Int) * 262144 + v % 262144 = v by omega]
  rfl

theorem blanked_seal (l : List UInt8) (h : l.length = 512) : blanked (sealOf l) = blanked l := by
  have e : (l.take 148).length = 148 := by rw [List.length_take]; omega
  have e1 : (sealOf l).take 148 = l.take 148 := by
    unfold sealOf
    rw [List.take_append_of_le_length (by omega), List.take_of_length_le (by omega)]
  have e2 : (sealOf l).drop 156 = l.drop 156 := by
    unfold sealOf
    rw [List.drop_append, List.drop_of_length_le (by omega), List.nil_append, e, List.drop_append, List.drop_of_length_le (by rw [sealField_length]; omega), sealField_length]; rfl
  unfold blanked
  rw [e1, e2]
theorem bSum_seal (s : Bool) (l : List UInt8) (h : l.length = 512) : bSum s (sealOf l) = bSum s l := by unfold bSum; rw [blanked_seal l h]
theorem fieldOf_seal (l : List UInt8) (h : l.length = 512) : fieldOf (sealOf l) = sealField (bSum false l) := by
  have e : (l.take 148).length = 148 := by rw [List.length_take]; omega
  unfold fieldOf sealOf
  rw [List.drop_append, List.drop_of_length_le (by omega), List.nil_append, e, Nat.sub_self, List.drop_zero, List.take_append_of_le_length (by rw [sealField_length]; omega), List.take_of_length_le (by rw [sealField_length]; omega)]
theorem seal_seal (l : List UInt8) (h : l.length = 512) : sealOf (sealOf l) = sealOf l := by
  have hb := bSum_seal false l h
  have e : (l.take 148).length = 148 := by rw [List.length_take]; omega
  have e1 : (sealOf l).take 148 = l.take 148 := by
    unfold sealOf
    rw [List.take_append_of_le_length (by omega), List.take_of_length_le (by omega)]
  have e2 : (sealOf l).drop 156 = l.drop 156 := by
    unfold sealOf
    rw [List.drop_append, List.drop_of_length_le (by omega), List.nil_append, e, List.drop_append, List.drop_of_length_le (by rw [sealField_length]; omega), sealField_length]; rfl
  show (sealOf l).take 148 ++ (sealField (bSum false (sealOf l)) ++ (sealOf l).drop 156) = _
  rw [hb, e1, e2]
  rfl
theorem right_of (l : List UInt8) (h : l.length = 512) (v : Int) (h0 : 0 ≤ v) (h1 : v < 262144) (hf : fieldOf l = sealField v) : sRight l = ((v == bSum false l) || (v == bSum true l)) := by
  obtain ⟨hr, b, t, hbt, b1, b2⟩ := sealField_read v h0 h1
  unfold sRight
  rw [hf, hbt, decide_eq_true h]
  have : sRead b t = (v, true) := by
    unfold sRead
    rw [← hbt, hr, if_pos ⟨rfl, by omega⟩]
  simp only [this, Bool.true_and]
theorem seal_right (l : List UInt8) (h : l.length = 512) : sRight (sealOf l) = true := by
  have hb := bSum_pos l h
  rw [right_of (sealOf l) (sealOf_length l h) (bSum false l) hb.1 (by omega) (fieldOf_seal l h), bSum_seal false l h]
  simp

def sBlank (l : List UInt8) : Bool := decide (l.length = 512) && l.all (· == 0)
theorem seal_blank (l : List UInt8) (h : l.length = 512) : sBlank (sealOf l) = false := by
  have hb := bSum_pos l h
  obtain ⟨hr, b, t, hbt, b1, b2⟩ := sealField_read (bSum false l) hb.1 (by omega)
  have hm : b ∈ sealOf l := by unfold sealOf; rw [hbt]; simp
  unfold sBlank
  have : (sealOf l).all (· == 0) = false := by
    rw [List.all_eq_false]
    refine ⟨b, hm, ?_⟩
    intro e
    have : b = 0 := by simpa using e
    rw [this] at b1
    exact absurd b1 (by decide)
  rw [this, Bool.and_false]

/-- 512 NULs. -/
theorem sumL_nought (s : Bool) (n : Nat) : sumL (val s) (List.replicate n 0) = 0 := by
  induction n with
  | zero => rfl
  | succ n ih => rw [List.replicate_succ, sumL_cons, ih]; cases s <;> rfl
theorem bSum_nought (s : Bool) : bSum s (List.replicate 512 0) = 256 := by
  unfold bSum
  rw [sumL_blanked, List.take_replicate, List.drop_replicate, sumL_nought, sumL_nought]
  cases s <;> rfl
theorem right_nought : sRight (List.replicate 512 0) = false := by
  unfold sRight
  have hf : fieldOf (List.replicate 512 0) = 0 :: List.replicate 7 0 := by
    unfold fieldOf
    rw [List.drop_replicate, List.take_replicate]; rfl
  have hr : sRead 0 (List.replicate 7 0) = (0, true) := by decide
  rw [List.length_replicate, decide_eq_true rfl, Bool.true_and]
  simp only [hf, hr, bSum_nought]
  decide
theorem blank_nought : sBlank (List.replicate 512 0) = true := by
  unfold sBlank
  rw [List.length_replicate, decide_eq_true rfl, Bool.true_and, List.all_eq_true]
  intro x hx
  rw [List.eq_of_mem_replicate hx]; rfl

/-- One byte of a block is another one. -/
theorem sumL_set (f : UInt8 → Int) (l : List UInt8) : ∀ (i : Nat) (v : UInt8) (hi : i < l.length), sumL f (l.set i v) = sumL f l - f l[i] + f v := by
  induction l with
  | nil => intro i v hi; cases hi
  | cons b l ih =>
    intro i v hi
    cases i with
    | zero => rw [List.set_cons_zero, sumL_cons, sumL_cons]; show _ = _ - f b + _; omega
    | succ i =>
      have hi2 : i < l.length := by simpa using hi
      rw [List.set_cons_succ, sumL_cons, sumL_cons, ih i v hi2]
      show _ = _ - f l[i] + _
      omega
theorem blanked_set (l : List UInt8) (h : l.length = 512) (i : Nat) (v : UInt8) (hf : ¬ (148 ≤ i ∧ i < 156)) : blanked (l.set i v) = (blanked l).set i v := by
  have hs : (l.set i v).length = 512 := by rw [List.length_set, h]
  apply List.ext_getElem
  · rw [List.length_set, blanked_length _ hs, blanked_length _ h]
  · intro k h1 h2
    have hk : k < 512 := by rw [blanked_length _ hs] at h1; exact h1
    rw [List.getElem_set, blanked_get _ hs k hk, blanked_get _ h k hk, List.getElem_set]
    by_cases hik : i = k
    · rw [if_pos hik, if_pos hik, if_neg (by omega)]
    · rw [if_neg hik, if_neg hik]
theorem fieldOf_set (l : List UInt8) (i : Nat) (v : UInt8) (hf : ¬ (148 ≤ i ∧ i < 156)) : fieldOf (l.set i v) = fieldOf l := by
  unfold fieldOf
  apply List.ext_getElem?
  intro k
  by_cases hk : k < 8
  · rw [List.getElem?_take_of_lt hk, List.getElem?_take_of_lt hk, List.getElem?_drop, List.getElem?_drop, List.getElem?_set_ne (by omega)]
  · rw [List.getElem?_eq_none (by simp; omega), List.getElem?_eq_none (by simp; omega)]
theorem spoilt_right (l : List UInt8) (h : l.length = 512) (i : Nat) (v : UInt8) (hi : i < 512) (hf : ¬ (148 ≤ i ∧ i < 156)) (hv : v ≠ (sealOf l)[i]'(by rw [sealOf_length l h]; exact hi)) :
    sRight ((sealOf l).set i v) = (bSum true ((sealOf l).set i v) == bSum false (sealOf l)) := by
  have hb := bSum_pos l h
  have hsl := sealOf_length l h
  have hf2 : fieldOf ((sealOf l).set i v) = sealField (bSum false l) := by rw [fieldOf_set _ i v hf, fieldOf_seal l h]
  rw [right_of _ (by rw [List.length_set, hsl]) (bSum false l) hb.1 (by omega) hf2, bSum_seal false l h]
  have hne : (bSum false l == bSum false ((sealOf l).set i v)) = false := by
    rw [beq_eq_false_iff_ne]
    intro e
    have e2 : bSum false ((sealOf l).set i v) = sumL uns (blanked (sealOf l)) - uns ((blanked (sealOf l))[i]'(by rw [blanked_length _ hsl]; exact hi)) + uns v := by
      unfold bSum
      rw [blanked_set _ hsl i v hf]
      exact sumL_set uns _ i v (by rw [blanked_length _ hsl]; exact hi)
    have e3 : bSum false l = sumL uns (blanked (sealOf l)) := by rw [blanked_seal l h]; rfl
    rw [blanked_get _ hsl i hi, if_neg (by omega)] at e2
    rw [e2, e3] at e
    apply hv
    apply UInt8.toNat_inj.1
    unfold uns at e
    omega
  rw [hne, Bool.false_or]
  rw [Bool.eq_iff_iff, beq_iff_eq, beq_iff_eq]
  exact eq_comm
end Go.Proofs.YtjmmecokfijglaaGreatDoor
