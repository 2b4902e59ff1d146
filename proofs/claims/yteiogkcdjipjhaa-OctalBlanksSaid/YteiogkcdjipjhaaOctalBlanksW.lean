/- The walk of the law OctalBlanks. -/
import Derived.Test.YteiogkcdjipjhaaOctA
import Derived.Test.YteiogkcdjipjhaaOctRefB
namespace Go.Proofs.Yteiogkcdjipjhaa.octalBlanks
open Go.ChangeShapes Go.WideShapes Go.ChangeAt Go.RowKit

theorem i64_and511 (x : Int) : bits .and .i64 x 511 = x % 512 := by
  have h7 : (BitVec.ofInt 64 511).toNat = 511 := by decide
  show IntKind.i64.wrap ((BitVec.ofInt 64 x &&& BitVec.ofInt 64 511).toNat : Int) = _
  rw [BitVec.toNat_and, h7, BitVec.toNat_ofInt]
  have h64 : ((2 ^ 64 : Nat) : Int) = 18446744073709551616 := by decide
  rw [h64]
  have hm : ∀ a : Nat, a &&& 511 = a % 512 := fun a => Nat.and_two_pow_sub_one_eq_mod a 9
  rw [hm, IntKind.wrap_i64]
  omega

/-- Blanks and NULs by turns. -/
def tl (b : Nat) : List UInt8 := (List.range b).map fun i => if i % 2 = 0 then 32 else 0
theorem tl_succ (b : Nat) : tl (b + 1) = tl b ++ [if b % 2 = 0 then 32 else 0] := by
  unfold tl
  rw [List.range_succ, List.map_append]; rfl

theorem tail_blank (z : Int) (h : z ≤ 9007199254740991) (l : List UInt8) (hl : ∀ b ∈ l, (b.toNat : Int) = 0 ∨ (b.toNat : Int) = 32) : tailOf z l = (z, 0) := by
  induction l with
  | nil => exact tailOf_nil z h
  | cons b l ih => rw [tailOf_skip _ _ _ (hl b List.mem_cons_self), ih (fun c hc => hl c (List.mem_cons_of_mem _ hc))]
theorem tl_blank (b : Nat) : ∀ c ∈ tl b, ((c : UInt8).toNat : Int) = 0 ∨ ((c : UInt8).toNat : Int) = 32 := by
  intro c hc
  unfold tl at hc
  simp only [List.mem_map, List.mem_range] at hc
  obtain ⟨i, _, rfl⟩ := hc
  split
  · exact .inr rfl
  · exact .inl rfl

theorem readOctal_digs_on (m : Nat) (s : List UInt8) : ∀ (q z v : Int), q ≠ 2 → readOctal q z (digs (m + 1) v ++ s) = readOctal 1 (z * 8 ^ (m + 1) + v % 8 ^ (m + 1)) s := by
  induction m with
  | zero =>
    intro q z v hq
    show readOctal q z (UInt8.ofNat (48 + v / 8 ^ 0 % 8).toNat :: s) = _
    rw [readOctal_cons, digit_byte, if_neg (by omega), if_pos ⟨hq, by omega, by omega⟩]
    congr 1
    simp
    omega
  | succ m ih =>
    intro q z v hq
    rw [digs_succ, List.cons_append, readOctal_cons, digit_byte]
    rw [if_neg (by omega), if_pos ⟨hq, by omega, by omega⟩, ih 1 _ v (by decide), mod_split v (m + 1), Int.pow_succ 8 (m + 1)]
    congr 1
    rw [show 48 + v / 8 ^ (m + 1) % 8 - 48 = v / 8 ^ (m + 1) % 8 by omega, Int.add_mul, Int.mul_assoc, Int.mul_comm 8 ((8 : Int) ^ (m + 1))]
    omega

theorem readOctal_spaces (a : Nat) (l : List UInt8) : readOctal 0 0 (List.replicate a 32 ++ l) = readOctal 0 0 l := by
  induction a with
  | zero => rfl
  | succ a ih => rw [List.replicate_succ, List.cons_append, readOctal_cons, if_pos ⟨rfl, rfl⟩, ih]

theorem blanks_read (a b : Nat) (ha : a ≤ 4) (hb : b ≤ 4) (x : Int) (h0 : 0 ≤ x) (h1 : x < 512) :
    octRead (List.replicate a 32 ++ digs 3 x ++ tl b) = (x, 0) := by
  have hlen : (List.replicate a 32 ++ digs 3 x ++ tl b).length = a + 3 + b := by simp [digs, tl]; omega
  have hr : readOctal 0 0 (List.replicate a 32 ++ digs 3 x ++ tl b) = (x, 0) := by
    rw [List.append_assoc, readOctal_spaces, readOctal_digs_on 2 (tl b) 0 0 x (by decide)]
    have hx : (0 : Int) * 8 ^ (2 + 1) + x % 8 ^ (2 + 1) = x := by
      rw [show (8 : Int) ^ (2 + 1) = 512 by decide]; omega
    rw [hx]
    cases h : tl b with
    | nil => rfl
    | cons c t =>
      have hc := tl_blank b c (by rw [h]; exact List.mem_cons_self)
      rw [readOctal_cons, if_neg (by omega), if_neg (by omega), if_pos hc, readOctal_rest x (by omega)]
      exact tail_blank x (by omega) t (fun d hd => tl_blank b d (by rw [h]; exact List.mem_cons_of_mem _ hd))
  have hfirst : ∃ (c : UInt8) (t : List UInt8), List.replicate a 32 ++ digs 3 x ++ tl b = c :: t ∧ (c.toNat : Int) ≠ 128 ∧ (c.toNat : Int) ≠ 255 := by
    cases a with
    | zero =>
      refine ⟨_, _, by rw [digs_succ]; rfl, ?_, ?_⟩ <;> rw [digit_byte] <;> omega
    | succ a => exact ⟨32, _, by rw [List.replicate_succ]; rfl, by decide, by decide⟩
  obtain ⟨c, t, he, hc1, hc2⟩ := hfirst
  rw [he] at hr hlen ⊢
  unfold octRead
  rw [if_pos (by rw [hlen]; simp [isSize]; omega)]
  show (if _ then _ else if _ then _ else _) = _
  rw [if_neg hc1, if_neg hc2, hr]

set_option maxRecDepth 100000 in
theorem walk (v p q : Int) (hv : 0 ≤ v ∧ v ≤ 65535) (hp : 0 ≤ p ∧ p ≤ 255) (hq : 0 ≤ q ∧ q ≤ 255) (w : World) :
    Calls Try.prog 6 #[.int .u16 v, .int .u8 p, .int .u8 q] w fun e w' => Below w.heap.size w w' ∧ e = .returned (.bool true) := by
  have hand := i64_and511 v
  have Ho := Lib.hid (octal_any (v % 512) 4 w (by decide) (by decide) (by omega) (by rw [show (2 : Int) ^ (3 * (4 - 1)) = 512 by decide]; omega) (by omega))
  have Hs := Lib.hid (octStr_digs (v % 512) 4)
  have Ha := Lib.hid awake_any
  have Hd : Hid ((digs 3 (v % 512)).length = 3) := by show _ = _; simp [digs]
  rw [Hs.out] at Ho
  have hx0 : 0 ≤ v % 512 := by omega
  have hx1 : v % 512 < 512 := by omega
  generalize hxx : v % 512 = x at *
  clear hxx
  obtain ⟨a, ha⟩ : ∃ a : Nat, p % 5 = a := ⟨(p % 5).toNat, by omega⟩
  obtain ⟨b, hb⟩ : ∃ b : Nat, q % 5 = b := ⟨(q % 5).toNat, by omega⟩
  have ha4 : a ≤ 4 := by omega
  have hb4 : b ≤ 4 := by omega
  have Hr := Lib.hid (fun w => read_any (List.replicate a 32 ++ digs 3 x ++ tl b) w (by simp [digs, tl, maxLen]; omega))
  rw [blanks_read a b ha4 hb4 x hx0 hx1] at Hr
  go_enter Try.func6, Try.ntmps6
  go_wp2_with fail
  refine Ho.out.mono ?_
  rintro e w1 ⟨hb1, rfl⟩
  have Hb1 := Lib.hid hb1
  have Hand := Lib.hid hand
  clear hb1 hand
  have ht : List.take 3 (digs (4 - 1) x ++ [0]) = digs 3 x := by
    rw [show digs (4 - 1) x = digs 3 x from rfl, List.take_append_of_le_length (by rw [Hd.out]; decide), List.take_of_length_le (by rw [Hd.out]; decide)]
  have hD : (digs (4 - 1) x).length ≤ 3 := by rw [show digs (4 - 1) x = digs 3 x from rfl, Hd.out]; decide
  have hD2 : 3 ≤ (digs (4 - 1) x).length := by rw [show digs (4 - 1) x = digs 3 x from rfl, Hd.out]; decide
  generalize digs (4 - 1) x = D at *
  clear Ho Hs
  go_wp2_with fail
  rw [ha]
  go_loop [9, 25] (fun s i => ∃ k : Nat, k ≤ a ∧ i = .int .i64 k ∧ ∃ t : List UInt8, s = .string ⟨t.toArray⟩ ∧ t = List.replicate k 32) (fun _ i => a - (intOf i).toNat)
  case atStart => exact ⟨0, Nat.zero_le _, rfl, [], rfl, rfl⟩
  case round =>
    obtain ⟨k, hk, rfl, t, rfl, hrep⟩ := hrel
    have htl : t.length ≤ 4 := by rw [hrep]; simp; omega
    have Ht := Lib.hid hrep
    clear hrep
    by_cases hlt : k < a
    · go_wp2
      go_round
      case rel => exact ⟨k + 1, by omega, by go_num, _, rfl, by rw [Ht.out, List.replicate_succ']⟩
      case measure => simp [intOf]; omega
    · have Hk := Lib.hid (show t = List.replicate a 32 by rw [Ht.out, show k = a by omega])
      clear Ht
      have hln : (t ++ D).length ≤ 8 := by rw [List.length_append]; omega
      go_wp2
      generalize hTD : t ++ D = TD at *
      have HTD := Lib.hid (show TD = List.replicate a 32 ++ D by rw [← hTD, Hk.out])
      clear hTD
      go_loopw [9, 10, 37] (fun s _ i wr => ∃ k : Nat, k ≤ b ∧ i = .int .i64 k ∧ ∃ t : List UInt8, s = .string ⟨t.toArray⟩ ∧ t = TD ++ tl k ∧ Below w1.heap.size w1 wr) (fun _ _ i _ => b - (intOf i).toNat)
      case atStart => exact ⟨0, Nat.zero_le _, rfl, _, rfl, by simp [tl], Below.refl _ _⟩
      case round =>
        obtain ⟨j, hj, rfl, t2, rfl, hrep, hbel⟩ := hrel
        have htl2 : t2.length ≤ 12 := by rw [hrep]; simp [tl]; omega
        have Ht2 := Lib.hid hrep
        have Hbel := Lib.hid hbel
        clear hrep hbel
        by_cases hlt : j < b
        · have hj2 : j % 2 < ([32, 0] : List UInt8).length := by simp; omega
          have hcv := run_byte_string (P := Try.prog) 37 5 9 Try.underlying37 Try.underlying5 Try.underlying9 ((([32, 0] : List UInt8)[j % 2].toNat : Nat) : Int) (by omega) (byte_lt _)
          have Hbyte := Lib.hid (show [([32, 0] : List UInt8)[j % 2]] = [if j % 2 = 0 then 32 else 0] by
            have : j % 2 = 0 ∨ j % 2 = 1 := by omega
            rcases this with h | h <;> simp [h])
          go_wp2
          go_roundw
          case rel => exact ⟨j + 1, by omega, by go_num, _, rfl, by rw [Ht2.out, Hbyte.out, tl_succ, List.append_assoc], Hbel.out.alloc Hbel.out.size _⟩
          case measure => simp [intOf]; omega
        · have Hj := Lib.hid (show t2 = List.replicate a 32 ++ D ++ tl b by rw [Ht2.out, HTD.out, show j = b by omega])
          rw [← Hj.out] at Hr
          clear Ht2
          go_wp2_with fail
          refine (Hr.out wr).mono ?_
          rintro e w' ⟨rfl, rfl⟩
          have h511 : (x == bits .and .i64 v 511) = true := by rw [Hand.out]; simp
          go_wp2_with fail
          refine (Ha.out wr).mono ?_
          rintro e w3 ⟨hb3, rfl⟩
          have Hend := Lib.hid ((Hb1.out.trans (Hbel.out.mono Hb1.out.size)).trans (hb3.mono (Nat.le_trans Hb1.out.size Hbel.out.size)))
          go_wp2
          go_ret
          exact ⟨Hend.out, rfl⟩
end Go.Proofs.Yteiogkcdjipjhaa.octalBlanks
