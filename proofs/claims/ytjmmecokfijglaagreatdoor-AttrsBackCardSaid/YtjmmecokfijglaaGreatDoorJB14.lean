/-
  Texts of this seat's proof, joined: their order is that of the build.
-/
import Derived.Test.YtjmmecokfijglaaGreatDoorJB09
namespace Go.Proofs.YtjmmecokfijglaaGreatDoor
open Go.ChangeShapes Go.WideShapes Go.ChangeAt Go.RowKit

abbrev Pr := List UInt8 × List UInt8

/-! ### Ahead of a byte, and behind it -/
def aheadC (c : UInt8) (l : List UInt8) : List UInt8 := l.takeWhile (· != c)
def behindC (c : UInt8) (l : List UInt8) : List UInt8 := (l.dropWhile (· != c)).drop 1
theorem aheadC_cons (c b : UInt8) (l : List UInt8) : aheadC c (b :: l) = if b = c then [] else b :: aheadC c l := by
  unfold aheadC
  by_cases h : b = c
  · rw [if_pos h, List.takeWhile_cons_of_neg (by simpa using h)]
  · rw [if_neg h, List.takeWhile_cons_of_pos (by simpa using h)]
theorem indexC (c : UInt8) (l : List UInt8) : (c ∈ l → Lib.indexByte l c = (aheadC c l).length) ∧ (c ∉ l → Lib.indexByte l c = -1) := by
  induction l with
  | nil => exact ⟨fun h => by simp at h, fun _ => rfl⟩
  | cons b l ih =>
    show (_ → (if b == c then (0 : Int) else if Lib.indexByte l c == -1 then -1 else Lib.indexByte l c + 1) = _) ∧ (_ → (if b == c then (0 : Int) else if Lib.indexByte l c == -1 then -1 else Lib.indexByte l c + 1) = _)
    by_cases hb : b = c
    · subst hb
      refine ⟨fun _ => ?_, fun h => absurd List.mem_cons_self h⟩
      rw [aheadC_cons, if_pos rfl]; simp
    · have e : (b == c) = false := by simpa using hb
      have hm : (c ∈ b :: l) ↔ c ∈ l := by simp [Ne.symm hb]
      rw [e, aheadC_cons, if_neg hb]
      constructor
      · intro h
        rw [ih.1 (hm.1 h)]
        have : (((aheadC c l).length : Int) == -1) = false := by rw [beq_eq_false_iff_ne]; omega
        simp [this]
      · intro h
        rw [ih.2 (fun h2 => h (hm.2 h2))]; rfl
theorem take_aheadC (c : UInt8) (l : List UInt8) : l.take (aheadC c l).length = aheadC c l := by
  unfold aheadC
  conv => lhs; arg 2; rw [← List.takeWhile_append_dropWhile (p := fun b => b != c) (l := l)]
  exact List.take_left
theorem drop_aheadC (c : UInt8) (l : List UInt8) : l.drop ((aheadC c l).length + 1) = behindC c l := by
  unfold behindC
  rw [← List.drop_drop]
  congr 1
  unfold aheadC
  conv => lhs; arg 2; rw [← List.takeWhile_append_dropWhile (p := fun b => b != c) (l := l)]
  exact List.drop_left
theorem aheadC_none (c : UInt8) (l : List UInt8) (h : c ∉ l) : aheadC c l = l ∧ behindC c l = [] := by
  have h1 : aheadC c l = l := by
    induction l with
    | nil => rfl
    | cons b l ih =>
      have hb : b ≠ c := fun e => h (e ▸ List.mem_cons_self)
      rw [aheadC_cons, if_neg hb, ih (fun hm => h (List.mem_cons_of_mem _ hm))]
  refine ⟨h1, ?_⟩
  have := drop_aheadC c l
  rw [h1] at this
  rw [← this, List.drop_of_length_le (by omega)]
theorem aheadC_length (c : UInt8) (l : List UInt8) (h : c ∈ l) : (aheadC c l).length < l.length := by
  induction l with
  | nil => cases h
  | cons b l ih =>
    by_cases hb : b = c
    · rw [aheadC_cons, if_pos hb]; simp
    · have hm : c ∈ l := by rcases List.mem_cons.1 h with e | e; exact absurd e.symm hb; exact e
      rw [aheadC_cons, if_neg hb]; have := ih hm; simp; omega
theorem aheadC_free (c : UInt8) (l : List UInt8) : c ∉ aheadC c l := by
  induction l with
  | nil => exact fun h => nomatch h
  | cons b l ih =>
    rw [aheadC_cons]
    split
    · exact fun h => nomatch h
    · next h => exact fun hm => (List.mem_cons.1 hm).elim (fun e => h e.symm) ih
theorem aheadC_get (c : UInt8) (l : List UInt8) (k : Nat) (hk : k < l.length) (ha : k ≤ (aheadC c l).length) : (l[k] = c ↔ k = (aheadC c l).length) := by
  induction l generalizing k with
  | nil => simp at hk
  | cons b l ih =>
    rw [aheadC_cons] at ha ⊢
    by_cases hb : b = c
    · rw [if_pos hb] at ha ⊢
      have : k = 0 := by simpa using ha
      subst this
      simp [hb]
    · rw [if_neg hb] at ha ⊢
      rcases k with _ | k
      · simp [hb]
      · have := ih k (by simpa using hk) (by simpa using ha)
        simpa using this
theorem aheadC_app (c : UInt8) (x y : List UInt8) (h : c ∉ x) : aheadC c (x ++ c :: y) = x ∧ behindC c (x ++ c :: y) = y ∧ c ∈ x ++ c :: y := by
  have h1 : aheadC c (x ++ c :: y) = x := by
    induction x with
    | nil => rw [List.nil_append, aheadC_cons, if_pos rfl]
    | cons b x ih =>
      have hb : b ≠ c := fun e => h (e ▸ List.mem_cons_self)
      rw [List.cons_append, aheadC_cons, if_neg hb, ih (fun hm => h (List.mem_cons_of_mem _ hm))]
  refine ⟨h1, ?_, by simp⟩
  have := drop_aheadC c (x ++ c :: y)
  rw [h1] at this
  rw [← this]; simp

/-! ### How many digits -/
theorem nDigits_mono : ∀ (b a : Nat), a ≤ b → Lib.nDigits a ≤ Lib.nDigits b := by
  intro b
  induction b using Nat.strongRecOn with
  | _ b ih =>
    intro a h
    by_cases ha : a < 10
    · rw [Lib.nDigits_small ha]; exact Lib.nDigits_pos b
    · rw [Lib.nDigits_big ha, Lib.nDigits_big (by omega : ¬ b < 10)]
      have := ih (b / 10) (by omega) (a / 10) (by omega)
      omega
theorem nDigits_le : ∀ (k a : Nat), a < 10 ^ (k + 1) → Lib.nDigits a ≤ k + 1 := by
  intro k
  induction k with
  | zero => intro a h; rw [Lib.nDigits_small (by simpa using h)]; omega
  | succ k ih =>
    intro a h
    by_cases ha : a < 10
    · rw [Lib.nDigits_small ha]; omega
    · rw [Lib.nDigits_big ha]
      have := ih (a / 10) (by rw [Nat.pow_succ] at h; omega)
      omega
theorem nDigits_19 (a : Nat) (h : a < 9223372036854775808) : Lib.nDigits a ≤ 19 := nDigits_le 18 a (by have : (10 : Nat) ^ (18 + 1) = 10000000000000000000 := (by decide); omega)

/-- The least number that is its own digits and all the rest. -/
def szFrom (rest : Nat) : Nat → Nat → Nat
  | 0, d => rest + d
  | f + 1, d => if Lib.nDigits (rest + d) ≤ d then rest + d else szFrom rest f (d + 1)
def szOf (rest : Nat) : Nat := szFrom rest 20 1
theorem szFrom_hit (rest f d : Nat) (h : Lib.nDigits (rest + d) ≤ d) : szFrom rest (f + 1) d = rest + d := if_pos h
theorem szFrom_next (rest f d : Nat) (h : ¬ Lib.nDigits (rest + d) ≤ d) : szFrom rest (f + 1) d = szFrom rest f (d + 1) := if_neg h
theorem szFrom_spec (rest : Nat) (hr : rest ≤ 4611686018427387904) : ∀ f d, d + f = 21 → d ≤ Lib.nDigits (rest + d) →
    ∃ k, d ≤ k ∧ k ≤ 19 ∧ szFrom rest f d = rest + k ∧ Lib.nDigits (rest + k) = k ∧ ∀ j, d ≤ j → j < k → Lib.nDigits (rest + j) ≠ j := by
  intro f
  induction f with
  | zero => intro d hd h; have := nDigits_19 (rest + d) (by omega); omega
  | succ f ih =>
    intro d hd h
    have h19 := nDigits_19 (rest + d) (by omega)
    by_cases hc : Lib.nDigits (rest + d) ≤ d
    · exact ⟨d, Nat.le_refl _, by omega, szFrom_hit _ _ _ hc, by omega, fun j h1 h2 => by omega⟩
    · have hm := nDigits_mono (rest + (d + 1)) (rest + d) (by omega)
      obtain ⟨k, k1, k2, k3, k4, k5⟩ := ih (d + 1) (by omega) (by omega)
      refine ⟨k, by omega, k2, by rw [szFrom_next _ _ _ hc, k3], k4, fun j h1 h2 => ?_⟩
      by_cases hj : j = d
      · subst hj; omega
      · exact k5 j (by omega) h2
theorem szOf_spec (rest : Nat) (hr : rest ≤ 4611686018427387904) : szOf rest = rest + Lib.nDigits (szOf rest) ∧ szOf rest ≤ rest + 19 ∧ ∀ n, n = rest + Lib.nDigits n → szOf rest ≤ n := by
  obtain ⟨k, k1, k2, k3, k4, k5⟩ := szFrom_spec rest hr 20 1 rfl (Lib.nDigits_pos _)
  have e : szOf rest = rest + k := k3
  refine ⟨by rw [e, k4], by omega, fun n hn => ?_⟩
  rw [e]
  rcases Nat.lt_or_ge n (rest + k) with hlt | hge
  · exfalso
    have hp := Lib.nDigits_pos n
    exact k5 (Lib.nDigits n) hp (by omega) (by rw [← hn])
  · exact hge

/-! ### A record -/
def prRest (p : Pr) : Nat := p.1.length + p.2.length + 3
def prSize (p : Pr) : Nat := szOf (prRest p)
def prText (p : Pr) : List UInt8 := Lib.decDigits (prSize p) ++ 32 :: (p.1 ++ 61 :: (p.2 ++ [10]))
theorem prText_length (p : Pr) (h : prRest p ≤ 4611686018427387904) : (prText p).length = prSize p := by
  have := (szOf_spec (prRest p) h).1
  unfold prText prSize at *
  rw [List.length_append, Lib.decDigits_length]
  simp only [List.length_cons, List.length_append, List.length_nil]
  unfold prRest at *
  omega
def prRight (p : Pr) : Bool := decide (p.1 ≠ [] ∧ 61 ∉ p.1)
theorem prRight_true {p : Pr} (h : prRight p = true) : p.1 ≠ [] ∧ 61 ∉ p.1 := of_decide_eq_true h
def prTexts (l : List Pr) : List UInt8 := l.flatMap prText
def prSizes : List Pr → Nat
  | [] => 0
  | p :: l => prSize p + prSizes l
theorem prTexts_cons (p : Pr) (l : List Pr) : prTexts (p :: l) = prText p ++ prTexts l := by simp [prTexts]
theorem prTexts_append (x y : List Pr) : prTexts (x ++ y) = prTexts x ++ prTexts y := by simp [prTexts]
theorem prSizes_append (x y : List Pr) : prSizes (x ++ y) = prSizes x + prSizes y := by
  induction x with
  | nil => simp [prSizes]
  | cons p x ih => rw [List.cons_append]; show prSize p + _ = prSize p + _ + _; rw [ih]; omega
def prFits (M : Nat) (l : List Pr) : Prop := ∀ p ∈ l, p.1.length + p.2.length ≤ M
theorem prTexts_length (l : List Pr) (h : prFits 4611686018427387901 l) : (prTexts l).length = prSizes l := by
  induction l with
  | nil => rfl
  | cons p l ih =>
    rw [prTexts_cons, List.length_append, prText_length p (by have := h p List.mem_cons_self; unfold prRest; omega), ih (fun q hq => h q (List.mem_cons_of_mem _ hq))]
    rfl
theorem prSizes_le (M : Nat) (hM : M ≤ 4611686018427387901) (l : List Pr) (h : prFits M l) : prSizes l ≤ l.length * (M + 22) := by
  induction l with
  | nil => exact Nat.zero_le _
  | cons p l ih =>
    have h1 := h p List.mem_cons_self
    have h2 := (szOf_spec (prRest p) (by unfold prRest; omega)).2.1
    have h3 := ih (fun q hq => h q (List.mem_cons_of_mem _ hq))
    show szOf (prRest p) + prSizes l ≤ _
    rw [List.length_cons, Nat.add_mul]
    unfold prRest at *
    omega
theorem prSizes_256 (M : Nat) (hM : M ≤ 4611686018427387901) (l : List Pr) (h : prFits M l) (hn : l.length ≤ 256) : prSizes l ≤ 256 * (M + 22) :=
  Nat.le_trans (prSizes_le M hM l h) (Nat.mul_le_mul_right _ hn)
theorem prSizes_take (l : List Pr) (k : Nat) : prSizes (l.take k) ≤ prSizes l := by
  have := prSizes_append (l.take k) (l.drop k)
  rw [List.take_append_drop] at this
  omega

def prPrint (l : List Pr) : List UInt8 × Int :=
  if 256 < l.length then ([], 8) else if l.all prRight = false then ([], 2) else if 65536 < prSizes l then ([], 12) else (prTexts l, 0)

/-! ### The first record of some bytes -/
def headDig (s : List UInt8) : List UInt8 := s.takeWhile isDig
theorem headDig_cons (b : UInt8) (l : List UInt8) : headDig (b :: l) = if isDig b = true then b :: headDig l else [] := by
  unfold headDig
  by_cases h : isDig b = true
  · rw [if_pos h, List.takeWhile_cons_of_pos h]
  · rw [if_neg h, List.takeWhile_cons_of_neg h]
theorem headDig_dig (s : List UInt8) : allDig (headDig s) = true := by
  induction s with
  | nil => rfl
  | cons b l ih =>
    rw [headDig_cons]
    split
    · next h => show (isDig b && _) = true; rw [h, ih]; rfl
    · rfl
theorem headDig_take (s : List UInt8) : s.take (headDig s).length = headDig s := by
  unfold headDig
  conv => lhs; arg 2; rw [← List.takeWhile_append_dropWhile (p := isDig) (l := s)]
  exact List.take_left
theorem headDig_le (s : List UInt8) : (headDig s).length ≤ s.length := by
  have := congrArg List.length (headDig_take s)
  rw [List.length_take] at this
  omega
theorem headDig_get (s : List UInt8) (k : Nat) (hk : k < s.length) (ha : k ≤ (headDig s).length) : isDig s[k] = decide (k < (headDig s).length) := by
  induction s generalizing k with
  | nil => simp at hk
  | cons b l ih =>
    rw [headDig_cons] at ha ⊢
    by_cases hb : isDig b = true
    · rw [if_pos hb] at ha ⊢
      rcases k with _ | k
      · simp [hb]
      · have := ih k (by simpa using hk) (by simpa using ha)
        simpa using this
    · rw [if_neg hb] at ha ⊢
      have : k = 0 := by simpa using ha
      subst this
      simpa using hb
theorem headDig_app (x : List UInt8) (b : UInt8) (y : List UInt8) (hx : allDig x = true) (hb : isDig b = false) : headDig (x ++ b :: y) = x := by
  induction x with
  | nil => rw [List.nil_append, headDig_cons, hb]; rfl
  | cons c x ih =>
    have h1 : isDig c = true ∧ allDig x = true := by simpa [allDig] using hx
    rw [List.cons_append, headDig_cons, if_pos h1.1, ih h1.2]

inductive RF
  | bad (e : Int)
  | ok (p : Pr) (n : Nat)
def rLed (s : List UInt8) : Bool := decide (1 ≤ (headDig s).length ∧ (headDig s).length ≤ 6 ∧ s[0]? ≠ some 48 ∧ s[(headDig s).length]? = some 32)
def rNum (s : List UInt8) : Nat := (numD 0 (headDig s)).toNat
def rBody (b : List UInt8) (n : Nat) : RF := if 61 ∈ b ∧ aheadC 61 b ≠ [] then .ok (aheadC 61 b, behindC 61 b) n else .bad 2
def rIn (s : List UInt8) : List UInt8 := (s.drop ((headDig s).length + 1)).take (rNum s - 1 - ((headDig s).length + 1))
def rFirst (s : List UInt8) : RF :=
  if rLed s = false then .bad 2 else if s.length < rNum s then .bad 3
  else if rNum s ≤ (headDig s).length + 1 ∨ s[rNum s - 1]? ≠ some 10 then .bad 2 else rBody (rIn s) (rNum s)

def rGo : Nat → List Pr → List UInt8 → List Pr × Int
  | _, acc, [] => (acc, 0)
  | 0, _, _ :: _ => ([], 8)
  | f + 1, acc, b :: l => match rFirst (b :: l) with
    | .bad e => ([], e)
    | .ok p n => rGo f (acc ++ [p]) ((b :: l).drop n)
def rParse (s : List UInt8) : List Pr × Int := if 65536 < s.length then ([], 12) else rGo 256 [] s
theorem rGo_nil (f : Nat) (acc : List Pr) : rGo f acc [] = (acc, 0) := by cases f <;> rfl
theorem rGo_full (acc : List Pr) (s : List UInt8) (h : s ≠ []) : rGo 0 acc s = ([], 8) := by cases s <;> trivial
theorem rGo_bad (f : Nat) (acc : List Pr) (s : List UInt8) (h : s ≠ []) {e : Int} (hf : rFirst s = .bad e) : rGo (f + 1) acc s = ([], e) := by
  cases s with
  | nil => exact absurd rfl h
  | cons b l => rw [rGo, hf]
theorem rGo_ok (f : Nat) (acc : List Pr) (s : List UInt8) (h : s ≠ []) {p : Pr} {n : Nat} (hf : rFirst s = .ok p n) : rGo (f + 1) acc s = rGo f (acc ++ [p]) (s.drop n) := by
  cases s with
  | nil => exact absurd rfl h
  | cons b l => rw [rGo, hf]
theorem numD_head (l : List UInt8) (h : allDig l = true) (hn : l ≠ []) (h0 : l[0]? ≠ some 48) : 1 ≤ numD 0 l ∧ Lib.nDigits (numD 0 l).toNat = l.length := by
  suffices hs : ∀ k (l : List UInt8), l.length = k + 1 → allDig l = true → l[0]? ≠ some 48 → ((10 ^ k : Nat) : Int) ≤ numD 0 l ∧ numD 0 l < ((10 ^ (k + 1) : Nat) : Int) by
    obtain ⟨k, hk⟩ : ∃ k, l.length = k + 1 := ⟨l.length - 1, by have : l.length ≠ 0 := (fun e => hn (List.length_eq_zero_iff.1 e)); omega⟩
    obtain ⟨h1, h2⟩ := hs k l hk h h0
    have hp : 1 ≤ 10 ^ k := Nat.one_le_pow _ _ (by decide)
    refine ⟨by omega, ?_⟩
    rw [hk]
    exact Lib.nDigits_unique k _ (by omega) (by omega)
  intro k
  induction k with
  | zero =>
    intro l hk ha h0
    match l, hk with
    | [b], _ =>
      have hb := isDig_true (by simpa [allDig] using ha : isDig b = true)
      have : b.toNat ≠ 48 := fun e => h0 (by simp; exact UInt8.toNat_inj.1 e)
      show _ ≤ 0 * 10 + ((b.toNat : Int) - 48) ∧ 0 * 10 + ((b.toNat : Int) - 48) < _
      simp
      omega
  | succ k ih =>
    intro l hk ha h0
    have hne : l ≠ [] := fun e => by rw [e] at hk; simp at hk
    have hd : l = l.dropLast ++ [l.getLast hne] := (List.dropLast_concat_getLast hne).symm
    have hdl : l.dropLast.length = k + 1 := by rw [List.length_dropLast, hk]; rfl
    have hz : l.dropLast[0]? ≠ some 48 := by
      rw [List.getElem?_eq_getElem (by omega), List.getElem_dropLast, ← List.getElem?_eq_getElem]
      exact h0
    rw [hd, allDig_append] at ha
    obtain ⟨a1, a2⟩ := (Bool.and_eq_true _ _ ▸ ha : _ = true ∧ _ = true)
    have hb := isDig_true (by simpa [allDig] using a2 : isDig (l.getLast hne) = true)
    obtain ⟨i1, i2⟩ := ih l.dropLast hdl a1 hz
    rw [hd, numD_append]
    generalize numD 0 l.dropLast = X at *
    show _ ≤ X * 10 + ((l.getLast hne).toNat - 48 : Int) ∧ X * 10 + ((l.getLast hne).toNat - 48 : Int) < _
    have e1 : 10 ^ (k + 1) = 10 ^ k * 10 := Nat.pow_succ ..
    have e2 : 10 ^ (k + 1 + 1) = 10 ^ (k + 1) * 10 := Nat.pow_succ ..
    omega
theorem rLed_true {s : List UInt8} (h : rLed s = true) : 1 ≤ (headDig s).length ∧ (headDig s).length ≤ 6 ∧ s[0]? ≠ some 48 ∧ s[(headDig s).length]? = some 32 := of_decide_eq_true h
theorem rLed_num {s : List UInt8} (h : rLed s = true) : 1 ≤ rNum s ∧ Lib.nDigits (rNum s) = (headDig s).length ∧ numD 0 (headDig s) = rNum s ∧ rNum s ≤ 999999 := by
  obtain ⟨h1, h2, h3, h4⟩ := rLed_true h
  have hz : (headDig s)[0]? ≠ some 48 := by
    rw [← headDig_take s, List.getElem?_take_of_lt (by omega)]; exact h3
  obtain ⟨n1, n2⟩ := numD_head (headDig s) (headDig_dig s) (fun e => by rw [e] at h1; simp at h1) hz
  have hb := numD_bd (headDig s) 0 (by decide) (headDig_dig s)
  have hp : (10 : Int) ^ (headDig s).length ≤ 1000000 := by
    have h : (10 : Nat) ^ (headDig s).length ≤ 10 ^ 6 := Nat.pow_le_pow_right (by decide) h2
    have e : (((10 : Nat) ^ (headDig s).length : Nat) : Int) = (10 : Int) ^ (headDig s).length := by simp
    have e2 : (10 : Nat) ^ 6 = 1000000 := by decide
    omega
  unfold rNum
  exact ⟨by omega, n2, by omega, by omega⟩
/-- What the first record is: its text is no longer than the bytes that it has there. -/
theorem rFirst_ok {s : List UInt8} {p : Pr} {n : Nat} (h : rFirst s = .ok p n) : 1 ≤ n ∧ n ≤ s.length ∧ prRight p = true ∧ prSize p ≤ n ∧ p.1.length + p.2.length ≤ s.length := by
  unfold rFirst at h
  split at h
  · cases h
  · next h1 =>
    split at h
    · cases h
    · next h2 =>
      split at h
      · cases h
      · next h3 =>
        unfold rBody at h
        split at h
        · next h4 =>
          injection h with hp hn
          have hL : rLed s = true := by simpa using h1
          obtain ⟨n1, n2, n3, n4⟩ := rLed_num hL
          have hlen : (rIn s).length = rNum s - 1 - ((headDig s).length + 1) := by
            unfold rIn; rw [List.length_take, List.length_drop]; omega
          have hd := congrArg List.length (drop_aheadC 61 (rIn s))
          rw [List.length_drop] at hd
          have hlt := aheadC_length 61 (rIn s) h4.1
          have h5 : ¬ rNum s ≤ (headDig s).length + 1 := fun e => h3 (.inl e)
          subst hp hn
          have hk : (aheadC 61 (rIn s)).length + (behindC 61 (rIn s)).length + 3 + (headDig s).length = rNum s := by omega
          refine ⟨n1, by omega, decide_eq_true ⟨h4.2, aheadC_free 61 _⟩, ?_, by simp only; omega⟩
          exact (szOf_spec (prRest (aheadC 61 (rIn s), behindC 61 (rIn s))) (by unfold prRest; simp only; omega)).2.2 _ (by unfold prRest; simp only; omega)
        · cases h
theorem rGo_spec (f : Nat) : ∀ (acc : List Pr) (s : List UInt8) (R : List Pr), rGo f acc s = (R, 0) → (∀ s' e, s'.length ≤ s.length → rFirst s' = .bad e → e ≠ 0) →
    ∃ l, R = acc ++ l ∧ l.length ≤ f ∧ l.all prRight = true ∧ prSizes l ≤ s.length ∧ prFits s.length l := by
  induction f with
  | zero =>
    intro acc s R h _
    cases s with
    | nil => rw [rGo_nil] at h; cases h; exact ⟨[], by simp, by simp, rfl, by simp [prSizes], fun _ h => nomatch h⟩
    | cons b l => rw [rGo_full _ _ (by simp)] at h; simp at h
  | succ f ih =>
    intro acc s R h he
    by_cases hs : s = []
    · subst hs
      rw [rGo_nil] at h; cases h; exact ⟨[], by simp, by simp, rfl, by simp [prSizes], fun _ h => nomatch h⟩
    · rcases hf : rFirst s with e | ⟨p, n⟩
      · rw [rGo_bad _ _ _ hs hf] at h
        injection h with _ h2
        exact absurd h2 (he s e (Nat.le_refl _) hf)
      · rw [rGo_ok _ _ _ hs hf] at h
        obtain ⟨p1, p2, p3, p4, p5⟩ := rFirst_ok hf
        obtain ⟨l, l1, l2, l3, l4, l5⟩ := ih _ _ _ h (fun s' e h1 h2 => he s' e (by rw [List.length_drop] at h1; omega) h2)
        rw [List.length_drop] at l4 l5
        refine ⟨p :: l, by rw [l1]; simp, by simp; omega, by simp [p3, l3], by show prSize p + prSizes l ≤ _; omega, ?_⟩
        intro q hq
        rcases List.mem_cons.1 hq with rfl | hq
        · omega
        · have := l5 q hq; omega
theorem rFirst_bad {s : List UInt8} {e : Int} (h : rFirst s = .bad e) : e = 2 ∨ e = 3 := by
  unfold rFirst rBody at h
  split at h
  · cases h; exact .inl rfl
  · split at h
    · cases h; exact .inr rfl
    · split at h
      · cases h; exact .inl rfl
      · split at h
        · cases h
        · cases h; exact .inl rfl
/-- A record's text, whatever stands behind it, is read as the record. -/
theorem rFirst_text (p : Pr) (t : List UInt8) (h : prRight p = true) (hs : prSize p ≤ 999999) (hr : prRest p ≤ 4611686018427387904) : rFirst (prText p ++ t) = .ok p (prSize p) := by
  obtain ⟨d1, d2, d3⟩ := decDigits_dig (prSize p)
  obtain ⟨r1, r2⟩ := prRight_true h
  have hsz := (szOf_spec (prRest p) hr).1
  have e0 : prText p ++ t = Lib.decDigits (prSize p) ++ 32 :: ((p.1 ++ 61 :: p.2) ++ 10 :: t) := by simp [prText]
  have hh : headDig (prText p ++ t) = Lib.decDigits (prSize p) := by rw [e0]; exact headDig_app _ _ _ d1 rfl
  have hl : (Lib.decDigits (prSize p)).length = Lib.nDigits (prSize p) := Lib.decDigits_length _
  have hnum : rNum (prText p ++ t) = prSize p := by unfold rNum; rw [hh, d3]; omega
  have h6 : Lib.nDigits (prSize p) ≤ 6 := nDigits_le 5 _ (by have : (10 : Nat) ^ (5 + 1) = 1000000 := (by decide); omega)
  have hp1 := Lib.nDigits_pos (prSize p)
  have hrest : prRest p = (p.1 ++ 61 :: p.2).length + 2 := by unfold prRest; simp; omega
  change prSize p = prRest p + Lib.nDigits (prSize p) at hsz
  have hfirst : (prText p ++ t)[0]? ≠ some 48 := by
    rw [e0, List.getElem?_append_left (by omega)]
    intro e
    have hdd : Lib.decDigits (prSize p) = (List.range (Lib.nDigits (prSize p))).map fun t => Lib.dg (prSize p) (Lib.nDigits (prSize p) - 1 - t) := Lib.decDigits_eq _
    have hv := d3 0
    rcases hq : Lib.decDigits (prSize p) with _ | ⟨b, l⟩
    · exact d2 hq
    · rw [hq] at e d1 hv hl
      simp at e
      subst e
      have hal : allDig l = true := by
        have : isDig 48 = true ∧ allDig l = true := by simpa [allDig] using d1
        exact this.2
      have hb := numD_bd l 0 (by decide) hal
      rw [numD_cons] at hv
      have hv2 : numD 0 l = prSize p := by
        have e48 : (0 : Int) * 10 + ((UInt8.toNat 48 : Int) - 48) = 0 := by decide
        rw [e48] at hv
        rw [hv]; simp
      simp at hl
      have : prSize p < 10 ^ l.length := by
        have := hb.2
        rw [hv2] at this
        have e : (((10 : Nat) ^ l.length : Nat) : Int) = (10 : Int) ^ l.length := by simp
        omega
      rcases hll : l.length with _ | k
      · rw [hll] at this; simp at this; omega
      · rw [hll] at this
        have := nDigits_le k _ this
        omega
  have hblank : (prText p ++ t)[(headDig (prText p ++ t)).length]? = some 32 := by
    rw [hh, e0, List.getElem?_append_right (Nat.le_refl _)]; simp
  have hled : rLed (prText p ++ t) = true := decide_eq_true ⟨by rw [hh]; omega, by rw [hh]; omega, hfirst, hblank⟩
  have hlen : (prText p ++ t).length = prSize p + t.length := by rw [List.length_append, prText_length p hr]
  have hend : (prText p ++ t)[rNum (prText p ++ t) - 1]? = some 10 := by
    rw [hnum, show prText p ++ t = (Lib.decDigits (prSize p) ++ 32 :: (p.1 ++ 61 :: p.2)) ++ 10 :: t by simp [prText], List.getElem?_append_right (by simp at *; omega)]
    rw [show prSize p - 1 - (Lib.decDigits (prSize p) ++ 32 :: (p.1 ++ 61 :: p.2)).length = 0 by simp at *; omega]
    rfl
  have hin : rIn (prText p ++ t) = p.1 ++ 61 :: p.2 := by
    unfold rIn
    rw [hh, hnum, e0, List.drop_append, List.drop_of_length_le (by omega), show (Lib.decDigits (prSize p)).length + 1 - (Lib.decDigits (prSize p)).length = 1 by omega, List.drop_succ_cons, List.drop_zero, List.nil_append]
    exact List.take_left' (by omega)
  obtain ⟨a1, a2, a3⟩ := aheadC_app 61 p.1 p.2 r2
  unfold rFirst
  rw [hled, if_neg (by simp), if_neg (by rw [hlen, hnum]; omega), if_neg (by rw [hnum, hh, not_or]; exact ⟨by omega, by rw [← hnum, hend]; simp⟩), hin, hnum]
  unfold rBody
  rw [if_pos ⟨a3, by rw [a1]; exact r1⟩, a1, a2]
theorem prText_ne (p : Pr) (t : List UInt8) : prText p ++ t ≠ [] := by simp [prText]
theorem rGo_texts (l : List Pr) : ∀ (f : Nat) (acc : List Pr), l.length ≤ f → l.all prRight = true → prSizes l ≤ 999999 → prFits 4611686018427387901 l → rGo f acc (prTexts l) = (acc ++ l, 0) := by
  induction l with
  | nil => intro f acc _ _ _ _; rw [show prTexts [] = [] from rfl, rGo_nil, List.append_nil]
  | cons p l ih =>
    intro f acc hf hr hs hm
    obtain ⟨g, rfl⟩ : ∃ g, f = g + 1 := ⟨f - 1, by simp at hf; omega⟩
    have hr2 : prRight p = true ∧ l.all prRight = true := by simpa using hr
    have hs2 : prSize p + prSizes l ≤ 999999 := hs
    have hp : prRest p ≤ 4611686018427387904 := by have := hm p List.mem_cons_self; unfold prRest; omega
    rw [prTexts_cons, rGo_ok _ _ _ (prText_ne p _) (rFirst_text p _ hr2.1 (by omega) hp), List.drop_append, List.drop_of_length_le (by rw [prText_length p hp]; exact Nat.le_refl _), prText_length p hp, Nat.sub_self, List.drop_zero, List.nil_append]
    rw [ih g _ (by simpa using hf) hr2.2 (by omega) (fun q hq => hm q (List.mem_cons_of_mem _ hq))]
    simp
theorem parse_print {l : List Pr} {t : List UInt8} (h : prPrint l = (t, 0)) (hm : prFits 4611686018427387901 l) : rParse t = (l, 0) := by
  unfold prPrint at h
  split at h
  · cases h
  · next h1 =>
    split at h
    · cases h
    · next h2 =>
      split at h
      · cases h
      · next h3 =>
        injection h with ht _
        subst ht
        unfold rParse
        rw [prTexts_length l hm, if_neg h3, rGo_texts l 256 [] (by omega) (by simpa using h2) (by omega) hm]
        rfl
theorem print_parse {s : List UInt8} {l : List Pr} (h : rParse s = (l, 0)) : prPrint l = (prTexts l, 0) ∧ (prTexts l).length ≤ s.length ∧ prFits s.length l ∧ l.length ≤ 256 := by
  unfold rParse at h
  split at h
  · cases h
  · next h1 =>
    obtain ⟨m, m1, m2, m3, m4, m5⟩ := rGo_spec 256 [] s l h (fun s' e _ hb => by rcases rFirst_bad hb with e | e <;> omega)
    rw [List.nil_append] at m1
    subst m1
    refine ⟨?_, ?_, m5, m2⟩
    · unfold prPrint
      rw [if_neg (by omega), m3, if_neg (by simp), if_neg (by omega)]
    · rw [prTexts_length _ (fun q hq => by have := m5 q hq; omega)]; exact m4
end Go.Proofs.YtjmmecokfijglaaGreatDoor
