/-
  Texts of this seat's proof, joined: their order is that of the build.
-/
import Derived.Test.YtjmmecokfijglaaGreatDoorJB25
import Derived.Test.YtjmmecokfijglaaGreatDoorJB22
namespace Go.Proofs.YtjmmecokfijglaaGreatDoor
open Go.ChangeShapes Go.WideShapes Go.ChangeAt Go.RowKit

def lnN (j : Nat) : Nat := if j < 15 then plN j else 12
def offs : Nat → Nat
  | 15 => 500 | 16 => 512 | n => plS n
def catN (S : Nat → List UInt8) : Nat → List UInt8
  | 0 => []
  | n + 1 => catN S n ++ S n
def upd (S : Nat → List UInt8) (i : Nat) (x : List UInt8) : Nat → List UInt8 := fun j => if j = i then x else S j
/-- All fields have their widths. -/
def Wide (S : Nat → List UInt8) : Prop := ∀ j, j < 16 → (S j).length = lnN j
theorem offs_succ : ∀ n, n < 16 → offs (n + 1) = offs n + lnN n := by decide
theorem offs_mono : ∀ n, n < 17 → ∀ i, i < n → offs i + lnN i ≤ offs n := by decide
theorem offs_pl : ∀ f, f < 15 → offs f = plS f ∧ lnN f = plN f := by decide
theorem catN_length (S : Nat → List UInt8) (hS : Wide S) : ∀ n, n ≤ 16 → (catN S n).length = offs n := by
  intro n
  induction n with
  | zero => intro _; rfl
  | succ n ih =>
    intro hn
    show (catN S n ++ S n).length = _
    rw [List.length_append, ih (by omega), hS n (by omega), offs_succ n (by omega)]
theorem catN_congr (S S' : Nat → List UInt8) : ∀ n, (∀ j, j < n → S j = S' j) → catN S n = catN S' n := by
  intro n
  induction n with
  | zero => intro _; rfl
  | succ n ih =>
    intro h
    show catN S n ++ S n = catN S' n ++ S' n
    rw [ih (fun j hj => h j (by omega)), h n (by omega)]
theorem over_left (A B : List UInt8) (o : Nat) (s : List UInt8) (h : o + s.length ≤ A.length) : over (A ++ B) o s = over A o s ++ B := by
  unfold over
  rw [List.take_append_of_le_length (by omega), List.drop_append_of_le_length h]
  simp
theorem over_at (A B s : List UInt8) : over (A ++ B) A.length s = A ++ (s ++ B.drop s.length) := by
  unfold over
  rw [List.take_left', List.drop_append]
  · simp
  · rfl
theorem over_cat (S : Nat → List UInt8) (hS : Wide S) (i : Nat) (s : List UInt8) (hs : s.length ≤ lnN i) : ∀ n, n ≤ 16 → i < n → over (catN S n) (offs i) s = catN (upd S i (s ++ (S i).drop s.length)) n := by
  intro n
  induction n with
  | zero => intro _ h; omega
  | succ n ih =>
    intro hn hi
    show over (catN S n ++ S n) (offs i) s = catN (upd S i _) n ++ upd S i _ n
    by_cases he : i = n
    · subst he
      have hl := catN_length S hS i (by omega)
      rw [← hl, over_at]
      congr 1
      · exact catN_congr _ _ _ (fun j hj => by unfold upd; rw [if_neg (by omega)])
      · unfold upd; rw [if_pos rfl]
    · have hl := catN_length S hS n (by omega)
      have hm := offs_mono n (by omega) i (by omega)
      rw [over_left _ _ _ _ (by omega), ih (by omega) (by omega)]
      congr 1
      unfold upd; rw [if_neg (by omega)]
theorem fldAt_left (A B : List UInt8) (o n : Nat) (h : o + n ≤ A.length) : fldAt (A ++ B) o n = fldAt A o n := by
  unfold fldAt
  rw [List.drop_append_of_le_length (by omega), List.take_append_of_le_length (by rw [List.length_drop]; omega)]
theorem fldAt_at (A B : List UInt8) : fldAt (A ++ B) A.length B.length = B := by
  unfold fldAt
  rw [List.drop_left', List.take_of_length_le (Nat.le_refl _)]
  rfl
theorem cut_cat (S : Nat → List UInt8) (hS : Wide S) (i : Nat) : ∀ n, n ≤ 16 → i < n → fldAt (catN S n) (offs i) (lnN i) = S i := by
  intro n
  induction n with
  | zero => intro _ h; omega
  | succ n ih =>
    intro hn hi
    show fldAt (catN S n ++ S n) (offs i) (lnN i) = _
    have hl := catN_length S hS n (by omega)
    by_cases he : i = n
    · subst he
      rw [← hl, ← hS i (by omega), fldAt_at]
    · have hm := offs_mono n (by omega) i (by omega)
      rw [fldAt_left _ _ _ _ (by omega), ih (by omega) (by omega)]
theorem fld_cat (S : Nat → List UInt8) (hS : Wide S) (f : Nat) (hf : f < 15) : fld (catN S 16) f = S f := by
  have h := cut_cat S hS f 16 (by omega) (by omega)
  rw [(offs_pl f hf).1, (offs_pl f hf).2] at h
  exact h
theorem wide_upd (S : Nat → List UInt8) (hS : Wide S) (i : Nat) (x : List UInt8) (hx : x.length = lnN i) : Wide (upd S i x) := by
  intro j hj
  unfold upd
  split
  · rename_i h; rw [h]; exact hx
  · exact hS j hj
theorem cat512 (S : Nat → List UInt8) (hS : Wide S) : (catN S 16).length = 512 := catN_length S hS 16 (Nat.le_refl _)
theorem cat_zeros : ∀ n, n ≤ 16 → catN (fun j => List.replicate (lnN j) 0) n = List.replicate (offs n) 0 := by
  intro n
  induction n with
  | zero => intro _; rfl
  | succ n ih =>
    intro hn
    show catN _ n ++ List.replicate (lnN n) 0 = _
    rw [ih (by omega), List.replicate_append_replicate, offs_succ n (by omega)]

/-- Sealing, by fields. -/
theorem seal_over (l : List UInt8) : sealOf l = over l 148 (sealField (bSum false l)) := by
  unfold sealOf over
  rw [sealField_length]
theorem blanked_over (l : List UInt8) : blanked l = over l 148 (List.replicate 8 32) := by
  unfold blanked over
  rw [List.length_replicate]
theorem seal_cat (S : Nat → List UInt8) (hS : Wide S) : sealOf (catN S 16) = catN (upd S 6 (sealField (bSum false (catN S 16)))) 16 := by
  rw [seal_over]
  have h := over_cat S hS 6 (sealField (bSum false (catN S 16))) (by rw [sealField_length]; decide) 16 (by omega) (by omega)
  rw [show (S 6).drop (sealField (bSum false (catN S 16))).length = [] from List.drop_of_length_le (by rw [sealField_length, hS 6 (by omega)]; decide), List.append_nil] at h
  exact h
theorem blanked_cat (S : Nat → List UInt8) (hS : Wide S) : blanked (catN S 16) = catN (upd S 6 (List.replicate 8 32)) 16 := by
  rw [blanked_over]
  have h := over_cat S hS 6 (List.replicate 8 32) (by decide) 16 (by omega) (by omega)
  rw [show (S 6).drop (List.replicate 8 (32 : UInt8)).length = [] from List.drop_of_length_le (by rw [List.length_replicate, hS 6 (by omega)]; decide), List.append_nil] at h
  exact h
theorem upd_upd (S : Nat → List UInt8) (i : Nat) (x y : List UInt8) : upd (upd S i x) i y = upd S i y := by
  funext j; unfold upd; split <;> rfl
theorem seal_six (S : Nat → List UInt8) (hS : Wide S) (x : List UInt8) (hx : x.length = 8) : sealOf (catN (upd S 6 x) 16) = sealOf (catN S 16) := by
  have hw := wide_upd S hS 6 x hx
  have hb : bSum false (catN (upd S 6 x) 16) = bSum false (catN S 16) := by
    unfold bSum
    rw [blanked_cat _ hw, blanked_cat S hS, upd_upd]
  rw [seal_cat _ hw, seal_cat S hS, hb, upd_upd]
theorem fld_seal (S : Nat → List UInt8) (hS : Wide S) (f : Nat) (hf : f < 15) (h6 : f ≠ 6) : fld (sealOf (catN S 16)) f = S f := by
  rw [seal_cat S hS, fld_cat _ (wide_upd S hS 6 _ (by rw [sealField_length]; decide)) f hf]
  unfold upd
  rw [if_neg h6]

/-- The fields of a head's block. -/
def hdS (h : Hd) (p b : List UInt8) : Nat → List UInt8
  | 0 => padF b 100 | 1 => octStr h.mode 8 | 2 => octStr h.uid 8 | 3 => octStr h.gid 8 | 4 => octStr h.size 12 | 5 => octStr h.time 12 | 6 => List.replicate 8 0
  | 7 => [UInt8.ofNat (hdKind h.kind).toNat] | 8 => padF h.link 100 | 9 => hdMark | 10 => padF h.uname 32 | 11 => padF h.gname 32 | 12 => octStr h.major 8 | 13 => octStr h.minor 8 | 14 => padF p 155 | _ => List.replicate 12 0
theorem hdS_wide (h : Hd) (p b : List UInt8) (hp : p.length ≤ 155) (hb : b.length ≤ 100) (hl : h.link.length ≤ 100) (hu : h.uname.length ≤ 32) (hg : h.gname.length ≤ 32) : Wide (hdS h p b) := by
  intro j hj
  have : j = 0 ∨ j = 1 ∨ j = 2 ∨ j = 3 ∨ j = 4 ∨ j = 5 ∨ j = 6 ∨ j = 7 ∨ j = 8 ∨ j = 9 ∨ j = 10 ∨ j = 11 ∨ j = 12 ∨ j = 13 ∨ j = 14 ∨ j = 15 := by omega
  rcases this with rfl | rfl | rfl | rfl | rfl | rfl | rfl | rfl | rfl | rfl | rfl | rfl | rfl | rfl | rfl | rfl
  · exact padF_length _ _ hb
  · exact octStr_length _ _ (by decide)
  · exact octStr_length _ _ (by decide)
  · exact octStr_length _ _ (by decide)
  · exact octStr_length _ _ (by decide)
  · exact octStr_length _ _ (by decide)
  · rfl
  · rfl
  · exact padF_length _ _ hl
  · rfl
  · exact padF_length _ _ hu
  · exact padF_length _ _ hg
  · exact octStr_length _ _ (by decide)
  · exact octStr_length _ _ (by decide)
  · exact padF_length _ _ hp
  · rfl
theorem refRaw_cat (h : Hd) (p b : List UInt8) : refRaw h p b = catN (upd (hdS h p b) 6 [32, 32, 32, 32, 32, 32, 32, 32]) 16 := by
  have : padF [] 12 = List.replicate 12 0 := rfl
  simp [refRaw, catN, upd, hdS, this]
end Go.Proofs.YtjmmecokfijglaaGreatDoor
namespace Go.Proofs.YtjmmecokfijglaaGreatDoor
open Go.ChangeShapes Go.WideShapes Go.ChangeAt Go.RowKit

def zerosS : Nat → List UInt8 := fun j => List.replicate (lnN j) 0
theorem zerosS_wide : Wide zerosS := fun _ _ => List.length_replicate
theorem drop_zeros (n k : Nat) : (List.replicate n (0 : UInt8)).drop k = List.replicate (n - k) 0 := List.drop_replicate
/-- A block of which the fields in D are those of T, and the others NULs. -/
def Laid (T : Nat → List UInt8) (D : List Nat) (L : List UInt8) : Prop := ∃ S, Wide S ∧ L = catN S 16 ∧ ∀ j, j < 16 → S j = if j ∈ D then T j else zerosS j
theorem Laid.start (T : Nat → List UInt8) : Laid T [] (List.replicate 512 0) := ⟨zerosS, zerosS_wide, (cat_zeros 16 (Nat.le_refl _)).symm, fun j _ => by simp⟩
theorem Laid.lay {T : Nat → List UInt8} {D : List Nat} {L : List UInt8} (h : Laid T D L) (i : Nat) (hi : i < 16) (hD : i ∉ D) (s : List UInt8) (hs : s.length ≤ lnN i) (hT : T i = padF s (lnN i)) : Laid T (i :: D) (over L (offs i) s) := by
  obtain ⟨S, hS, rfl, hj⟩ := h
  have hSi : S i = zerosS i := by rw [hj i hi, if_neg hD]
  have hx : s ++ (S i).drop s.length = T i := by rw [hSi, hT]; unfold zerosS padF; rw [drop_zeros]
  refine ⟨upd S i (T i), wide_upd S hS i _ (by rw [hT, padF_length _ _ hs]), ?_, fun j hj16 => ?_⟩
  · rw [over_cat S hS i s hs 16 (Nat.le_refl _) hi, hx]
  · unfold upd
    by_cases he : j = i
    · subst he; simp
    · rw [if_neg he, hj j hj16]; simp [he]
theorem Laid.full {T : Nat → List UInt8} {D : List Nat} {L : List UInt8} (h : Laid T D L) (hD : ∀ j, j < 16 → j ∉ D → T j = zerosS j) : L = catN T 16 := by
  obtain ⟨S, hS, rfl, hj⟩ := h
  refine catN_congr _ _ _ fun j hj16 => ?_
  rw [hj j hj16]
  split
  · rfl
  · exact (hD j hj16 ‹_›).symm
theorem pad_full (s : List UInt8) (n : Nat) (h : s.length = n) : s = padF s n := by unfold padF; rw [h, Nat.sub_self]; simp

theorem hdRaw_cat (h : Hd) (p b : List UInt8) (hp : p.length ≤ 155) (hb : b.length ≤ 100) (hl : h.link.length ≤ 100) (hu : h.uname.length ≤ 32) (hg : h.gname.length ≤ 32) : hdRaw h p b = catN (hdS h p b) 16 := by
  have s0 := Laid.start (hdS h p b)
  have s1 := s0.lay 14 (by decide) (by decide) p hp rfl
  have s2 := s1.lay 0 (by decide) (by decide) b hb rfl
  have s3 := s2.lay 8 (by decide) (by decide) h.link hl rfl
  have s4 := s3.lay 10 (by decide) (by decide) h.uname hu rfl
  have s5 := s4.lay 11 (by decide) (by decide) h.gname hg rfl
  have o8 : ∀ v : Int, (octStr v 8).length = 8 := fun v => octStr_length v 8 (by decide)
  have o12 : ∀ v : Int, (octStr v 12).length = 12 := fun v => octStr_length v 12 (by decide)
  have s6 := s5.lay 1 (by decide) (by decide) (octStr h.mode 8) (Nat.le_of_eq (o8 _)) (pad_full _ 8 (o8 _))
  have s7 := s6.lay 2 (by decide) (by decide) (octStr h.uid 8) (Nat.le_of_eq (o8 _)) (pad_full _ 8 (o8 _))
  have s8 := s7.lay 3 (by decide) (by decide) (octStr h.gid 8) (Nat.le_of_eq (o8 _)) (pad_full _ 8 (o8 _))
  have s9 := s8.lay 4 (by decide) (by decide) (octStr h.size 12) (Nat.le_of_eq (o12 _)) (pad_full _ 12 (o12 _))
  have s10 := s9.lay 5 (by decide) (by decide) (octStr h.time 12) (Nat.le_of_eq (o12 _)) (pad_full _ 12 (o12 _))
  have s11 := s10.lay 12 (by decide) (by decide) (octStr h.major 8) (Nat.le_of_eq (o8 _)) (pad_full _ 8 (o8 _))
  have s12 := s11.lay 13 (by decide) (by decide) (octStr h.minor 8) (Nat.le_of_eq (o8 _)) (pad_full _ 8 (o8 _))
  have s13 := s12.lay 7 (by decide) (by decide) [UInt8.ofNat (hdKind h.kind).toNat] (Nat.le_refl _) rfl
  have s14 := s13.lay 9 (by decide) (by decide) hdMark (Nat.le_refl _) rfl
  refine Laid.full (D := [9, 7, 13, 12, 5, 4, 3, 2, 1, 11, 10, 8, 0, 14]) s14 fun j hj hD => ?_
  have : j = 6 ∨ j = 15 := by
    simp only [List.mem_cons, List.not_mem_nil, or_false, not_or] at hD
    omega
  rcases this with rfl | rfl <;> rfl
theorem seal_same (h : Hd) (p b : List UInt8) (hp : p.length ≤ 155) (hb : b.length ≤ 100) (hl : h.link.length ≤ 100) (hu : h.uname.length ≤ 32) (hg : h.gname.length ≤ 32) : sealOf (refRaw h p b) = sealOf (hdRaw h p b) := by
  rw [hdRaw_cat h p b hp hb hl hu hg, refRaw_cat, seal_six _ (hdS_wide h p b hp hb hl hu hg) _ rfl]

/-- A text in its field is read as it was. -/
theorem read_pad (s : List UInt8) (n : Nat) (h : 0 ∉ s) : txtRead (padF s n) = s := txtRead_write s (n - s.length) h

/-- The fields of a sealed block that Parse reads as this head says, but for the name's first part, the owners and the devices. -/
theorem rv_num (S : Nat → List UInt8) (hS : Wide S) (k : Nat) (hk : k < 7) (v : Int) (hv : octalOf v (plN (numF k)) = some (octStr v (plN (numF k)))) (hf : S (numF k) = octStr v (plN (numF k))) :
    rv (sealOf (catN S 16)) k = (v, 0) := by
  have h6 : numF k ≠ 6 := by rcases lt7 hk with rfl | rfl | rfl | rfl | rfl | rfl | rfl <;> decide
  have hn : 2 ≤ plN (numF k) ∧ plN (numF k) ≤ 12 := by rcases lt7 hk with rfl | rfl | rfl | rfl | rfl | rfl | rfl <;> decide
  unfold rv
  rw [fld_seal S hS _ (numF_lt k hk) h6, hf]
  unfold octalOf at hv
  split at hv
  · rename_i hc
    rw [Int.toNat_natCast] at hc
    have hr := octRead_octStr v _ hn.1 hn.2 hc.2.1 hc.2.2
    unfold hdNum
    rw [hr, if_neg (by intro hx; have := hx.2.1; simp only at this; omega)]
  · cases hv

theorem head2 (l : List UInt8) : hdHead l 2 = ⟨hdName l 2, txtRead (fld l 8), hdKind (l.getD 156 0).toNat, (rv l 0).1, (rv l 1).1, (rv l 2).1, (rv l 3).1, (rv l 4).1, txtRead (fld l 10), txtRead (fld l 11), (rv l 5).1, (rv l 6).1, 2⟩ := rfl
theorem head3 (l : List UInt8) : hdHead l 3 = ⟨txtRead (fld l 0), txtRead (fld l 8), hdKind (l.getD 156 0).toNat, (rv l 0).1, (rv l 1).1, (rv l 2).1, (rv l 3).1, (rv l 4).1, txtRead (fld l 10), txtRead (fld l 11), (rv l 5).1, (rv l 6).1, 3⟩ := rfl
theorem head1 (l : List UInt8) : hdHead l 1 = ⟨txtRead (fld l 0), txtRead (fld l 8), hdKind (l.getD 156 0).toNat, (rv l 0).1, (rv l 1).1, (rv l 2).1, (rv l 3).1, (rv l 4).1, [], [], 0, 0, 1⟩ := rfl
theorem first_all (l : List UInt8) (F : Int) (hF : hdIn F 12 = true ∧ hdIn F 13 = true ∧ hdIn F 1 = true ∧ hdIn F 2 = true ∧ hdIn F 3 = true ∧ hdIn F 4 = true ∧ hdIn F 5 = true) :
    firstE (rE l F) 7 0 = if (rv l 0).2 = 0 then if (rv l 1).2 = 0 then if (rv l 2).2 = 0 then if (rv l 3).2 = 0 then if (rv l 4).2 = 0 then if (rv l 5).2 = 0 then (rv l 6).2 else (rv l 5).2 else (rv l 4).2 else (rv l 3).2 else (rv l 2).2 else (rv l 1).2 else (rv l 0).2 := by
  obtain ⟨h1, h2, h3, h4, h5, h6, h7⟩ := hF
  have e0 : rE l F 0 = (rv l 0).2 := if_pos h3
  have e1 : rE l F 1 = (rv l 1).2 := if_pos h4
  have e2 : rE l F 2 = (rv l 2).2 := if_pos h5
  have e3 : rE l F 3 = (rv l 3).2 := if_pos h6
  have e4 : rE l F 4 = (rv l 4).2 := if_pos h7
  have e5 : rE l F 5 = (rv l 5).2 := if_pos h1
  have e6 : rE l F 6 = (rv l 6).2 := if_pos h2
  simp only [firstE, e0, e1, e2, e3, e4, e5, e6]
  split <;> try rfl
  split <;> try rfl
  split <;> try rfl
  split <;> try rfl
  split <;> try rfl
  split <;> try rfl
  split
  · rename_i h; exact h.symm
  · rfl
theorem first_old (l : List UInt8) :
    firstE (rE l 1) 7 0 = if (rv l 0).2 = 0 then if (rv l 1).2 = 0 then if (rv l 2).2 = 0 then if (rv l 3).2 = 0 then (rv l 4).2 else (rv l 3).2 else (rv l 2).2 else (rv l 1).2 else (rv l 0).2 := by
  have e0 : rE l 1 0 = (rv l 0).2 := rfl
  have e1 : rE l 1 1 = (rv l 1).2 := rfl
  have e2 : rE l 1 2 = (rv l 2).2 := rfl
  have e3 : rE l 1 3 = (rv l 3).2 := rfl
  have e4 : rE l 1 4 = (rv l 4).2 := rfl
  have e5 : rE l 1 5 = 0 := rfl
  have e6 : rE l 1 6 = 0 := rfl
  simp only [firstE, e0, e1, e2, e3, e4, e5, e6, if_true]
  split <;> try rfl
  split <;> try rfl
  split <;> try rfl
  split <;> try rfl
  split
  · rename_i h; exact h.symm
  · rfl
theorem in_posix : hdIn 2 12 = true ∧ hdIn 2 13 = true ∧ hdIn 2 1 = true ∧ hdIn 2 2 = true ∧ hdIn 2 3 = true ∧ hdIn 2 4 = true ∧ hdIn 2 5 = true := by decide
theorem in_gnu : hdIn 3 12 = true ∧ hdIn 3 13 = true ∧ hdIn 3 1 = true ∧ hdIn 3 2 = true ∧ hdIn 3 3 = true ∧ hdIn 3 4 = true ∧ hdIn 3 5 = true := by decide

/-- What Parse says of a built block: the head, with the form Posix. -/
def Hd.posix (h : Hd) : Hd := { h with form := 2, kind := hdKind h.kind }
theorem hdKind_twice (k : Int) : hdKind (hdKind k) = hdKind k := by unfold hdKind; split <;> simp_all
theorem kind_byte (k : Int) (hk : 0 ≤ k ∧ k < 256) : ((UInt8.ofNat (hdKind k).toNat).toNat : Int) = hdKind k := by
  have h : 0 ≤ hdKind k ∧ hdKind k < 256 := by unfold hdKind; split <;> omega
  rw [UInt8.toNat_ofNat']
  have : (hdKind k).toNat % 256 = (hdKind k).toNat := Nat.mod_eq_of_lt (by omega)
  omega
theorem getD_kind (l : List UInt8) (hl : l.length = 512) (x : UInt8) (h : fld l 7 = [x]) : l.getD 156 0 = x := by
  have h1 : fld l 7 = [l.getD 156 0] := by
    show (l.drop 156).take 1 = _
    rw [List.drop_eq_getElem_cons (by omega), List.take_succ_cons, List.take_zero, List.getD_eq_getElem?_getD, List.getElem?_eq_getElem (by omega)]
    rfl
  rw [h1] at h
  simpa using h
theorem name_parts (h : Hd) (p b : List UInt8) (hp : txtPart h.name = some (p, b)) (h0 : 0 ∉ h.name) : (if p = [] then b else p ++ 47 :: b) = h.name ∧ 0 ∉ p ∧ 0 ∉ b := by
  have := (part_join h.name p b hp).1
  refine ⟨this, ?_, ?_⟩
  · intro hx
    apply h0
    rw [← this]
    split
    · rename_i he; rw [he] at hx; cases hx
    · simp [hx]
  · intro hx
    apply h0
    rw [← this]
    split
    · exact hx
    · simp [hx]
theorem parse_built (h : Hd) (hk : 0 ≤ h.kind ∧ h.kind < 256) (hf : hdFits h = 0) (p b : List UInt8) (hp : txtPart h.name = some (p, b)) (hpl : p.length ≤ 155) (hbl : b.length ≤ 100) :
    hdParse (sealOf (hdRaw h p b)) = (h.posix, 0) := by
  have hw := fits_words h hf
  have hn := fits_nums h hf
  obtain ⟨z1, z2, z3, z4⟩ := fits_nul h hf
  obtain ⟨hnm, zp, zb⟩ := name_parts h p b hp z4
  have hS := hdS_wide h p b hpl hbl (hw 0 (by decide)) (hw 1 (by decide)) (hw 2 (by decide))
  rw [hdRaw_cat h p b hpl hbl (hw 0 (by decide)) (hw 1 (by decide)) (hw 2 (by decide))]
  have hlen : (sealOf (catN (hdS h p b) 16)).length = 512 := sealOf_length _ (cat512 _ hS)
  have hr : sRight (sealOf (catN (hdS h p b) 16)) = true := seal_right _ (cat512 _ hS)
  have f : ∀ j, j < 15 → j ≠ 6 → fld (sealOf (catN (hdS h p b) 16)) j = hdS h p b j := fun j hj h6 => fld_seal _ hS j hj h6
  have r : ∀ k, k < 7 → rv (sealOf (catN (hdS h p b) 16)) k = (nv h k, 0) := fun k hk => rv_num _ hS k hk (nv h k) (hn k hk) (by rcases lt7 hk with rfl | rfl | rfl | rfl | rfl | rfl | rfl <;> rfl)
  generalize sealOf (catN (hdS h p b) 16) = l at *
  have hform : hdForm (fld l 9) = 2 := by rw [f 9 (by decide) (by decide)]; rfl
  have hE : firstE (rE l 2) 7 0 = 0 := by
    rw [first_all l 2 in_posix, r 0 (by decide), r 1 (by decide), r 2 (by decide), r 3 (by decide), r 4 (by decide), r 5 (by decide), r 6 (by decide)]
    rfl
  have hkd := getD_kind l hlen _ (f 7 (by decide) (by decide))
  unfold hdParse
  rw [if_pos hlen, if_pos hr, hform, if_neg (by decide), if_pos hE, head2, hkd, kind_byte h.kind hk, hdKind_twice, r 0 (by decide), r 1 (by decide), r 2 (by decide), r 3 (by decide), r 4 (by decide), r 5 (by decide), r 6 (by decide)]
  have hN : hdName l 2 = h.name := by
    have hpre : hdPre l 2 = p := by
      show txtRead (fld l 14) = p
      rw [f 14 (by decide) (by decide)]; exact read_pad p 155 zp
    have hbase : txtRead (fld l 0) = b := by rw [f 0 (by decide) (by decide)]; exact read_pad b 100 zb
    unfold hdName
    rw [hpre, hbase, hnm]
  rw [hN, f 8 (by decide) (by decide), f 10 (by decide) (by decide), f 11 (by decide) (by decide)]
  show (Hd.mk h.name (txtRead (padF h.link 100)) (hdKind h.kind) h.mode h.uid h.gid h.size h.time (txtRead (padF h.uname 32)) (txtRead (padF h.gname 32)) h.major h.minor 2, (0 : Int)) = _
  rw [read_pad _ _ z1, read_pad _ _ z2, read_pad _ _ z3]
  rfl
end Go.Proofs.YtjmmecokfijglaaGreatDoor
