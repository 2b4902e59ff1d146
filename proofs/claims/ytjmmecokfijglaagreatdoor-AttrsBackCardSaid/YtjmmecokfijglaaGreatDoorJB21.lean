/-
  Texts of this seat's proof, joined: their order is that of the build.
-/
import Derived.Test.YtjmmecokfijglaaGreatDoorJB05
import Derived.Test.YtjmmecokfijglaaGreatDoorJB20
import Derived.BigRegion
import Derived.Test.YtjmmecokfijglaaGreatDoorJB03
import Derived.Test.YtjmmecokfijglaaGreatDoorJB06
import Derived.StillTailTactics
import Derived.Laws.CopyRow
namespace Go.Proofs.YtjmmecokfijglaaGreatDoor
open Go.ChangeShapes Go.WideShapes Go.ChangeAt Go.RowKit

theorem kindOf_any (k : Int) (w : World) :
    Calls Tryz.prog 43 #[.int .u8 k] w fun e w' => w = w' ∧ e = .returned (.int .u8 (if k = 0 then 48 else k)) := by
  by_cases h : k = 0
  · subst h
    go_enter Tryz.func43, Tryz.ntmps43
    go_wp2
    go_ret
    exact ⟨rfl, rfl⟩
  · rw [if_neg h]
    have e1 : (k == 0) = false := by simpa using h
    clear h
    go_enter Tryz.func43, Tryz.ntmps43
    go_wp2
    go_ret
    exact ⟨rfl, rfl⟩

/-- Do blocks of that form have the field? -/
def hdIn (form f : Int) : Bool := if f = 10 ∨ f = 11 ∨ f = 12 ∨ f = 13 then decide (form ≠ 1) else if f = 14 then decide (form = 2) else true
theorem isIn_any (form f : Int) (w : World) :
    Calls Tryz.prog 97 #[.int .i64 form, .int .i64 f] w fun e w' => w = w' ∧ e = .returned (.bool (hdIn form f)) := by
  unfold hdIn
  go_enter Tryz.func97, Tryz.ntmps97
  go_wp2
  all_goals go_ret
  all_goals refine ⟨rfl, ?_⟩
  all_goals (repeat (first | rw [if_pos (by omega)] | rw [if_neg (by omega)]))
  all_goals first | rfl | simp_all
  all_goals rfl

/-- A mark's form. -/
def hdForm (m : List UInt8) : Int := if m = [117, 115, 116, 97, 114, 0, 48, 48] then 2 else if m = [117, 115, 116, 97, 114, 32, 32, 0] then 3 else if txtBlank m then 1 else 0
theorem formOf_any (m : List UInt8) (w : World) :
    Calls Tryz.prog 46 #[.string ⟨m.toArray⟩] w fun e w' => w = w' ∧ e = .returned (.int .i64 (hdForm m)) := by
  have Hb := Lib.hid (tBlank_any m w)
  by_cases h1 : m = [117, 115, 116, 97, 114, 0, 48, 48]
  · have Hq := Lib.hid (show hdForm m = 2 by unfold hdForm; rw [if_pos h1])
    have e1 : (m == [117, 115, 116, 97, 114, 0, 48, 48]) = true := by rw [h1]; rfl
    clear h1
    go_enter Tryz.func46, Tryz.ntmps46
    go_wp2
    go_ret
    rw [Hq.out]
    exact ⟨rfl, rfl⟩
  · have e1 : (m == [117, 115, 116, 97, 114, 0, 48, 48]) = false := by simpa using h1
    by_cases h2 : m = [117, 115, 116, 97, 114, 32, 32, 0]
    · have Hq := Lib.hid (show hdForm m = 3 by unfold hdForm; rw [if_neg h1, if_pos h2])
      have e2 : (m == [117, 115, 116, 97, 114, 32, 32, 0]) = true := by rw [h2]; rfl
      clear h1 h2
      go_enter Tryz.func46, Tryz.ntmps46
      go_wp2
      go_ret
      rw [Hq.out]
      exact ⟨rfl, rfl⟩
    · have e2 : (m == [117, 115, 116, 97, 114, 32, 32, 0]) = false := by simpa using h2
      have Hq := Lib.hid (show hdForm m = if txtBlank m then 1 else 0 by unfold hdForm; rw [if_neg h1, if_neg h2])
      clear h1 h2
      cases hb : txtBlank m
      all_goals
        rw [hb] at Hb Hq
        clear hb
        go_enter Tryz.func46, Tryz.ntmps46
        go_wp2_with fail
        refine Hb.out.mono ?_
        rintro e w' ⟨rfl, rfl⟩
        go_wp2
        go_ret
        rw [Hq.out]
        exact ⟨rfl, rfl⟩

/-- What the document's number says of a field's bytes. -/
def hdNum (below : Bool) (s : List UInt8) : Int × Int := if (octRead s).2 = 0 ∧ (octRead s).1 < 0 ∧ below = false then (0, 6) else octRead s
theorem refNumber_any (l : List UInt8) (s n : Nat) (below : Bool) (w : World) (hl : l.length = 512) (hs : s + n ≤ 512) :
    Calls Tryz.prog 121 #[.string ⟨l.toArray⟩, .int .i64 s, .int .i64 n, .bool below] w fun e w' => w = w' ∧ e = .returned (.tuple #[.int .i64 (hdNum below (fldAt l s n)).1, .int .i64 (hdNum below (fldAt l s n)).2]) := by
  have Hr := Lib.hid (refRead_any (fldAt l s n) w (by rw [fldAt_length l s n (by omega)]; unfold maxLen; omega))
  have hsl : ∀ W : World, (Instr.slice 9 (.string ⟨l.toArray⟩) (some (.int .i64 s)) (some (.int .i64 ((s : Int) + n))) none).run Tryz.prog W = .ok (.string ⟨(fldAt l s n).toArray⟩) W := by
    intro W
    rw [run_slice_string W _ _ _ _ _ _ Tryz.underlying9 (by omega) (by omega) (by simp [ByteArray.size]; omega)]
    have he := str_extract l s (s + n)
    rw [Nat.add_sub_cancel_left] at he
    rw [show ((s : Int)).toNat = s by omega, show ((s : Int) + n).toNat = s + n by omega]
    exact congrArg (fun s => Result.ok (Value.string s) W) he
  have Hq := Lib.hid (show hdNum below (fldAt l s n) = if (octRead (fldAt l s n)).2 = 0 ∧ (octRead (fldAt l s n)).1 < 0 ∧ below = false then (0, 6) else octRead (fldAt l s n) from rfl)
  generalize hdNum below (fldAt l s n) = R at *
  generalize octRead (fldAt l s n) = v at *
  generalize fldAt l s n = x at *
  obtain ⟨v, e0⟩ := v
  simp only at Hr Hq
  by_cases h1 : e0 = 0
  · subst h1
    by_cases h2 : v < 0
    · cases below
      all_goals
        go_enter Tryz.func121, Tryz.ntmps121
        go_wp2_with fail
        refine Hr.out.mono ?_
        rintro e w' ⟨rfl, rfl⟩
        go_wp2
        go_ret2
        rw [Hq.out]
        refine ⟨rfl, ?_⟩
        simp [show v < 0 by omega]
    · go_enter Tryz.func121, Tryz.ntmps121
      go_wp2_with fail
      refine Hr.out.mono ?_
      rintro e w' ⟨rfl, rfl⟩
      go_wp2
      go_ret2
      rw [Hq.out]
      refine ⟨rfl, ?_⟩
      simp [show ¬ v < 0 by omega]
  · have e1 : (e0 == 0) = false := by simpa using h1
    go_enter Tryz.func121, Tryz.ntmps121
    go_wp2_with fail
    refine Hr.out.mono ?_
    rintro e w' ⟨rfl, rfl⟩
    go_wp2
    go_ret2
    rw [Hq.out]
    refine ⟨rfl, ?_⟩
    simp [h1]

theorem refWithin_any (v m : Int) (w : World) :
    Calls Tryz.prog 105 #[.int .i64 v, .int .i64 m] w fun e w' => w = w' ∧ e = .returned (.bool (decide (0 ≤ v ∧ v < m))) := by
  by_cases h1 : 0 ≤ v
  · go_enter Tryz.func105, Tryz.ntmps105
    go_wp2
    go_ret
    exact ⟨rfl, by simp [h1]⟩
  · go_enter Tryz.func105, Tryz.ntmps105
    go_wp2
    go_ret
    exact ⟨rfl, by simp; omega⟩

theorem refField_any (s : List UInt8) (n : Nat) (w : World) (hn : n ≤ 512) (hs : s.length ≤ n) (h0 : 0 ∉ s) :
    Calls Tryz.prog 106 #[.string ⟨s.toArray⟩, .int .i64 n] w fun e w' => w = w' ∧ e = .returned (.string ⟨(s ++ List.replicate (n - s.length) 0).toArray⟩) := by
  have Hw := Lib.hid (refTWrite_ok s n w hn hs h0)
  clear h0
  generalize s ++ List.replicate (n - s.length) 0 = r at *
  go_enter Tryz.func106, Tryz.ntmps106
  go_wp2_with fail
  refine Hw.out.mono ?_
  rintro e w' ⟨rfl, rfl⟩
  go_wp2
  go_ret
  exact ⟨rfl, rfl⟩

theorem refOctF_any (v : Int) (n : Nat) (w : World) (hn : n = 8 ∨ n = 12) (h : octalOf v n = some (octStr v n)) :
    Calls Tryz.prog 107 #[.int .i64 v, .int .i64 n] w fun e w' => w = w' ∧ e = .returned (.string ⟨(octStr v n).toArray⟩) := by
  have Hw := Lib.hid (refOctal_all v n w (by omega))
  rw [h] at Hw
  change Hid (Calls Tryz.prog 154 #[.int .i64 v, .int .i64 n] w fun e w' => w = w' ∧ e = .returned (.tuple #[.string ⟨(octStr v n).toArray⟩, .bool true])) at Hw
  generalize octStr v n = r at *
  clear h
  go_enter Tryz.func107, Tryz.ntmps107
  go_wp2_with fail
  refine Hw.out.mono ?_
  rintro e w' ⟨rfl, rfl⟩
  go_wp2
  go_ret
  exact ⟨rfl, rfl⟩
end Go.Proofs.YtjmmecokfijglaaGreatDoor
namespace Go.Proofs.YtjmmecokfijglaaGreatDoor
open Go.ChangeShapes Go.WideShapes Go.ChangeAt Go.RowKit

/-- A text laid over bytes, from place o on. -/
def over (L : List UInt8) (o : Nat) (s : List UInt8) : List UInt8 := L.take o ++ (s ++ L.drop (o + s.length))
theorem over_length (L : List UInt8) (o : Nat) (s : List UInt8) (h : o + s.length ≤ L.length) : (over L o s).length = L.length := by simp [over]; omega

def wl (h : Hd) (L : List UInt8) : Nat → List UInt8
  | 0 => L
  | k + 1 => over (wl h L k) (plS (wordF k)) (wt h k)
def nl (h : Hd) (L : List UInt8) : Nat → List UInt8
  | 0 => L
  | k + 1 => over (nl h L k) (plS (numF k)) (octStr (nv h k) (plN (numF k)))
theorem octStr_length (v : Int) (n : Nat) (h : 1 ≤ n) : (octStr v n).length = n := by simp [octStr]; omega
theorem wordF_lt (k : Nat) (h : k < 3) : wordF k < 15 := by rcases lt3 h with rfl | rfl | rfl <;> decide
theorem numF_lt (k : Nat) (h : k < 7) : numF k < 15 := by rcases lt7 h with rfl | rfl | rfl | rfl | rfl | rfl | rfl <;> decide
theorem wl_length (h : Hd) (L : List UInt8) (hL : L.length = 512) (hw : ∀ k, k < 3 → (wt h k).length ≤ plN (wordF k)) : ∀ k, k ≤ 3 → (wl h L k).length = 512 := by
  intro k
  induction k with
  | zero => intro _; exact hL
  | succ k ih =>
    intro hk
    have := pl_bd (wordF k) (wordF_lt k (by omega))
    have := hw k (by omega)
    have ih := ih (by omega)
    show (over _ _ _).length = 512
    rw [over_length _ _ _ (by omega), ih]
theorem nl_length (h : Hd) (L : List UInt8) (hL : L.length = 512) : ∀ k, k ≤ 7 → (nl h L k).length = 512 := by
  intro k
  induction k with
  | zero => intro _; exact hL
  | succ k ih =>
    intro hk
    have := pl_bd (numF k) (numF_lt k (by omega))
    have ih := ih (by omega)
    show (over _ _ _).length = 512
    rw [over_length _ _ _ (by rw [octStr_length _ _ (by omega)]; omega), ih]

def hdKind (k : Int) : Int := if k = 0 then 48 else k
def hdMark : List UInt8 := [117, 115, 116, 97, 114, 0, 48, 48]
def hdRaw (h : Hd) (p b : List UInt8) : List UInt8 :=
  over (over (nl h (wl h (over (over (List.replicate 512 0) 345 p) 0 b) 3) 7) 156 [UInt8.ofNat (hdKind h.kind).toNat]) 257 hdMark

/-- What fits, in parts. -/
theorem fits_parts (h : Hd) (hf : hdFits h = 0) : hdNul h = false ∧ hdTexts h = true ∧ hdNums h = true := by
  unfold hdFits at hf
  cases h1 : hdNul h <;> cases h2 : hdTexts h <;> cases h3 : hdNums h <;> simp_all
theorem fits_words (h : Hd) (hf : hdFits h = 0) : ∀ k, k < 3 → (wt h k).length ≤ plN (wordF k) := by
  intro k hk
  rcases Nat.lt_or_ge (plN (wordF k)) (wt h k).length with hl | hl
  · have := hdTexts_word h k hk hl
    rw [(fits_parts h hf).2.1] at this
    cases this
  · exact hl
theorem fits_nums (h : Hd) (hf : hdFits h = 0) : ∀ k, k < 7 → octalOf (nv h k) (plN (numF k)) = some (octStr (nv h k) (plN (numF k))) := by
  intro k hk
  cases hq : (octalOf (nv h k) (plN (numF k))).isSome
  · have := hdNums_no h k hk hq
    rw [(fits_parts h hf).2.2] at this
    cases this
  · unfold octalOf at hq ⊢
    split
    · rw [Int.toNat_natCast]
    · rename_i hn
      rw [if_neg hn] at hq
      cases hq
theorem fits_part (h : Hd) (hf : hdFits h = 0) : ∃ p b, txtPart h.name = some (p, b) ∧ p.length ≤ 155 ∧ b.length ≤ 100 := by
  have h2 := (fits_parts h hf).2.1
  unfold hdTexts at h2
  have h3 := (of_decide_eq_true h2).2.2.2
  cases hq : txtPart h.name with
  | none => rw [hq] at h3; cases h3
  | some x =>
    obtain ⟨p, b⟩ := x
    have := part_join h.name p b hq
    exact ⟨p, b, rfl, this.2.1, this.2.2⟩
theorem fits_nul (h : Hd) (hf : hdFits h = 0) : 0 ∉ h.link ∧ 0 ∉ h.uname ∧ 0 ∉ h.gname ∧ 0 ∉ h.name := by
  have h1 := (fits_parts h hf).1
  unfold hdNul at h1
  have := of_decide_eq_false h1
  simpa using this
end Go.Proofs.YtjmmecokfijglaaGreatDoor
namespace Go.Proofs.YtjmmecokfijglaaGreatDoor
open Go.ChangeShapes Go.WideShapes Go.ChangeAt Go.RowKit

/-- 'copy(dst, s)', s a text that fits, dst in a block of bytes that is known whole. -/
theorem run_copy_over {P : Program} (dT sT ty e : TypeId) (hu : P.underlying dT = some (.slice e)) (hs : (P.info? e).map (·.size) = some 1)
    {w : World} {g : Nat} {t : TypeId} {L : List UInt8} (h : Holds w g t (byteCells L)) (o n cap : Nat) (s : List UInt8) (hfit : o + s.length ≤ L.length) (hn : s.length ≤ n) :
    (Builtin.copy_ #[dT, sT] ty #[.slice (some ⟨g, o, none⟩) n cap, .string ⟨s.toArray⟩]).run P w = .ok (goInt ((s.length : Nat) : Int)) (w.setRow g (byteCells (over L o s)).toArray) := by
  have hone : ∀ v ∈ byteCells s, v.oneCell' = true := by
    intro v hv
    simp only [byteCells, List.mem_map] at hv
    obtain ⟨b, _, rfl⟩ := hv
    rfl
  have hst := run_storeCells_at (P := P) g o t (byteCells s) 0 (byteCells L).toArray w h (by simp [byteCells_length]; omega) hone
  have htk : List.take s.length (List.map (fun b : UInt8 => Value.int IntKind.u8 (b.toNat : Int)) s) = byteCells s := by
    unfold byteCells
    rw [List.take_of_length_le (by simp)]
  have hrow : (byteCells (over L o s)).toArray = ((byteCells L).toArray.toList.take (o + 0) ++ byteCells s ++ (byteCells L).toArray.toList.drop (o + 0 + (byteCells s).length)).toArray := by
    rw [byteCells_length]
    simp [over, byteCells, List.map_take, List.map_drop]
  rw [hrow]
  cases hq : P.info? e with
  | none => simp [hq] at hs
  | some i =>
    have hmin : s.length.min n = s.length := Nat.min_eq_left hn
    simp [Builtin.copy_, run_underlying hu, Builtin.lenOf, Builtin.firstCells, sizeOf, typeInfo, hq, ByteArray.size]
    rw [hmin, htk, hst]
    simp [Result.andThen]

theorem grown_setRow {g : Nat} {w w1 : World} (hb : Below w.heap.size w w1) (cs : Array Value) : w.grownBy (w1.setRow g cs) (some g) :=
  ⟨hb.os, hb.tape, hb.output, by have := hb.size; simpa using this, fun k hk hne => (setRow_other w1 g k cs (by intro e; exact hne (by rw [e]))).trans (hb.block k hk)⟩

theorem place_start (s n : Int) (W : World) : (Instr.field 114 (.agg #[.int .i64 s, .int .i64 n]) 0).run Tryz.prog W = .ok (.int .i64 s) W := by kernel_rfl

set_option maxRecDepth 100000 in
theorem put_any (g : Nat) (L : List UInt8) (f : Nat) (s : List UInt8) (w : World) (hL : L.length = 512) (hg : Holds w g 5 (byteCells L)) (hf : f < 15) (hs : s.length ≤ plN f) :
    Calls Tryz.prog 38 #[.slice (some ⟨g, 0, none⟩) 512 512, .int .i64 f, .string ⟨s.toArray⟩] w fun e w' => w.grownBy w' (some g) ∧ Holds w' g 5 (byteCells (over L (plS f) s)) ∧ e = .returned (.tuple #[]) := by
  have hb := pl_bd f hf
  have Hp := Lib.hid (placeOf_any f w hf)
  have Hcp := Lib.hid (fun (w1 : World) (h : Holds w1 g 5 (byteCells L)) => run_copy_over (P := Tryz.prog) 55 9 3 5 Tryz.underlying55 (by kernel_rfl) h (plS f) (512 - plS f) (512 - plS f) s (by omega) (by omega))
  have Hg := Lib.hid hg
  have hlt := hg.lt
  clear hg hL
  generalize over L (plS f) s = M at *
  generalize plS f = o at *
  generalize plN f = n at *
  obtain ⟨b1, b2, b3⟩ := hb
  go_enter Tryz.func38, Tryz.ntmps38
  go_wp2_with fail
  refine Hp.out.mono ?_
  rintro e w1 ⟨hb1, rfl⟩
  have Hb1 := Lib.hid hb1
  have hg1 := Hg.out.under hb1 hlt
  have Hcp1 := Lib.hid (Hcp.out w1 hg1)
  have Hg1 := Lib.hid hg1
  clear hb1 hg1
  have hcp := Hcp1.out
  have hfld := place_start o n
  have hsl : (512 - (o : Int)).toNat = 512 - o := by omega
  go_wp2
  go_end0
  refine ⟨grown_setRow Hb1.out _, setRow_heap _ _ _ _ _ _ Hg1.out, ?_⟩
  rfl

/-- A step that changes no old block but one that is new since w0. -/
theorem below_grown {B g : Nat} {w0 w1 w2 : World} (hb : Below B w0 w1) (hg : w1.grownBy w2 (some g)) (h : B ≤ g) (hz : B ≤ w1.heap.size) : Below B w0 w2 :=
  hb.trans ⟨hg.os, hg.tape, hg.output, hg.size, fun k hk => hg.block k (by omega) (by intro e; cases e; omega)⟩

set_option maxRecDepth 100000 in
theorem build_no (h : Hd) (w : World) (hok : h.okN) (hl : h.name.length ≤ 9223372036854775807) (hf : hdFits h ≠ 0) :
    Calls Tryz.prog 19 #[h.val] w fun e w' => Below w.heap.size w w' ∧ e = .returned (.tuple #[.string ⟨([] : List UInt8).toArray⟩, .int .i64 (hdFits h)]) := by
  have H1 := Lib.hid (fun w => fits_any h w hok hl)
  have Hs := Lib.hid (head_size h)
  have Ho := Lib.hid (Holds.new w 30 h.cells)
  have e1 : (hdFits h == 0) = false := by simpa using hf
  clear hok hl hf
  unfold Hd.val at *
  generalize hdFits h = R at *
  generalize h.cells = C at *
  go_enter Tryz.func19, Tryz.ntmps19
  go_wp2_with (first
    | (refine wpList_load_row (by rfl) 30 _ (by rfl) w.heap.size (by rfl) _ _ _ _ Ho.out Tryz.underlying30 rfl Hs.out ?_)
    | fail)
  refine (H1.out _).mono ?_
  rintro e w1 ⟨hb1, rfl⟩
  have Hb1 := Lib.hid (((Below.refl w.heap.size w).alloc (Nat.le_refl _) _).trans (hb1.mono (by simp)))
  clear hb1 Ho
  go_wp2
  go_ret2
  exact ⟨Hb1.out, rfl⟩

/-- What holds of the world while a block is built: the head's box, the bytes, the old blocks. -/
def Built (W : World) (C : List Value) (g : Nat) (L : List UInt8) (w : World) : Prop :=
  Holds w W.heap.size 30 C ∧ Holds w g 5 (byteCells L) ∧ Below W.heap.size W w ∧ W.heap.size < g
theorem Built.put {W : World} {C : List Value} {g : Nat} {L M : List UInt8} {w w' : World} (b : Built W C g L w) (hg : w.grownBy w' (some g)) (hh : Holds w' g 5 (byteCells M)) : Built W C g M w' :=
  ⟨b.1.grown hg (by have := b.2.2.2; intro e; cases e; omega), hh, below_grown b.2.2.1 hg (by have := b.2.2.2; omega) b.2.2.1.size, b.2.2.2⟩
theorem Built.step {W : World} {C : List Value} {g : Nat} {L : List UInt8} {w w' : World} (b : Built W C g L w) (hb : Below w.heap.size w w') : Built W C g L w' :=
  ⟨b.1.under hb b.1.lt, b.2.1.under hb b.2.1.lt, b.2.2.1.trans (hb.mono b.2.2.1.size), b.2.2.2⟩

/-- What a region keeps that ends in a call which turns block g alone: three cells that it loads. -/
def KeepG (g : Nat) (p q r : Addr) (u v x : Value) (w : World) : Prop :=
  (w.cell? p = some u ∧ w.cell? q = some v ∧ w.cell? r = some x) ∧ p.block ≠ g ∧ q.block ≠ g ∧ r.block ≠ g
theorem KeepG.step {g : Nat} {p q r : Addr} {u v x : Value} {w w' : World} (k : KeepG g p q r u v x w) (hb : w.grownBy w' (some g)) : KeepG g p q r u v x w' := by
  obtain ⟨⟨k2, k3, k4⟩, k5, k6, k7⟩ := k
  exact ⟨⟨hb.cell k2 (by intro e; exact k5 (by injection e)), hb.cell k3 (by intro e; exact k6 (by injection e)), hb.cell k4 (by intro e; exact k7 (by injection e))⟩, k5, k6, k7⟩
theorem KeepG.drew {g : Nat} {p q r : Addr} {u v x : Value} {w : World} (k : KeepG g p q r u v x w) : KeepG g p q r u v x w.drew := k
theorem KeepG.all {g : Nat} {p q r : Addr} {u v x : Value} {w : World} (k : KeepG g p q r u v x w) : KeepG g p q r u v x w ∧ w.cell? p = some u ∧ w.cell? q = some v ∧ w.cell? r = some x := ⟨k, k.1⟩
theorem KeepG.start {g : Nat} {wr : World} {t : TypeId} {u v x : Value} {hb i : Nat} (hlt : hb < wr.heap.size) (hg : g < wr.heap.size) (hne : hb < g) (c : wr.cell? ⟨hb, i, none⟩ = some x) :
    KeepG g ⟨wr.heap.size, 0, none⟩ ⟨wr.heap.size, 1, none⟩ ⟨hb, i, none⟩ u v x (wr.alloc (.cells #[u, v] t)) :=
  ⟨(Keep3.start hlt c).2.1, by show wr.heap.size ≠ g; omega, by show wr.heap.size ≠ g; omega, by show hb ≠ g; omega⟩

set_option maxRecDepth 100000 in
set_option maxHeartbeats 600000 in
theorem build_yes (h : Hd) (w : World) (hkd : 0 ≤ h.kind ∧ h.kind < 256) (hok : h.okN) (hl : h.name.length ≤ 9223372036854775807) (hf : hdFits h = 0) (p b : List UInt8) (hp : txtPart h.name = some (p, b)) (hpl : p.length ≤ 155) (hbl : b.length ≤ 100) :
    Calls Tryz.prog 19 #[h.val] w fun e w' => Below w.heap.size w w' ∧ e = .returned (.tuple #[.string ⟨(sealOf (hdRaw h p b)).toArray⟩, .int .i64 0]) := by
  have H1 := Lib.hid (fun w => fits_any h w hok hl)
  have Hs := Lib.hid (head_size h)
  have Ho := Lib.hid (Holds.new w 30 h.cells)
  have Hp := Lib.hid (fun w => tPart_any h.name w hl)
  have Hcn := Lib.hid (cells_name h)
  rw [hf] at H1
  rw [hp] at Hp
  obtain ⟨L0, hL0⟩ : ∃ L : List UInt8, L = List.replicate 512 0 := ⟨_, rfl⟩
  have h512 : L0.length = 512 := by rw [hL0, List.length_replicate]
  have hmk : ∀ w : World, (Instr.makeSlice 55 (.int .i64 512) (.int .i64 512)).run Tryz.prog w = .ok (.slice (some ⟨w.heap.size, 0, none⟩) 512 512) (w.alloc (.cells (byteCells L0).toArray 5)) := by
    rw [hL0]
    exact run_make_bytes (P := Tryz.prog) 55 5 Tryz.underlying55 info_u8 512 (by omega)
  have hL2 : (over (over L0 345 p) 0 b).length = 512 := by
    rw [over_length, over_length, h512]
    · omega
    · rw [over_length _ _ _ (by omega)]; omega
  have hraw : sealOf (hdRaw h p b) = sealOf (over (over (nl h (wl h (over (over L0 345 p) 0 b) 3) 7) 156 [UInt8.ofNat (hdKind h.kind).toNat]) 257 hdMark) := by rw [hL0]; rfl
  have hpw : ∀ (k : Nat), k < 3 → ∀ (g : Nat) (w1 : World), Holds w1 g 5 (byteCells (wl h (over (over L0 345 p) 0 b) k)) → Calls Tryz.prog 38 #[.slice (some ⟨g, 0, none⟩) 512 512, .int .i64 (wordF k), .string ⟨(wt h k).toArray⟩] w1 fun e w' => w1.grownBy w' (some g) ∧ Holds w' g 5 (byteCells (wl h (over (over L0 345 p) 0 b) (k + 1))) ∧ e = .returned (.tuple #[]) :=
    fun k hk g w1 hh => put_any g _ (wordF k) (wt h k) w1 (wl_length h _ hL2 (fits_words h hf) k (by omega)) hh (wordF_lt k hk) (fits_words h hf k hk)
  have h3 := wl_length h _ hL2 (fits_words h hf) 3 (by omega)
  have hw0 : wl h (over (over L0 345 p) 0 b) 0 = over (over L0 345 p) 0 b := rfl
  generalize wl h (over (over L0 345 p) 0 b) = W1 at *
  have hpn : ∀ (k : Nat), k < 7 → ∀ (g : Nat) (w1 : World), Holds w1 g 5 (byteCells (nl h (W1 3) k)) → Calls Tryz.prog 38 #[.slice (some ⟨g, 0, none⟩) 512 512, .int .i64 (numF k), .string ⟨(octStr (nv h k) (plN (numF k))).toArray⟩] w1 fun e w' => w1.grownBy w' (some g) ∧ Holds w' g 5 (byteCells (nl h (W1 3) (k + 1))) ∧ e = .returned (.tuple #[]) :=
    fun k hk g w1 hh => put_any g _ (numF k) (octStr (nv h k) (plN (numF k))) w1 (nl_length h _ h3 k (by omega)) hh (numF_lt k hk) (by rw [octStr_length _ _ (by have := pl_bd (numF k) (numF_lt k hk); omega)]; exact Nat.le_refl _)
  have h7 := nl_length h _ h3 7 (by omega)
  have hn0 : nl h (W1 3) 0 = W1 3 := rfl
  have hoc : ∀ (k : Nat), k < 7 → ∀ w1 : World, Calls Tryz.prog 41 #[.int .i64 (nv h k), .int .i64 (plN (numF k))] w1 fun e w' => Below w1.heap.size w1 w' ∧ e = .returned (.tuple #[.string ⟨(octStr (nv h k) (plN (numF k))).toArray⟩, .bool true]) := by
    intro k hk w1
    have := octal_all (nv h k) (plN (numF k)) w1 (hok k hk) (by have := pl_bd (numF k) (numF_lt k hk); omega)
    rw [fits_nums h hf k hk] at this
    exact this
  generalize nl h (W1 3) = W2 at *
  have Hcw := Lib.hid (fun k hk => cells_word h k hk)
  have Hcm := Lib.hid (fun k hk => cells_num h k hk)
  have Hkb := Lib.hid (show 0 ≤ hdKind h.kind ∧ hdKind h.kind < 256 by unfold hdKind; split <;> omega)
  clear hkd
  have Hck := Lib.hid (show h.cells[2]? = some (.int .u8 h.kind) from rfl)
  have Hkd := Lib.hid (fun w => kindOf_any h.kind w)
  change Hid (∀ w, Calls Tryz.prog 43 #[.int .u8 h.kind] w fun e w' => w = w' ∧ e = .returned (.int .u8 (hdKind h.kind))) at Hkd
  generalize sealOf (hdRaw h p b) = R at *
  have Hraw := Lib.hid hraw
  clear hraw
  have Hpw := Lib.hid hpw
  clear hpw
  have Hpn := Lib.hid hpn
  clear hpn
  have Hoc := Lib.hid hoc
  clear hoc
  have H3 := Lib.hid h3
  have H7 := Lib.hid h7
  have Hw0 := Lib.hid hw0
  have Hn0 := Lib.hid hn0
  clear h3 h7 hw0 hn0 hL2 hf
  generalize nv h = N at *
  generalize wt h = T at *
  generalize h.kind = K at *
  generalize hdKind K = K2 at *
  generalize h.name = nm at *
  clear hL0
  unfold Hd.val at *
  generalize h.cells = C at *
  clear hok hl hp
  go_enter Tryz.func19, Tryz.ntmps19
  go_wp2_with (first
    | (refine wpList_load_row (by rfl) 30 _ (by rfl) w.heap.size (by rfl) _ _ _ _ Ho.out Tryz.underlying30 rfl Hs.out ?_)
    | fail)
  refine (H1.out _).mono ?_
  rintro e w1 ⟨hb1, rfl⟩
  have Hb1 := Lib.hid (((Below.refl w.heap.size w).alloc (Nat.le_refl _) _).trans (hb1.mono (by simp)))
  have Ho1 := Lib.hid (Ho.out.under hb1 Ho.out.lt)
  have hz1 : w.heap.size < w1.heap.size := Ho1.out.lt
  clear hb1 Ho
  have Hst := Lib.hid (show Built w C w1.heap.size L0 (w1.alloc (.cells (byteCells L0).toArray 5)) from ⟨Ho1.out.behind _, Holds.new _ _ _, Hb1.out.alloc Hb1.out.size _, hz1⟩)
  have c0 : (w1.alloc (.cells (byteCells L0).toArray 5)).cell? ⟨w.heap.size, 0, none⟩ = some (.string ⟨nm.toArray⟩) := Hst.out.1.at Hcn.out
  clear Ho1 Hb1
  go_wp2_with fail
  refine (Hp.out _).mono ?_
  rintro e w2 ⟨hb2, rfl⟩
  have Hst2 := Lib.hid (Hst.out.step hb2)
  clear hb2 Hst c0
  generalize w1.heap.size = g at *
  unfold part3
  go_wp2_with fail
  refine (put_any g L0 14 p _ h512 Hst2.out.2.1 (by decide) hpl).mono ?_
  rintro e w3 ⟨hg3, hh3, rfl⟩
  have Hst3 := Lib.hid (Hst2.out.put hg3 hh3)
  clear hg3 hh3 Hst2
  have h1 : (over L0 (plS 14) p).length = 512 := by rw [over_length _ _ _ (by have : plS 14 = 345 := rfl; omega), h512]
  go_wp2_with fail
  refine (put_any g (over L0 (plS 14) p) 0 b _ h1 Hst3.out.2.1 (by decide) hbl).mono ?_
  rintro e w4 ⟨hg4, hh4, rfl⟩
  have Hst4 := Lib.hid (Hst3.out.put hg4 hh4)
  have h2 : (over (over L0 (plS 14) p) (plS 0) b).length = 512 := by rw [over_length _ _ _ (by have : plS 0 = 0 := rfl; omega), h1]
  clear hg4 hh4 Hst3 h1 h512 Hp Hcn H1 Hs hmk hpl hbl h2
  change Hid (Built w C g (over (over L0 345 p) 0 b) w4) at Hst4
  rw [← Hw0.out] at Hst4
  clear Hw0
  go_wp2_with fail
  refine (words_any w.heap.size _).mono ?_
  rintro e w5 ⟨hb5, hr5, rfl⟩
  have Hst5 := Lib.hid (Hst4.out.step hb5)
  have hgr : g < w4.heap.size := Hst4.out.2.1.lt
  have Hr5 := Lib.hid hr5
  clear hb5 hr5 Hst4
  generalize w4.heap.size = r at *
  go_wp2_with fail
  go_loopw [36] (fun i wr => ∃ k : Nat, k ≤ 3 ∧ i = .int .i64 k ∧ Built w C g (W1 k) wr ∧ Holds wr r 105 (wordCells w.heap.size)) (fun i _ => 3 - (intOf i).toNat)
  case atStart => exact ⟨0, by omega, rfl, Hst5.out, Hr5.out⟩
  case round =>
    clear Hst5 Hr5
    obtain ⟨k, hk, rfl, hst, hr⟩ := hrel
    have Hst := Lib.hid hst
    have Hr := Lib.hid hr
    have hrl : r < wr.heap.size := hr.lt
    have hgl : g < wr.heap.size := by omega
    have hbl0 : w.heap.size < wr.heap.size := by omega
    clear hst hr
    by_cases hlt : k < 3
    · have c1 := Hr.out.at (word_row w.heap.size k hlt).1
      have c2 := Hr.out.at (word_row w.heap.size k hlt).2
      have c3 := Hst.out.1.at (Hcw.out k hlt)
      have Hpu := Lib.hid (fun w1 => Hpw.out k hlt g w1)
      generalize hM : W1 (k + 1) = M at *
      have HM := Lib.hid hM
      clear hM
      generalize W1 k = L at *
      generalize T k = x at *
      generalize wordF k = f at *
      generalize wordI k = i at *
      go_wp2_with fail
      have Ka := Lib.hid (KeepG.start (t := 105) (u := .int .i64 f) (v := .pointer (some ⟨w.heap.size, i, none⟩)) hbl0 hgl Hst.out.2.2.2 c3)
      have Hsta := Lib.hid (Hst.out.step ((Below.refl _ _).alloc (Nat.le_refl _) (.cells #[.int .i64 f, .pointer (some ⟨w.heap.size, i, none⟩)] 105)))
      have Hra := Lib.hid (Hr.out.behind (.cells #[.int .i64 f, .pointer (some ⟨w.heap.size, i, none⟩)] 105))
      generalize wr.alloc (.cells #[.int .i64 f, .pointer (some ⟨w.heap.size, i, none⟩)] 105) = wa at *
      have hk := Ka.out
      clear c1 c2 c3 Ka Hst Hr
      go_region_held3 (fun w' => KeepG g ⟨wr.heap.size, 0, none⟩ ⟨wr.heap.size, 1, none⟩ ⟨w.heap.size, i, none⟩ (.int .i64 f) (.pointer (some ⟨w.heap.size, i, none⟩)) (.string ⟨x.toArray⟩) w' ∧ w'.cell? ⟨wr.heap.size, 0, none⟩ = some (.int .i64 f) ∧ w'.cell? ⟨wr.heap.size, 1, none⟩ = some (.pointer (some ⟨w.heap.size, i, none⟩)) ∧ w'.cell? ⟨w.heap.size, i, none⟩ = some (.string ⟨x.toArray⟩))
        (first | assumption | exact KeepG.all (KeepG.drew hk) | exact KeepG.all (KeepG.step (KeepG.drew hk) hgA))
        ((go_at_call 38; refine (Hpu.out _ (Holds.drew Hsta.out.2.1)).mono ?_; rintro e wA ⟨hgA, hhA, rfl⟩))
      have hgB : wa.grownBy wA (some g) := ⟨hgA.os, hgA.tape, hgA.output, hgA.size, hgA.block⟩
      have Hst2 := Lib.hid (Built.put (w := wa) Hsta.out hgB hhA)
      rw [← HM.out] at Hst2
      go_wp2
      go_roundw
      case rel => exact ⟨k + 1, by omega, by go_num, Hst2.out, Hra.out.grown hgB (by intro e; injection e with e; omega)⟩
      case measure => simp [intOf]; omega
    · obtain rfl : k = 3 := by omega
      clear Hr hrl hgr hlt Hpw
      have Hst := Lib.hid (show Built w C g (W2 0) wr by rw [Hn0.out]; exact Hst.out)
      clear Hn0 H3
      go_wp2_with fail
      refine (numbers_any w.heap.size _).mono ?_
      rintro e w6 ⟨hb6, hr6, rfl⟩
      have Hst6 := Lib.hid (Hst.out.step hb6)
      have hgr : g < wr.heap.size := hgl
      have Hr6 := Lib.hid hr6
      clear hb6 hr6 Hst hgl hbl0
      generalize wr.heap.size = q at *
      clear hk
      go_wp2_with fail
      go_loopw [51] (fun i wr => ∃ k : Nat, k ≤ 7 ∧ i = .int .i64 k ∧ Built w C g (W2 k) wr ∧ Holds wr q 110 (numCells w.heap.size)) (fun i _ => 7 - (intOf i).toNat)
      case atStart => exact ⟨0, by omega, rfl, Hst6.out, Hr6.out⟩
      case round =>
        clear Hst6 Hr6
        obtain ⟨k, hk, rfl, hst, hr⟩ := hrel
        have Hst := Lib.hid hst
        have Hr := Lib.hid hr
        have hrl : q < wr.heap.size := hr.lt
        have hgl : g < wr.heap.size := by omega
        have hbl0 : w.heap.size < wr.heap.size := by omega
        clear hst hr
        by_cases hlt : k < 7
        · have c1 := Hr.out.at (num_row w.heap.size k hlt).1
          have c2 := Hr.out.at (num_row w.heap.size k hlt).2
          have c3 := Hst.out.1.at (Hcm.out k hlt)
          have Hpu := Lib.hid (fun w1 => Hpn.out k hlt g w1)
          have Hpl := Lib.hid (fun w => placeOf_any (numF k) w (numF_lt k hlt))
          have Ho := Lib.hid (Hoc.out k hlt)
          clear Hcm Hcw Hpn Hoc Hck
          generalize hM : W2 (k + 1) = M at *
          have HM := Lib.hid hM
          clear hM
          generalize W2 k = L at *
          generalize octStr (N k) (plN (numF k)) = y at *
          generalize plN (numF k) = n at *
          generalize plS (numF k) = s at *
          generalize N k = x at *
          generalize numF k = f at *
          generalize numI k = i at *
          go_wp2_with fail
          have Ka := Lib.hid (Keep3.start (t := 110) (u := .int .i64 f) (v := .pointer (some ⟨w.heap.size, i, none⟩)) hbl0 c3)
          have Hsta := Lib.hid (Hst.out.step ((Below.refl _ _).alloc (Nat.le_refl _) (.cells #[.int .i64 f, .pointer (some ⟨w.heap.size, i, none⟩)] 110)))
          have Hra := Lib.hid (Hr.out.behind (.cells #[.int .i64 f, .pointer (some ⟨w.heap.size, i, none⟩)] 110))
          generalize wr.alloc (.cells #[.int .i64 f, .pointer (some ⟨w.heap.size, i, none⟩)] 110) = wa at *
          have hk := Ka.out
          have hfld := place_size s n
          clear c1 c2 c3 Ka Hst Hr
          go_region_held3 (fun w' => Keep3 wa ⟨wr.heap.size, 0, none⟩ ⟨wr.heap.size, 1, none⟩ ⟨w.heap.size, i, none⟩ (.int .i64 f) (.pointer (some ⟨w.heap.size, i, none⟩)) (.int .i64 x) w' ∧ w'.cell? ⟨wr.heap.size, 0, none⟩ = some (.int .i64 f) ∧ w'.cell? ⟨wr.heap.size, 1, none⟩ = some (.pointer (some ⟨w.heap.size, i, none⟩)) ∧ w'.cell? ⟨w.heap.size, i, none⟩ = some (.int .i64 x))
            (first | assumption | exact Keep3.all (Keep3.drew hk) | exact Keep3.all (Keep3.step (Keep3.drew hk) hbA) | exact Keep3.all (Keep3.step (And.left (by assumption)) hbA))
            (first
              | (go_at_call 42; refine (Hpl.out _).mono ?_; rintro e wA ⟨hbA, rfl⟩)
              | (go_at_call 41; refine (Ho.out _).mono ?_; rintro e wA ⟨hbA, rfl⟩))
          clear hfld
          have hS : Keep3 wa ⟨wr.heap.size, 0, none⟩ ⟨wr.heap.size, 1, none⟩ ⟨w.heap.size, i, none⟩ (.int .i64 f) (.pointer (some ⟨w.heap.size, i, none⟩)) (.int .i64 x) wA := by first | assumption | exact And.left (by assumption)
          have HstA := Lib.hid (Hsta.out.step hS.1)
          have HrA := Lib.hid (Hra.out.under hS.1 Hra.out.lt)
          have cA := hS.2.1.1
          clear hS hk Hsta Hra
          go_wp2_with fail
          refine (Hpu.out _ HstA.out.2.1).mono ?_
          rintro e wB ⟨hgB, hhB, rfl⟩
          have HstB := Lib.hid (HstA.out.put hgB hhB)
          rw [← HM.out] at HstB
          have HrB := Lib.hid (HrA.out.grown hgB (by intro e; injection e with e; omega))
          clear hgB hhB cA HstA HrA
          go_wp2
          go_roundw
          case rel => exact ⟨k + 1, by omega, by go_num, HstB.out, HrB.out⟩
          case measure => simp [intOf]; omega
        · obtain rfl : k = 7 := by omega
          clear Hr hrl hgr hlt Hpn Hoc Hcm Hcw hk
          have c2 := Hst.out.1.at Hck.out
          have h7 := H7.out
          generalize W2 7 = L at *
          go_wp2_with fail
          refine (Hkd.out _).mono ?_
          rintro e w' ⟨rfl, rfl⟩
          have hconv := run_byte_string (P := Tryz.prog) 55 5 9 Tryz.underlying55 Tryz.underlying5 Tryz.underlying9 K2 Hkb.out.1 Hkb.out.2 wr
          have Hst1 := Lib.hid (Hst.out.step ((Below.refl _ _).alloc (Nat.le_refl _) (.cells #[.int .u8 K2] 5)))
          have e1 : (over L (plS 7) [UInt8.ofNat K2.toNat]).length = 512 := by rw [over_length _ _ _ (by have : plS 7 = 156 := rfl; rw [List.length_singleton]; omega), h7]
          have e2 : (over (over L (plS 7) [UInt8.ofNat K2.toNat]) (plS 9) hdMark).length = 512 := by rw [over_length _ _ _ (by have : plS 9 = 257 := rfl; have : hdMark.length = 8 := rfl; omega), e1]
          have Hq := Lib.hid (show R = sealOf (over (over L (plS 7) [UInt8.ofNat K2.toNat]) (plS 9) hdMark) from Hraw.out)
          clear Hraw Hst c2
          go_wp2_with fail
          refine (put_any g L 7 [UInt8.ofNat K2.toNat] _ h7 Hst1.out.2.1 (by decide) (Nat.le_refl 1)).mono ?_
          rintro e w7 ⟨hg7, hh7, rfl⟩
          have Hst7 := Lib.hid (Hst1.out.put hg7 hh7)
          clear hg7 hh7 Hst1 hconv h7 H7
          go_wp2_with fail
          refine (put_any g (over L (plS 7) [UInt8.ofNat K2.toNat]) 9 hdMark _ e1 Hst7.out.2.1 (by decide) (by decide)).mono ?_
          rintro e w8 ⟨hg8, hh8, rfl⟩
          have Hst8 := Lib.hid (Hst7.out.put hg8 hh8)
          clear hg8 hh8 Hst7 e1
          generalize over (over L (plS 7) [UInt8.ofNat K2.toNat]) (plS 9) hdMark = B at *
          have hconv := run_bytes_string (P := Tryz.prog) 55 5 9 Tryz.underlying55 Tryz.underlying5 Tryz.underlying9 Hst8.out.2.1 512 e2.symm 512
          have Hse := Lib.hid (fun w => sSeal_any B w e2)
          rw [← Hq.out] at Hse
          clear e2 Hq
          go_wp2_with fail
          refine (Hse.out _).mono ?_
          rintro e w9 ⟨hb9, rfl⟩
          have Hb9 := Lib.hid (Hst8.out.2.2.1.trans (hb9.mono Hst8.out.2.2.1.size))
          clear hb9 hconv
          go_wp2
          go_ret2
          exact ⟨Hb9.out, rfl⟩
end Go.Proofs.YtjmmecokfijglaaGreatDoor
