/-
  Texts of this seat's proof, joined: their order is that of the build.
-/
import Derived.Test.YtjmmecokfijglaaGreatDoorJB21
namespace Go.Proofs.YtjmmecokfijglaaGreatDoor
open Go.ChangeShapes Go.WideShapes Go.ChangeAt Go.RowKit

def Hd.setN (h : Hd) (k : Nat) (v : Int) : Hd :=
  match k with
  | 0 => { h with mode := v } | 1 => { h with uid := v } | 2 => { h with gid := v } | 3 => { h with size := v } | 4 => { h with time := v } | 5 => { h with major := v } | _ => { h with minor := v }
theorem setN_cells (h : Hd) (k : Nat) (v : Int) (hk : k < 7) : (h.setN k v).cells = h.cells.set (numI k) (.int .i64 v) := by
  rcases lt7 hk with rfl | rfl | rfl | rfl | rfl | rfl | rfl <;> rfl
theorem setN_form (h : Hd) (k : Nat) (v : Int) : (h.setN k v).form = h.form := by
  unfold Hd.setN; split <;> rfl
/-- A number's field as it is read, and its error. -/
def rv (l : List UInt8) (k : Nat) : Int × Int := hdNum (decide (k = 4)) (fld l (numF k))
/-- The error of number k in a block of that form; the head behind k numbers. -/
def rE (l : List UInt8) (form : Int) (k : Nat) : Int := if hdIn form (numF k) then (rv l k).2 else 0
def rH (l : List UInt8) (h : Hd) : Nat → Hd
  | 0 => h
  | k + 1 => if hdIn h.form (numF k) then (rH l h k).setN k (rv l k).1 else rH l h k
theorem rH_form (l : List UInt8) (h : Hd) : ∀ k, (rH l h k).form = h.form := by
  intro k
  induction k with
  | zero => rfl
  | succ k ih =>
    unfold rH
    split
    · rw [setN_form, ih]
    · exact ih
/-- The first error among those of number k and of n - 1 behind it. -/
def firstE (e : Nat → Int) : Nat → Nat → Int
  | 0, _ => 0
  | n + 1, k => if e k = 0 then firstE e n (k + 1) else e k
theorem firstE_step (e : Nat → Int) (k : Nat) (hk : k < 7) : firstE e (7 - k) k = if e k = 0 then firstE e (7 - (k + 1)) (k + 1) else e k := by
  rw [show 7 - k = (7 - (k + 1)) + 1 by omega]
  rfl

def Hd.setW (h : Hd) (k : Nat) (s : List UInt8) : Hd :=
  match k with
  | 0 => { h with link := s } | 1 => { h with uname := s } | _ => { h with gname := s }
theorem setW_cells (h : Hd) (k : Nat) (s : List UInt8) (hk : k < 3) : (h.setW k s).cells = h.cells.set (wordI k) (.string ⟨s.toArray⟩) := by
  rcases lt3 hk with rfl | rfl | rfl <;> rfl
theorem setW_form (h : Hd) (k : Nat) (s : List UInt8) : (h.setW k s).form = h.form := by
  unfold Hd.setW; split <;> rfl
/-- The head behind k words. -/
def rW (l : List UInt8) (h : Hd) : Nat → Hd
  | 0 => h
  | k + 1 => if hdIn h.form (wordF k) then (rW l h k).setW k (txtRead (fld l (wordF k))) else rW l h k
theorem rW_form (l : List UInt8) (h : Hd) : ∀ k, (rW l h k).form = h.form := by
  intro k
  induction k with
  | zero => rfl
  | succ k ih =>
    unfold rW
    split
    · rw [setW_form, ih]
    · exact ih
/-- A head of that form with nothing in it. -/
def Hd.ofForm (F : Int) : Hd := { Hd.zero with form := F }
def hdPre (l : List UInt8) (F : Int) : List UInt8 := if hdIn F 14 then txtRead (fld l 14) else []
def hdName (l : List UInt8) (F : Int) : List UInt8 := if hdPre l F = [] then txtRead (fld l 0) else hdPre l F ++ 47 :: txtRead (fld l 0)
def Hd.named (h : Hd) (s : List UInt8) : Hd := { h with name := s }
/-- A right block's head, if its numbers have no error. -/
def hdHead (l : List UInt8) (F : Int) : Hd := { rW l ((rH l (Hd.ofForm F) 7).named (hdName l F)) 3 with kind := hdKind (l.getD 156 0).toNat }
/-- What Parse answers. -/
def hdParse (l : List UInt8) : Hd × Int :=
  if l.length = 512 then
    if sRight l = true then
      if hdForm (fld l 9) = 0 then (Hd.zero, 2)
      else if firstE (rE l (hdForm (fld l 9))) 7 0 = 0 then (hdHead l (hdForm (fld l 9)), 0) else (Hd.zero, firstE (rE l (hdForm (fld l 9))) 7 0)
    else (Hd.zero, 4)
  else (Hd.zero, 1)
end Go.Proofs.YtjmmecokfijglaaGreatDoor
namespace Go.Proofs.YtjmmecokfijglaaGreatDoor
open Go.ChangeShapes Go.WideShapes Go.ChangeAt Go.RowKit

theorem grown_transH {a b c : World} {row : Option Nat} (h : a.grownBy b row) (k : b.grownBy c row) : a.grownBy c row :=
  ⟨k.os.trans h.os, k.tape.trans h.tape, k.output.trans h.output, Nat.le_trans h.size k.size, fun j hj hne => (k.block j (Nat.lt_of_lt_of_le hj h.size) hne).trans (h.block j hj hne)⟩
/-- What holds while a head in block g is read: old blocks but g as they were, the head's cells. -/
def Rd (W : World) (g : Nat) (C : List Value) (w : World) : Prop := W.grownBy w (some g) ∧ Holds w g 30 C ∧ g < W.heap.size
theorem Rd.step {W : World} {g : Nat} {C : List Value} {w w' : World} (r : Rd W g C w) (hb : Below w.heap.size w w') : Rd W g C w' :=
  ⟨grown_transH r.1 ⟨hb.os, hb.tape, hb.output, hb.size, fun k hk _ => hb.block k hk⟩, r.2.1.under hb r.2.1.lt, r.2.2⟩
theorem Rd.put {W : World} {g : Nat} {C : List Value} {w : World} (r : Rd W g C w) (i : Nat) (v : Value) : Rd W g (C.set i v) (w.setCell ⟨g, i, none⟩ v) :=
  ⟨grown_transH r.1 ⟨rfl, rfl, rfl, by simp, fun k _ hne => Below.heap_setCell w ⟨g, i, none⟩ v k (fun e => hne (by rw [e]))⟩, r.2.1.put i v, r.2.2⟩

theorem quiet_eq {P : Program} {f : FuncId} {args : Array Value} {w : World} {n : Nat} {v : Value} (h : Calls P f args (w.drewN n) fun e w' => w.drewN n = w' ∧ e = .returned v) :
    Calls P f args (w.drewN n) fun e w'' => e = .returned v ∧ ∃ m, w'' = w.drewN m :=
  h.mono fun _ _ ⟨hm, he⟩ => ⟨he, n, hm.symm⟩

set_option maxRecDepth 100000 in
set_option maxHeartbeats 1000000 in
theorem readNumbers_walk (l : List UInt8) (g : Nat) (w : World) (F : Int) (C : Nat → List Value) (B : Nat → Bool) (fl : Nat → List UInt8) (val err old E : Nat → Int)
    (h0 : Hid (Holds w g 30 (C 0)))
    (HF : Hid (∀ k, k < 7 → (C k)[12]? = some (.int .i64 F)))
    (Hold : Hid (∀ k, k < 7 → (C k)[numI k]? = some (.int .i64 (old k))))
    (Hin : Hid (∀ k, k < 7 → ∀ w : World, Calls Tryz.prog 97 #[.int .i64 F, .int .i64 (numF k)] w fun e w' => w = w' ∧ e = .returned (.bool (B k))))
    (Hcut : Hid (∀ k, k < 7 → ∀ w : World, Calls Tryz.prog 47 #[.string ⟨l.toArray⟩, .int .i64 (numF k)] w fun e w' => Below w.heap.size w w' ∧ e = .returned (.string ⟨(fl k).toArray⟩)))
    (Hrd : Hid (∀ k, k < 7 → ∀ w : World, Calls Tryz.prog 98 #[.string ⟨(fl k).toArray⟩] w fun e w' => e = .returned (.tuple #[.int .i64 (val k), .int .i64 (err k)]) ∧ w = w'))
    (Hno : Hid (∀ k, k < 7 → B k = false → C (k + 1) = C k ∧ E (k + 1) = E k))
    (Hbad : Hid (∀ k, k < 7 → B k = true → err k ≠ 0 → E k = err k))
    (Hneg : Hid (∀ k, k < 7 → B k = true → err k = 0 → val k < 0 → k ≠ 4 → E k = 6))
    (Hyes : Hid (∀ k, k < 7 → B k = true → err k = 0 → ¬ (val k < 0 ∧ k ≠ 4) → C (k + 1) = (C k).set (numI k) (.int .i64 (val k)) ∧ E (k + 1) = E k))
    (Hend : Hid (E 7 = 0)) :
    Calls Tryz.prog 48 #[.pointer (some ⟨g, 0, none⟩), .string ⟨l.toArray⟩] w fun e w' =>
      ∃ C', Rd w g C' w' ∧ e = .returned (.int .i64 (E 0)) ∧ (E 0 = 0 → C' = C 7) := by
  have hlt := h0.out.lt
  go_enter Tryz.func48, Tryz.ntmps48
  go_wp2_with fail
  refine (numbers_any g _).mono ?_
  rintro e w1 ⟨hb1, hd1, rfl⟩
  have Hs := Lib.hid (show Rd w g (C 0) w1 from Rd.step (w := w) ⟨World.grownBy.refl _ _, h0.out, hlt⟩ hb1)
  have Hr := Lib.hid hd1
  have hgr : g < w.heap.size := hlt
  clear hb1 hd1
  go_wp2_with fail
  generalize w.heap.size = r at *
  go_loopw [12] (fun i wr => ∃ k : Nat, k ≤ 7 ∧ i = .int .i64 k ∧ Rd w g (C k) wr ∧ Holds wr r 110 (numCells g) ∧ E k = E 0) (fun i _ => 7 - (intOf i).toNat)
  case atStart => exact ⟨0, by omega, rfl, Hs.out, Hr.out, rfl⟩
  case round =>
    clear Hs Hr
    obtain ⟨k, hk, rfl, hs, hr, he⟩ := hrel
    have Hs := Lib.hid hs
    have Hr := Lib.hid hr
    have He := Lib.hid he
    have hrl : r < wr.heap.size := hr.lt
    have hgl : g < wr.heap.size := by omega
    clear hs hr he
    by_cases hlt : k < 7
    · have c1 := Hr.out.at (num_row g k hlt).1
      have c2 := Hr.out.at (num_row g k hlt).2
      have c3 := Hs.out.2.1.at (HF.out k hlt)
      have Hin := Lib.hid (Hin.out k hlt)
      have Hcut := Lib.hid (Hcut.out k hlt)
      have Hrd := Lib.hid (Hrd.out k hlt)
      have Hno := Lib.hid (Hno.out k hlt)
      have Hbad := Lib.hid (Hbad.out k hlt)
      have Hneg := Lib.hid (Hneg.out k hlt)
      have Hyes := Lib.hid (Hyes.out k hlt)
      have Hold := Lib.hid (Hold.out k hlt)
      cases hB : B k
      · rw [hB] at Hin
        obtain ⟨q1, q2⟩ := Hno.out hB
        have Q1 := Lib.hid q1
        have Q2 := Lib.hid q2
        clear hB q1 q2 Hcut Hrd Hno Hbad Hneg Hyes Hold
        generalize numF k = f at *
        generalize numI k = i at *
        go_wp2_with fail
        have Ka := Lib.hid (Keep3.start (t := 110) (u := .int .i64 f) (v := .pointer (some ⟨g, i, none⟩)) hgl c3)
        have Hsa := Lib.hid (Hs.out.step ((Below.refl _ _).alloc (Nat.le_refl _) (.cells #[.int .i64 f, .pointer (some ⟨g, i, none⟩)] 110)))
        have Hra := Lib.hid (Hr.out.behind (.cells #[.int .i64 f, .pointer (some ⟨g, i, none⟩)] 110))
        have hz0 : wr.heap.size < (wr.alloc (.cells #[.int .i64 f, .pointer (some ⟨g, i, none⟩)] 110)).heap.size := by simp
        generalize wr.alloc (.cells #[.int .i64 f, .pointer (some ⟨g, i, none⟩)] 110) = wa at *
        obtain ⟨d1, d2, d3⟩ := Ka.out.2.1
        clear c1 c2 c3 Ka Hs Hr
        go_quiet ((go_at_call 97; exact quiet_eq (Hin.out _)))
        have Hsb := Lib.hid (show Rd w g (C k) (wa.drewN nq) from Rd.step Hsa.out ⟨rfl, rfl, rfl, Nat.le_refl _, fun _ _ => rfl⟩)
        have Hrb := Lib.hid (show Holds (wa.drewN nq) r 110 (numCells g) from Hra.out)
        have b1 : (wa.drewN nq).cell? ⟨wr.heap.size, 0, none⟩ = some (.int .i64 f) := d1
        have b2 : (wa.drewN nq).cell? ⟨wr.heap.size, 1, none⟩ = some (.pointer (some ⟨g, i, none⟩)) := d2
        have hzb : wr.heap.size < (wa.drewN nq).heap.size := hz0
        clear d1 d2 d3 Hsa Hra hz0
        generalize wa.drewN nq = wb at *
        go_wp2
        go_roundw
        case rel => exact ⟨k + 1, by omega, by go_num, by rw [Q1.out]; exact Hsb.out, Hrb.out, by rw [Q2.out]; exact He.out⟩
        case measure => simp [intOf]; omega
      · rw [hB] at Hin
        have Hn5 := Lib.hid (show ((numF k : Nat) : Int) ≠ 5 ↔ k ≠ 4 by rcases lt7 hlt with rfl | rfl | rfl | rfl | rfl | rfl | rfl <;> simp [numF])
        have Hbad := Lib.hid (Hbad.out hB)
        have Hneg := Lib.hid (Hneg.out hB)
        have Hyes := Lib.hid (Hyes.out hB)
        clear hB Hno
        generalize numF k = f at *
        generalize numI k = i at *
        go_wp2_with fail
        have Ka := Lib.hid (Keep3.start (t := 110) (u := .int .i64 f) (v := .pointer (some ⟨g, i, none⟩)) hgl c3)
        have Hsa := Lib.hid (Hs.out.step ((Below.refl _ _).alloc (Nat.le_refl _) (.cells #[.int .i64 f, .pointer (some ⟨g, i, none⟩)] 110)))
        have Hra := Lib.hid (Hr.out.behind (.cells #[.int .i64 f, .pointer (some ⟨g, i, none⟩)] 110))
        have hz0 : wr.heap.size < (wr.alloc (.cells #[.int .i64 f, .pointer (some ⟨g, i, none⟩)] 110)).heap.size := by simp
        generalize wr.alloc (.cells #[.int .i64 f, .pointer (some ⟨g, i, none⟩)] 110) = wa at *
        obtain ⟨d1, d2, d3⟩ := Ka.out.2.1
        clear c1 c2 c3 Ka Hs Hr
        go_quiet ((go_at_call 97; exact quiet_eq (Hin.out _)))
        have Hsb := Lib.hid (show Rd w g (C k) (wa.drewN nq) from Rd.step Hsa.out ⟨rfl, rfl, rfl, Nat.le_refl _, fun _ _ => rfl⟩)
        have Hrb := Lib.hid (show Holds (wa.drewN nq) r 110 (numCells g) from Hra.out)
        have b1 : (wa.drewN nq).cell? ⟨wr.heap.size, 0, none⟩ = some (.int .i64 f) := d1
        have b2 : (wa.drewN nq).cell? ⟨wr.heap.size, 1, none⟩ = some (.pointer (some ⟨g, i, none⟩)) := d2
        have hzb : wr.heap.size < (wa.drewN nq).heap.size := hz0
        clear d1 d2 d3 Hsa Hra hz0
        generalize wa.drewN nq = wb at *
        go_wp2_with fail
        refine (Hcut.out _).mono ?_
        rintro e wc ⟨hbc, rfl⟩
        have Hsc := Lib.hid (Hsb.out.step hbc)
        have Hrc := Lib.hid (Hrb.out.under hbc Hrb.out.lt)
        have b1 : wc.cell? ⟨wr.heap.size, 0, none⟩ = some (.int .i64 f) := by rw [hbc.cell (p := ⟨wr.heap.size, 0, none⟩) hzb]; exact b1
        have b2 : wc.cell? ⟨wr.heap.size, 1, none⟩ = some (.pointer (some ⟨g, i, none⟩)) := by rw [hbc.cell (p := ⟨wr.heap.size, 1, none⟩) hzb]; exact b2
        have hzc : wr.heap.size < wc.heap.size := Nat.lt_of_lt_of_le hzb hbc.size
        clear hbc Hsb Hrb hzb
        generalize fl k = x at *
        generalize hv : val k = v at *
        generalize he : err k = er at *
        clear hv he
        go_wp2_with fail
        refine (Hrd.out _).mono ?_
        rintro e w' ⟨rfl, rfl⟩
        by_cases h1 : er = 0
        · have co : wc.cell? ⟨g, i, none⟩ = some (.int .i64 (old k)) := Hsc.out.2.1.at Hold.out
          have cf : wc.frozen? ⟨g, i, none⟩ = false := Hsc.out.2.1.frozen i
          have hgc : g < wc.heap.size := Hsc.out.2.1.lt
          by_cases h2 : v < 0
          · by_cases h3 : k = 4
            · obtain ⟨q1, q2⟩ := Hyes.out h1 (by omega)
              have Q1 := Lib.hid q1
              have Q2 := Lib.hid q2
              have e3 : (((f : Nat) : Int) == 5) = true := by
                by_cases hf : ((f : Nat) : Int) = 5
                · rw [hf]; rfl
                · exact absurd h3 (Hn5.out.1 hf)
              subst h1
              clear q1 q2 h3 Hbad Hneg Hyes Hn5
              go_wp2
              have hp := Rd.put Hsc.out i (.int .i64 v)
              have hr := Hrc.out.other (p := ⟨g, i, none⟩) (by show r ≠ g; omega) (.int .i64 v)
              rw [← Q1.out] at hp
              go_roundw
              case rel => exact ⟨k + 1, by omega, by go_num, hp, hr, by rw [Q2.out]; exact He.out⟩
              case measure => simp [intOf]; omega
            · have Hq := Lib.hid (show E 0 = 6 by rw [← He.out]; exact Hneg.out h1 h2 h3)
              have e3 : (((f : Nat) : Int) == 5) = false := by
                rw [beq_eq_false_iff_ne]; exact Hn5.out.2 h3
              subst h1
              clear h3 Hbad Hneg Hyes Hn5
              go_wp2
              go_ret
              exact ⟨C k, Hsc.out, by rw [Hq.out]; rfl, fun h => absurd (Hq.out.symm.trans h) (by decide)⟩
          · obtain ⟨q1, q2⟩ := Hyes.out h1 (by omega)
            have Q1 := Lib.hid q1
            have Q2 := Lib.hid q2
            subst h1
            clear q1 q2 Hbad Hneg Hyes Hn5
            go_wp2
            have hp := Rd.put Hsc.out i (.int .i64 v)
            have hr := Hrc.out.other (p := ⟨g, i, none⟩) (by show r ≠ g; omega) (.int .i64 v)
            rw [← Q1.out] at hp
            go_roundw
            case rel => exact ⟨k + 1, by omega, by go_num, hp, hr, by rw [Q2.out]; exact He.out⟩
            case measure => simp [intOf]; omega
        · have Hq := Lib.hid (show E 0 = er by rw [← He.out]; exact Hbad.out h1)
          have Hne := Lib.hid h1
          have e1 : (er == 0) = false := by simpa using h1
          clear h1
          go_wp2
          go_ret
          exact ⟨C k, Hsc.out, by rw [Hq.out]; rfl, fun h => absurd (Hq.out.symm.trans h) Hne.out⟩
    · obtain rfl : k = 7 := by omega
      have Hq := Lib.hid (show E 0 = 0 by rw [← He.out]; exact Hend.out)
      go_wp2
      go_ret
      exact ⟨C 7, Hs.out, by rw [Hq.out]; rfl, fun _ => rfl⟩
end Go.Proofs.YtjmmecokfijglaaGreatDoor
namespace Go.Proofs.YtjmmecokfijglaaGreatDoor
open Go.ChangeShapes Go.WideShapes Go.ChangeAt Go.RowKit

theorem MaxSet.grown {w w' : World} {g : Nat} (h : MaxSet w) (hg : w.grownBy w' (some g)) (hne : 0 ≠ g) : MaxSet w' := by
  obtain ⟨m, hm⟩ := h
  exact ⟨m, hg.cell hm (by intro e; injection e with e; exact hne e)⟩
theorem cell_ltT {w : World} {p : Addr} {v : Value} (h : w.cell? p = some v) : p.block < w.heap.size := by
  rcases Nat.lt_or_ge p.block w.heap.size with hl | hl
  · exact hl
  · exfalso
    unfold World.cell? at h
    rw [Array.getElem?_eq_none hl] at h
    cases h
/-- What a cell holds. -/
def cellV (w : World) (p : Addr) : Value := (w.cell? p).getD undef
/-- What a region keeps that ends in a store into cell i of block g: three cells in other blocks; block g is as it was, or stored. -/
def KeepS (g i : Nat) (D : List Value) (v : Value) (p q r : Addr) (u1 u2 u3 : Value) (a w : World) : Prop :=
  a.grownBy w (some g) ∧ (Holds w g 30 D ∨ Holds w g 30 (D.set i v)) ∧ (w.cell? p = some u1 ∧ w.cell? q = some u2 ∧ w.cell? r = some u3) ∧ (p.block ≠ g ∧ q.block ≠ g ∧ r.block ≠ g) ∧ i < D.length
section
variable {g i : Nat} {D : List Value} {v : Value} {p q r : Addr} {u1 u2 u3 : Value} {a w w' : World}
theorem KeepS.step (k : KeepS g i D v p q r u1 u2 u3 a w) (hb : Below w.heap.size w w') : KeepS g i D v p q r u1 u2 u3 a w' := by
  obtain ⟨k1, k2, ⟨k3, k4, k5⟩, k6, k7⟩ := k
  refine ⟨grown_transH k1 ⟨hb.os, hb.tape, hb.output, hb.size, fun k hk _ => hb.block k hk⟩, ?_, ⟨?_, ?_, ?_⟩, k6, k7⟩
  · rcases k2 with h | h
    · exact .inl (h.under hb h.lt)
    · exact .inr (h.under hb h.lt)
  · rw [hb.cell (cell_ltT k3)]; exact k3
  · rw [hb.cell (cell_ltT k4)]; exact k4
  · rw [hb.cell (cell_ltT k5)]; exact k5
theorem KeepS.drew (k : KeepS g i D v p q r u1 u2 u3 a w) : KeepS g i D v p q r u1 u2 u3 a w.drew := k.step ⟨rfl, rfl, rfl, Nat.le_refl _, fun _ _ => rfl⟩
theorem KeepS.put (k : KeepS g i D v p q r u1 u2 u3 a w) : KeepS g i D v p q r u1 u2 u3 a (w.setCell ⟨g, i, none⟩ v) := by
  obtain ⟨k1, k2, ⟨k3, k4, k5⟩, ⟨k6, k7, k8⟩, k9⟩ := k
  have hg : w.grownBy (w.setCell ⟨g, i, none⟩ v) (some g) := ⟨rfl, rfl, rfl, by simp, fun k _ hne => Below.heap_setCell w ⟨g, i, none⟩ v k (fun e => hne (by rw [e]))⟩
  refine ⟨grown_transH k1 hg, .inr ?_, ⟨hg.cell k3 (by intro e; injection e with e; exact k6 e), hg.cell k4 (by intro e; injection e with e; exact k7 e), hg.cell k5 (by intro e; injection e with e; exact k8 e)⟩, ⟨k6, k7, k8⟩, k9⟩
  rcases k2 with h | h
  · exact h.put i v
  · have := h.put i v
    rwa [List.set_set] at this
theorem KeepS.all (k : KeepS g i D v p q r u1 u2 u3 a w) :
    KeepS g i D v p q r u1 u2 u3 a w ∧ w.cell? p = some u1 ∧ w.cell? q = some u2 ∧ w.cell? r = some u3 ∧ w.cell? ⟨g, i, none⟩ = some (cellV w ⟨g, i, none⟩) ∧ w.frozen? ⟨g, i, none⟩ = false := by
  refine ⟨k, k.2.2.1.1, k.2.2.1.2.1, k.2.2.1.2.2, ?_, ?_⟩
  · unfold cellV
    rcases k.2.1 with h | h
    · rw [h.cell (i := i) k.2.2.2.2]; rfl
    · rw [h.cell (i := i) (by rw [List.length_set]; exact k.2.2.2.2)]; rfl
  · rcases k.2.1 with h | h
    · exact h.frozen i
    · exact h.frozen i
end
theorem KeepS.max {g i : Nat} {D : List Value} {v : Value} {p q : Addr} {u1 u2 : Value} {m : Int} {a w : World} (k : KeepS g i D v p q ⟨0, 0, none⟩ u1 u2 (.int .i64 m) a w) : MaxSet w := ⟨m, k.2.2.1.2.2⟩

set_option maxRecDepth 100000 in
set_option maxHeartbeats 1000000 in
theorem readTexts_walk (l : List UInt8) (g : Nat) (w : World) (F : Int) (C0 : List Value) (C : Nat → List Value) (bp : Bool) (B : Nat → Bool) (f14 f0 t14 t0 pre nm old0 : List UInt8) (fl tx old : Nat → List UInt8)
    (h0 : Hid (Holds w g 30 C0)) (hm : Hid (MaxSet w)) (hne : Hid (0 ≠ g))
    (HF0 : Hid (C0[12]? = some (.int .i64 F))) (Hold0 : Hid (C0[0]? = some (.string ⟨old0.toArray⟩)))
    (HF : Hid (∀ k, k < 3 → (C k)[12]? = some (.int .i64 F)))
    (Hold : Hid (∀ k, k < 3 → (C k)[wordI k]? = some (.string ⟨(old k).toArray⟩)))
    (HinP : Hid (∀ w : World, Calls Tryz.prog 97 #[.int .i64 F, .int .i64 14] w fun e w' => w = w' ∧ e = .returned (.bool bp)))
    (Hcut14 : Hid (∀ w : World, Calls Tryz.prog 47 #[.string ⟨l.toArray⟩, .int .i64 14] w fun e w' => Below w.heap.size w w' ∧ e = .returned (.string ⟨f14.toArray⟩)))
    (Hcut0 : Hid (∀ w : World, Calls Tryz.prog 47 #[.string ⟨l.toArray⟩, .int .i64 0] w fun e w' => Below w.heap.size w w' ∧ e = .returned (.string ⟨f0.toArray⟩)))
    (Hrd14 : Hid (∀ w : World, MaxSet w → Calls Tryz.prog 99 #[.string ⟨f14.toArray⟩] w fun e w' => Below w.heap.size w w' ∧ e = .returned (.string ⟨t14.toArray⟩)))
    (Hrd0 : Hid (∀ w : World, MaxSet w → Calls Tryz.prog 99 #[.string ⟨f0.toArray⟩] w fun e w' => Below w.heap.size w w' ∧ e = .returned (.string ⟨t0.toArray⟩)))
    (Hpre : Hid (pre = if bp then t14 else []))
    (Hjoin : Hid (∀ w : World, Calls Tryz.prog 100 #[.string ⟨pre.toArray⟩, .string ⟨t0.toArray⟩] w fun e w' => w = w' ∧ e = .returned (.string ⟨nm.toArray⟩)))
    (HC0 : Hid (C 0 = C0.set 0 (.string ⟨nm.toArray⟩)))
    (Hin : Hid (∀ k, k < 3 → ∀ w : World, Calls Tryz.prog 97 #[.int .i64 F, .int .i64 (wordF k)] w fun e w' => w = w' ∧ e = .returned (.bool (B k))))
    (Hcut : Hid (∀ k, k < 3 → ∀ w : World, Calls Tryz.prog 47 #[.string ⟨l.toArray⟩, .int .i64 (wordF k)] w fun e w' => Below w.heap.size w w' ∧ e = .returned (.string ⟨(fl k).toArray⟩)))
    (Hrd : Hid (∀ k, k < 3 → ∀ w : World, MaxSet w → Calls Tryz.prog 99 #[.string ⟨(fl k).toArray⟩] w fun e w' => Below w.heap.size w w' ∧ e = .returned (.string ⟨(tx k).toArray⟩)))
    (Hno : Hid (∀ k, k < 3 → B k = false → C (k + 1) = C k))
    (Hyes : Hid (∀ k, k < 3 → B k = true → C (k + 1) = (C k).set (wordI k) (.string ⟨(tx k).toArray⟩))) :
    Calls Tryz.prog 49 #[.pointer (some ⟨g, 0, none⟩), .string ⟨l.toArray⟩] w fun e w' => Rd w g (C 3) w' ∧ e = .returned (.tuple #[]) := by
  have hlt := h0.out.lt
  have c12 := h0.out.at HF0.out
  have hpre : pre = if bp then t14 else [] := Hpre.out
  have Hs0 := Lib.hid (show Rd w g C0 w from ⟨World.grownBy.refl _ _, h0.out, hlt⟩)
  clear h0
  cases bp
  · obtain rfl : pre = [] := hpre
    go_enter Tryz.func49, Tryz.ntmps49
    go_wp2_with fail
    refine (HinP.out _).mono ?_
    rintro e w' ⟨rfl, rfl⟩
    go_wp2_with fail
    refine (Hcut0.out _).mono ?_
    rintro e w1 ⟨hb1, rfl⟩
    have Hs1 := Lib.hid (Hs0.out.step hb1)
    have Hm1 := Lib.hid (hm.out.below hb1)
    clear hb1
    go_wp2_with fail
    refine (Hrd0.out _ Hm1.out).mono ?_
    rintro e w2 ⟨hb2, rfl⟩
    have Hs2 := Lib.hid (Hs1.out.step hb2)
    have Hm2 := Lib.hid (Hm1.out.below hb2)
    clear hb2 Hs1 Hm1
    go_wp2_with fail
    refine (Hjoin.out _).mono ?_
    rintro e w' ⟨rfl, rfl⟩
    have co : w2.cell? ⟨g, 0, none⟩ = some (.string ⟨old0.toArray⟩) := Hs2.out.2.1.at Hold0.out
    have cf : w2.frozen? ⟨g, 0, none⟩ = false := Hs2.out.2.1.frozen 0
    have Hs3 := Lib.hid (show Rd w g (C 0) (w2.setCell ⟨g, 0, none⟩ (.string ⟨nm.toArray⟩)) by rw [HC0.out]; exact Hs2.out.put 0 _)
    have Hm3 := Lib.hid (show MaxSet (w2.setCell ⟨g, 0, none⟩ (.string ⟨nm.toArray⟩)) from hm.out.grown Hs3.out.1 hne.out)
    clear Hs2 Hm2
    go_wp2_with fail
    clear co cf
    generalize w2.setCell ⟨g, 0, none⟩ (.string ⟨nm.toArray⟩) = w3 at *
    refine (words_any g _).mono ?_
    rintro e w4 ⟨hb4, hr4, rfl⟩
    have Hs4 := Lib.hid (Hs3.out.step hb4)
    have hgr : g < w3.heap.size := Hs3.out.2.1.lt
    have Hr4 := Lib.hid hr4
    clear hb4 hr4 Hs3 Hm3
    generalize w3.heap.size = r at *
    go_wp2_with fail
    go_loopw [26] (fun i wr => ∃ k : Nat, k ≤ 3 ∧ i = .int .i64 k ∧ Rd w g (C k) wr ∧ Holds wr r 105 (wordCells g)) (fun i _ => 3 - (intOf i).toNat)
    case atStart => exact ⟨0, by omega, rfl, Hs4.out, Hr4.out⟩
    case round =>
      clear Hs4 Hr4
      obtain ⟨k, hk, rfl, hs, hr⟩ := hrel
      have Hs := Lib.hid hs
      have Hr := Lib.hid hr
      have hrl : r < wr.heap.size := hr.lt
      have hgl : g < wr.heap.size := by omega
      clear hs hr
      by_cases hk3 : k < 3
      · have c1 := Hr.out.at (word_row g k hk3).1
        have c2 := Hr.out.at (word_row g k hk3).2
        have c3 := Hs.out.2.1.at (HF.out k hk3)
        have Hin := Lib.hid (Hin.out k hk3)
        have Hcut := Lib.hid (Hcut.out k hk3)
        have Hrd := Lib.hid (Hrd.out k hk3)
        have Hold := Lib.hid (Hold.out k hk3)
        have Hno := Lib.hid (Hno.out k hk3)
        have Hyes := Lib.hid (Hyes.out k hk3)
        generalize fl k = x at *
        generalize tx k = y at *
        generalize old k = z at *
        cases hB : B k
        · rw [hB] at Hin
          have Q1 := Lib.hid (Hno.out hB)
          clear hB Hcut Hrd Hno Hyes Hold
          generalize wordF k = f at *
          generalize wordI k = i at *
          go_wp2_with fail
          have Ka := Lib.hid (Keep3.start (t := 105) (u := .int .i64 f) (v := .pointer (some ⟨g, i, none⟩)) hgl c3)
          have Hsa := Lib.hid (Hs.out.step ((Below.refl _ _).alloc (Nat.le_refl _) (.cells #[.int .i64 f, .pointer (some ⟨g, i, none⟩)] 105)))
          have Hra := Lib.hid (Hr.out.behind (.cells #[.int .i64 f, .pointer (some ⟨g, i, none⟩)] 105))
          have hz0 : wr.heap.size < (wr.alloc (.cells #[.int .i64 f, .pointer (some ⟨g, i, none⟩)] 105)).heap.size := by simp
          generalize wr.alloc (.cells #[.int .i64 f, .pointer (some ⟨g, i, none⟩)] 105) = wa at *
          obtain ⟨d1, d2, d3⟩ := Ka.out.2.1
          clear c1 c2 c3 Ka Hs Hr
          go_quiet ((go_at_call 97; exact quiet_eq (Hin.out _)))
          have Hsb := Lib.hid (show Rd w g (C k) (wa.drewN nq) from Rd.step Hsa.out ⟨rfl, rfl, rfl, Nat.le_refl _, fun _ _ => rfl⟩)
          have Hrb := Lib.hid (show Holds (wa.drewN nq) r 105 (wordCells g) from Hra.out)
          have b1 : (wa.drewN nq).cell? ⟨wr.heap.size, 0, none⟩ = some (.int .i64 f) := d1
          have b2 : (wa.drewN nq).cell? ⟨wr.heap.size, 1, none⟩ = some (.pointer (some ⟨g, i, none⟩)) := d2
          have hzb : wr.heap.size < (wa.drewN nq).heap.size := hz0
          clear d1 d2 d3 Hsa Hra hz0
          generalize wa.drewN nq = wb at *
          go_wp2
          go_roundw
          case rel => exact ⟨k + 1, by omega, by go_num, by rw [Q1.out]; exact Hsb.out, Hrb.out⟩
          case measure => simp [intOf]; omega
        · rw [hB] at Hin
          have Q1 := Lib.hid (Hyes.out hB)
          clear hB Hno Hyes
          generalize wordF k = f at *
          generalize wordI k = i at *
          go_wp2_with fail
          have Ka := Lib.hid (Keep3.start (t := 105) (u := .int .i64 f) (v := .pointer (some ⟨g, i, none⟩)) hgl c3)
          have Hsa := Lib.hid (Hs.out.step ((Below.refl _ _).alloc (Nat.le_refl _) (.cells #[.int .i64 f, .pointer (some ⟨g, i, none⟩)] 105)))
          have Hra := Lib.hid (Hr.out.behind (.cells #[.int .i64 f, .pointer (some ⟨g, i, none⟩)] 105))
          have hz0 : wr.heap.size < (wr.alloc (.cells #[.int .i64 f, .pointer (some ⟨g, i, none⟩)] 105)).heap.size := by simp
          generalize wr.alloc (.cells #[.int .i64 f, .pointer (some ⟨g, i, none⟩)] 105) = wa at *
          obtain ⟨d1, d2, d3⟩ := Ka.out.2.1
          clear c1 c2 c3 Ka Hs Hr
          go_quiet ((go_at_call 97; exact quiet_eq (Hin.out _)))
          have Hsb := Lib.hid (show Rd w g (C k) (wa.drewN nq) from Rd.step Hsa.out ⟨rfl, rfl, rfl, Nat.le_refl _, fun _ _ => rfl⟩)
          have Hrb := Lib.hid (show Holds (wa.drewN nq) r 105 (wordCells g) from Hra.out)
          have b1 : (wa.drewN nq).cell? ⟨wr.heap.size, 0, none⟩ = some (.int .i64 f) := d1
          have b2 : (wa.drewN nq).cell? ⟨wr.heap.size, 1, none⟩ = some (.pointer (some ⟨g, i, none⟩)) := d2
          have hzb : wr.heap.size < (wa.drewN nq).heap.size := hz0
          clear d1 d2 d3 Hsa Hra hz0
          generalize wa.drewN nq = wb at *
          have co : wb.cell? ⟨g, i, none⟩ = some (.string ⟨z.toArray⟩) := Hsb.out.2.1.at Hold.out
          have cf : wb.frozen? ⟨g, i, none⟩ = false := Hsb.out.2.1.frozen i
          have hgb : g < wb.heap.size := Hsb.out.2.1.lt
          obtain ⟨m, hmx⟩ := hm.out.grown Hsb.out.1 hne.out
          have hmz : 0 < wb.heap.size := MaxSet.lt ⟨m, hmx⟩
          have hk : KeepS g i (C k) (.string ⟨y.toArray⟩) ⟨wr.heap.size, 0, none⟩ ⟨wr.heap.size, 1, none⟩ ⟨0, 0, none⟩ (.int .i64 f) (.pointer (some ⟨g, i, none⟩)) (.int .i64 m) wb wb := ⟨World.grownBy.refl _ _, .inl Hsb.out.2.1, ⟨b1, b2, hmx⟩, ⟨by show wr.heap.size ≠ g; omega, by show wr.heap.size ≠ g; omega, hne.out⟩, (List.getElem?_eq_some_iff.1 Hold.out).1⟩
          clear b1 b2 hmx
          go_wp2_with fail
          go_region_held3 (fun w' => KeepS g i (C k) (.string ⟨y.toArray⟩) ⟨wr.heap.size, 0, none⟩ ⟨wr.heap.size, 1, none⟩ ⟨0, 0, none⟩ (.int .i64 f) (.pointer (some ⟨g, i, none⟩)) (.int .i64 m) wb w' ∧ w'.cell? ⟨wr.heap.size, 0, none⟩ = some (.int .i64 f) ∧ w'.cell? ⟨wr.heap.size, 1, none⟩ = some (.pointer (some ⟨g, i, none⟩)) ∧ w'.cell? ⟨0, 0, none⟩ = some (.int .i64 m) ∧ w'.cell? ⟨g, i, none⟩ = some (cellV w' ⟨g, i, none⟩) ∧ w'.frozen? ⟨g, i, none⟩ = false)
            (first | assumption | exact KeepS.all (KeepS.drew hk) | exact KeepS.all (KeepS.step (KeepS.drew hk) hbA) | exact KeepS.all (KeepS.step (And.left (by assumption)) hbA) | exact KeepS.all (KeepS.put (And.left (by assumption))))
            (first
              | (go_at_call 47; refine (Hcut.out _).mono ?_; rintro e wA ⟨hbA, rfl⟩)
              | (go_at_call 99; refine (Hrd.out _ (KeepS.max (And.left (by assumption)))).mono ?_; rintro e wA ⟨hbA, rfl⟩))
          rename_i wA1 hbA1 hHeld
          have hA := Rd.step (Rd.step (w := wb.drew) (Rd.step Hsb.out ⟨rfl, rfl, rfl, Nat.le_refl _, fun _ _ => rfl⟩) hbA1) hbA
          have hp := Rd.put hA i (.string ⟨y.toArray⟩)
          have hr := (((show Holds wb.drew r 105 (wordCells g) from Hrb.out).under hbA1 Hrb.out.lt).under hbA (Nat.lt_of_lt_of_le Hrb.out.lt hbA1.size)).other (p := ⟨g, i, none⟩) (by show r ≠ g; omega) (.string ⟨y.toArray⟩)
          rw [← Q1.out] at hp
          have Hp := Lib.hid hp
          have Hr2 := Lib.hid hr
          clear hp hr hA hbA1 hbA hHeld hk
          go_wp2
          go_roundw
          case rel => exact ⟨k + 1, by omega, by go_num, Hp.out, Hr2.out⟩
          case measure => simp [intOf]; omega
      · obtain rfl : k = 3 := by omega
        go_wp2
        go_end0
        exact ⟨Hs.out, rfl⟩
  · obtain rfl : pre = t14 := hpre
    go_enter Tryz.func49, Tryz.ntmps49
    go_wp2_with fail
    refine (HinP.out _).mono ?_
    rintro e w' ⟨rfl, rfl⟩
    go_wp2_with fail
    refine (Hcut14.out _).mono ?_
    rintro e wp ⟨hbp, rfl⟩
    have Hsp := Lib.hid (Hs0.out.step hbp)
    have Hmp := Lib.hid (hm.out.below hbp)
    clear hbp
    go_wp2_with fail
    refine (Hrd14.out _ Hmp.out).mono ?_
    rintro e wq ⟨hbq, rfl⟩
    have Hsq := Lib.hid (Hsp.out.step hbq)
    have Hmq := Lib.hid (Hmp.out.below hbq)
    clear hbq Hsp Hmp
    go_wp2_with fail
    refine (Hcut0.out _).mono ?_
    rintro e w1 ⟨hb1, rfl⟩
    have Hs1 := Lib.hid (Hsq.out.step hb1)
    have Hm1 := Lib.hid (Hmq.out.below hb1)
    clear hb1 Hsq Hmq
    go_wp2_with fail
    refine (Hrd0.out _ Hm1.out).mono ?_
    rintro e w2 ⟨hb2, rfl⟩
    have Hs2 := Lib.hid (Hs1.out.step hb2)
    have Hm2 := Lib.hid (Hm1.out.below hb2)
    clear hb2 Hs1 Hm1
    go_wp2_with fail
    refine (Hjoin.out _).mono ?_
    rintro e w' ⟨rfl, rfl⟩
    have co : w2.cell? ⟨g, 0, none⟩ = some (.string ⟨old0.toArray⟩) := Hs2.out.2.1.at Hold0.out
    have cf : w2.frozen? ⟨g, 0, none⟩ = false := Hs2.out.2.1.frozen 0
    have Hs3 := Lib.hid (show Rd w g (C 0) (w2.setCell ⟨g, 0, none⟩ (.string ⟨nm.toArray⟩)) by rw [HC0.out]; exact Hs2.out.put 0 _)
    have Hm3 := Lib.hid (show MaxSet (w2.setCell ⟨g, 0, none⟩ (.string ⟨nm.toArray⟩)) from hm.out.grown Hs3.out.1 hne.out)
    clear Hs2 Hm2
    go_wp2_with fail
    clear co cf
    generalize w2.setCell ⟨g, 0, none⟩ (.string ⟨nm.toArray⟩) = w3 at *
    refine (words_any g _).mono ?_
    rintro e w4 ⟨hb4, hr4, rfl⟩
    have Hs4 := Lib.hid (Hs3.out.step hb4)
    have hgr : g < w3.heap.size := Hs3.out.2.1.lt
    have Hr4 := Lib.hid hr4
    clear hb4 hr4 Hs3 Hm3
    generalize w3.heap.size = r at *
    go_wp2_with fail
    go_loopw [26] (fun i wr => ∃ k : Nat, k ≤ 3 ∧ i = .int .i64 k ∧ Rd w g (C k) wr ∧ Holds wr r 105 (wordCells g)) (fun i _ => 3 - (intOf i).toNat)
    case atStart => exact ⟨0, by omega, rfl, Hs4.out, Hr4.out⟩
    case round =>
      clear Hs4 Hr4
      obtain ⟨k, hk, rfl, hs, hr⟩ := hrel
      have Hs := Lib.hid hs
      have Hr := Lib.hid hr
      have hrl : r < wr.heap.size := hr.lt
      have hgl : g < wr.heap.size := by omega
      clear hs hr
      by_cases hk3 : k < 3
      · have c1 := Hr.out.at (word_row g k hk3).1
        have c2 := Hr.out.at (word_row g k hk3).2
        have c3 := Hs.out.2.1.at (HF.out k hk3)
        have Hin := Lib.hid (Hin.out k hk3)
        have Hcut := Lib.hid (Hcut.out k hk3)
        have Hrd := Lib.hid (Hrd.out k hk3)
        have Hold := Lib.hid (Hold.out k hk3)
        have Hno := Lib.hid (Hno.out k hk3)
        have Hyes := Lib.hid (Hyes.out k hk3)
        generalize fl k = x at *
        generalize tx k = y at *
        generalize old k = z at *
        cases hB : B k
        · rw [hB] at Hin
          have Q1 := Lib.hid (Hno.out hB)
          clear hB Hcut Hrd Hno Hyes Hold
          generalize wordF k = f at *
          generalize wordI k = i at *
          go_wp2_with fail
          have Ka := Lib.hid (Keep3.start (t := 105) (u := .int .i64 f) (v := .pointer (some ⟨g, i, none⟩)) hgl c3)
          have Hsa := Lib.hid (Hs.out.step ((Below.refl _ _).alloc (Nat.le_refl _) (.cells #[.int .i64 f, .pointer (some ⟨g, i, none⟩)] 105)))
          have Hra := Lib.hid (Hr.out.behind (.cells #[.int .i64 f, .pointer (some ⟨g, i, none⟩)] 105))
          have hz0 : wr.heap.size < (wr.alloc (.cells #[.int .i64 f, .pointer (some ⟨g, i, none⟩)] 105)).heap.size := by simp
          generalize wr.alloc (.cells #[.int .i64 f, .pointer (some ⟨g, i, none⟩)] 105) = wa at *
          obtain ⟨d1, d2, d3⟩ := Ka.out.2.1
          clear c1 c2 c3 Ka Hs Hr
          go_quiet ((go_at_call 97; exact quiet_eq (Hin.out _)))
          have Hsb := Lib.hid (show Rd w g (C k) (wa.drewN nq) from Rd.step Hsa.out ⟨rfl, rfl, rfl, Nat.le_refl _, fun _ _ => rfl⟩)
          have Hrb := Lib.hid (show Holds (wa.drewN nq) r 105 (wordCells g) from Hra.out)
          have b1 : (wa.drewN nq).cell? ⟨wr.heap.size, 0, none⟩ = some (.int .i64 f) := d1
          have b2 : (wa.drewN nq).cell? ⟨wr.heap.size, 1, none⟩ = some (.pointer (some ⟨g, i, none⟩)) := d2
          have hzb : wr.heap.size < (wa.drewN nq).heap.size := hz0
          clear d1 d2 d3 Hsa Hra hz0
          generalize wa.drewN nq = wb at *
          go_wp2
          go_roundw
          case rel => exact ⟨k + 1, by omega, by go_num, by rw [Q1.out]; exact Hsb.out, Hrb.out⟩
          case measure => simp [intOf]; omega
        · rw [hB] at Hin
          have Q1 := Lib.hid (Hyes.out hB)
          clear hB Hno Hyes
          generalize wordF k = f at *
          generalize wordI k = i at *
          go_wp2_with fail
          have Ka := Lib.hid (Keep3.start (t := 105) (u := .int .i64 f) (v := .pointer (some ⟨g, i, none⟩)) hgl c3)
          have Hsa := Lib.hid (Hs.out.step ((Below.refl _ _).alloc (Nat.le_refl _) (.cells #[.int .i64 f, .pointer (some ⟨g, i, none⟩)] 105)))
          have Hra := Lib.hid (Hr.out.behind (.cells #[.int .i64 f, .pointer (some ⟨g, i, none⟩)] 105))
          have hz0 : wr.heap.size < (wr.alloc (.cells #[.int .i64 f, .pointer (some ⟨g, i, none⟩)] 105)).heap.size := by simp
          generalize wr.alloc (.cells #[.int .i64 f, .pointer (some ⟨g, i, none⟩)] 105) = wa at *
          obtain ⟨d1, d2, d3⟩ := Ka.out.2.1
          clear c1 c2 c3 Ka Hs Hr
          go_quiet ((go_at_call 97; exact quiet_eq (Hin.out _)))
          have Hsb := Lib.hid (show Rd w g (C k) (wa.drewN nq) from Rd.step Hsa.out ⟨rfl, rfl, rfl, Nat.le_refl _, fun _ _ => rfl⟩)
          have Hrb := Lib.hid (show Holds (wa.drewN nq) r 105 (wordCells g) from Hra.out)
          have b1 : (wa.drewN nq).cell? ⟨wr.heap.size, 0, none⟩ = some (.int .i64 f) := d1
          have b2 : (wa.drewN nq).cell? ⟨wr.heap.size, 1, none⟩ = some (.pointer (some ⟨g, i, none⟩)) := d2
          have hzb : wr.heap.size < (wa.drewN nq).heap.size := hz0
          clear d1 d2 d3 Hsa Hra hz0
          generalize wa.drewN nq = wb at *
          have co : wb.cell? ⟨g, i, none⟩ = some (.string ⟨z.toArray⟩) := Hsb.out.2.1.at Hold.out
          have cf : wb.frozen? ⟨g, i, none⟩ = false := Hsb.out.2.1.frozen i
          have hgb : g < wb.heap.size := Hsb.out.2.1.lt
          obtain ⟨m, hmx⟩ := hm.out.grown Hsb.out.1 hne.out
          have hmz : 0 < wb.heap.size := MaxSet.lt ⟨m, hmx⟩
          have hk : KeepS g i (C k) (.string ⟨y.toArray⟩) ⟨wr.heap.size, 0, none⟩ ⟨wr.heap.size, 1, none⟩ ⟨0, 0, none⟩ (.int .i64 f) (.pointer (some ⟨g, i, none⟩)) (.int .i64 m) wb wb := ⟨World.grownBy.refl _ _, .inl Hsb.out.2.1, ⟨b1, b2, hmx⟩, ⟨by show wr.heap.size ≠ g; omega, by show wr.heap.size ≠ g; omega, hne.out⟩, (List.getElem?_eq_some_iff.1 Hold.out).1⟩
          clear b1 b2 hmx
          go_wp2_with fail
          go_region_held3 (fun w' => KeepS g i (C k) (.string ⟨y.toArray⟩) ⟨wr.heap.size, 0, none⟩ ⟨wr.heap.size, 1, none⟩ ⟨0, 0, none⟩ (.int .i64 f) (.pointer (some ⟨g, i, none⟩)) (.int .i64 m) wb w' ∧ w'.cell? ⟨wr.heap.size, 0, none⟩ = some (.int .i64 f) ∧ w'.cell? ⟨wr.heap.size, 1, none⟩ = some (.pointer (some ⟨g, i, none⟩)) ∧ w'.cell? ⟨0, 0, none⟩ = some (.int .i64 m) ∧ w'.cell? ⟨g, i, none⟩ = some (cellV w' ⟨g, i, none⟩) ∧ w'.frozen? ⟨g, i, none⟩ = false)
            (first | assumption | exact KeepS.all (KeepS.drew hk) | exact KeepS.all (KeepS.step (KeepS.drew hk) hbA) | exact KeepS.all (KeepS.step (And.left (by assumption)) hbA) | exact KeepS.all (KeepS.put (And.left (by assumption))))
            (first
              | (go_at_call 47; refine (Hcut.out _).mono ?_; rintro e wA ⟨hbA, rfl⟩)
              | (go_at_call 99; refine (Hrd.out _ (KeepS.max (And.left (by assumption)))).mono ?_; rintro e wA ⟨hbA, rfl⟩))
          rename_i wA1 hbA1 hHeld
          have hA := Rd.step (Rd.step (w := wb.drew) (Rd.step Hsb.out ⟨rfl, rfl, rfl, Nat.le_refl _, fun _ _ => rfl⟩) hbA1) hbA
          have hp := Rd.put hA i (.string ⟨y.toArray⟩)
          have hr := (((show Holds wb.drew r 105 (wordCells g) from Hrb.out).under hbA1 Hrb.out.lt).under hbA (Nat.lt_of_lt_of_le Hrb.out.lt hbA1.size)).other (p := ⟨g, i, none⟩) (by show r ≠ g; omega) (.string ⟨y.toArray⟩)
          rw [← Q1.out] at hp
          have Hp := Lib.hid hp
          have Hr2 := Lib.hid hr
          clear hp hr hA hbA1 hbA hHeld hk
          go_wp2
          go_roundw
          case rel => exact ⟨k + 1, by omega, by go_num, Hp.out, Hr2.out⟩
          case measure => simp [intOf]; omega
      · obtain rfl : k = 3 := by omega
        go_wp2
        go_end0
        exact ⟨Hs.out, rfl⟩
end Go.Proofs.YtjmmecokfijglaaGreatDoor
