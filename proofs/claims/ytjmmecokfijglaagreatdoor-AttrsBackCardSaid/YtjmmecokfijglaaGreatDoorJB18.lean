/-
  Texts of this seat's proof, joined: their order is that of the build.
-/
import Derived.Test.YtjmmecokfijglaaGreatDoorJB13
import Derived.Test.YtjmmecokfijglaaGreatDoorJB17
import Derived.Test.YtjmmecokfijglaaGreatDoorJB16
import Derived.Test.YtjmmecokfijglaaGreatDoorRows
import Derived.Test.YtjmmecokfijglaaGreatDoorJB01
import Derived.Laws.Rows
import Derived.Laws.Tables
import Derived.Deep.WholeRow
import Derived.Laws.CopyOwn
import Derived.Test.YtjmmecokfijglaaGreatDoorJB05
namespace Go.Proofs.YtjmmecokfijglaaGreatDoor
open Go.ChangeShapes Go.WideShapes Go.ChangeAt Go.RowKit Go.Maps

def Mb.ex (m : Mb) (v : Value) : Mb := { m with extra := v }
def mZero : Mb := ⟨[], [], 0, 0, 0, 0, [], [], 0, 0, 0, 0, .slice none 0 0, []⟩
def mOf (h : Hd) : Mb := ⟨h.name, h.link, h.kind, h.mode, h.uid, h.gid, h.uname, h.gname, h.major, h.minor, h.time, 0, .slice none 0 0, []⟩
/-- A member, a size, an error's number. -/
structure Ap where
  m : Mb
  n : Int
  e : Int
/-- What the record of a known key makes of them. -/
def apK (k x : List UInt8) (m : Mb) (n : Int) : Ap :=
  if k = [103, 105, 100] then ⟨{ m with gid := (atNum x).1 }, n, (atNum x).2⟩
  else if k = [117, 105, 100] then ⟨{ m with uid := (atNum x).1 }, n, (atNum x).2⟩
  else if k = [115, 105, 122, 101] then ⟨m, (atNum x).1, (atNum x).2⟩
  else if k = [109, 116, 105, 109, 101] then ⟨{ m with sec := (stParse x).1.1, nsec := (stParse x).1.2 }, n, (stParse x).2⟩
  else if 0 ∈ x then ⟨m, n, 2⟩
  else if k = [103, 110, 97, 109, 101] then ⟨{ m with gname := x }, n, 0⟩
  else if k = [117, 110, 97, 109, 101] then ⟨{ m with uname := x }, n, 0⟩
  else if k = [112, 97, 116, 104] then ⟨{ m with name := x }, n, 0⟩
  else ⟨{ m with link := x }, n, 0⟩
/-- A member, a size, the records besides, an error's number. -/
structure ApR where
  m : Mb
  n : Int
  l : List Pr
  e : Int
def apRun : List Pr → Mb → Int → List Pr → ApR
  | [], m, n, L => ⟨m, n, L, 0⟩
  | p :: r, m, n, L =>
    if isKnown p.1 = true then (if (apK p.1 p.2 m n).e = 0 then apRun r (apK p.1 p.2 m n).m (apK p.1 p.2 m n).n L else ⟨mZero, 0, [], (apK p.1 p.2 m n).e⟩)
    else apRun r m n (L ++ [p])
theorem apRun_ok {l : List Pr} {k : Nat} (hk : k < l.length) {m : Mb} {n : Int} {L : List Pr} (h : isKnown l[k].1 = true) (h0 : (apK l[k].1 l[k].2 m n).e = 0) :
    apRun (l.drop k) m n L = apRun (l.drop (k + 1)) (apK l[k].1 l[k].2 m n).m (apK l[k].1 l[k].2 m n).n L := by
  rw [List.drop_eq_getElem_cons hk, apRun, if_pos h, if_pos h0]
theorem apRun_bad {l : List Pr} {k : Nat} (hk : k < l.length) {m : Mb} {n : Int} {L : List Pr} (h : isKnown l[k].1 = true) (h0 : (apK l[k].1 l[k].2 m n).e ≠ 0) :
    apRun (l.drop k) m n L = ⟨mZero, 0, [], (apK l[k].1 l[k].2 m n).e⟩ := by
  rw [List.drop_eq_getElem_cons hk, apRun, if_pos h, if_neg h0]
theorem apRun_new {l : List Pr} {k : Nat} (hk : k < l.length) {m : Mb} {n : Int} {L : List Pr} (h : isKnown l[k].1 = false) :
    apRun (l.drop k) m n L = apRun (l.drop (k + 1)) m n (L ++ [l[k]]) := by
  rw [List.drop_eq_getElem_cons hk, apRun, if_neg (by rw [h]; decide)]
theorem apRun_end {l : List Pr} {m : Mb} {n : Int} {L : List Pr} : apRun (l.drop l.length) m n L = ⟨m, n, L, 0⟩ := by
  rw [List.drop_length]; rfl

def zField : Value := .agg #[.nilFunc, .nilFunc, .nilFunc]
theorem zero_field (w : World) : (zeroValue 85).run Tryz.prog w = .ok zField w := by kernel_rfl
theorem known_has (t : Tbl) (x : List UInt8) : Maps.has (knownD t) (.string x) = isKnown x := by
  have hk : ∀ a : List UInt8, (Lit.string a).sameKey (.string x) = (a == x) := fun a => rfl
  rw [knownD_eq]
  unfold Maps.has isKnown
  simp only [hk, List.any_cons, List.any_nil]
  rw [Bool.eq_iff_iff]
  simp only [Bool.or_eq_true, beq_iff_eq, decide_eq_true_eq, Bool.or_false]
  exact or_congr eq_comm (or_congr eq_comm (or_congr eq_comm (or_congr eq_comm (or_congr eq_comm (or_congr eq_comm (or_congr eq_comm (eq_comm)))))))
theorem known_at (t : Tbl) (x : List UInt8) (zd : DataW Value) (h : isKnown x = false) : (knownD t).atKey (.string x) zd = zd := by
  have hk : ∀ a : List UInt8, (Lit.string a).sameKey (.string x) = (a == x) := fun a => rfl
  unfold isKnown at h
  have h2 := of_decide_eq_false h
  rw [knownD_eq]
  unfold DataW.atKey
  simp only [List.find?_cons, hk, List.find?_nil]
  rw [beq_eq_false_iff_ne.2 (fun e => h2 (.inl e.symm)), beq_eq_false_iff_ne.2 (fun e => h2 (.inr (.inl e.symm))), beq_eq_false_iff_ne.2 (fun e => h2 (.inr (.inr (.inl e.symm)))), beq_eq_false_iff_ne.2 (fun e => h2 (.inr (.inr (.inr (.inl e.symm))))), beq_eq_false_iff_ne.2 (fun e => h2 (.inr (.inr (.inr (.inr (.inl e.symm)))))), beq_eq_false_iff_ne.2 (fun e => h2 (.inr (.inr (.inr (.inr (.inr (.inl e.symm))))))), beq_eq_false_iff_ne.2 (fun e => h2 (.inr (.inr (.inr (.inr (.inr (.inr (.inl e.symm)))))))), beq_eq_false_iff_ne.2 (fun e => h2 (.inr (.inr (.inr (.inr (.inr (.inr (.inr e.symm)))))))) ]

/-- A look with 'ok' into a map of whatever elements. -/
theorem wpList_look_held {P : Program} (w : World) {ops : Array Oper} {rest : List Oper} {o : Oper} {a : Act} {Q : Exit → Act → World → Prop} (hg : o.guard = none) (m x : Operand) (t : TypeId) (hop : o.op = Op.lookup t m x true)
    (k e : TypeId) (K : Keyed P k) (ht : P.underlying t = some (.map k e)) {z : Value} (hz : (zeroValue e).run P w = .ok z w) (b n : Nat) (D : DataW Value)
    (hm : a.eval m = .map (some b)) (hown : w.ownsMap P k heldElem b n D) (key : Value) (kl : Lit) (hx : a.eval x = key) (hkey : keyOf P k key = some kl) (c : Value) (bb : Bool)
    (hc : D.atKey kl (.held z) = .held c) (hb : Maps.has D kl = bb)
    (hK : wpList P ops Q rest (a.put o.dst (.tuple #[c, .bool bb])) w) :
    wpList P ops Q (o :: rest) a w :=
  wpList_lookup_own_ok w hg m x t hop k e K ht heldElem hz (.held z) [] rfl b n D hm hown key kl hx hkey (fun v ps hv => by
    have h1 : DataW.held v = D.atKey kl (.held z) := congrArg Prod.fst (Option.some.inj hv)
    rw [hc] at h1
    obtain rfl : v = c := DataW.held.inj h1
    rw [hb]
    exact hK)

/-- The parts, while the records are gone through. -/
def apCells (m : Mb) (v : Value) (n : Int) : List Value := (m.ex v).cells ++ [.int .i64 n] ++ Hd.zero.cells
theorem DvK.grownBy {W w : World} {p : Nat} (h : DvK W w p p) : W.grownBy w (some p) :=
  ⟨h.os, h.tape, h.output, h.size, fun k hk hn => h.block k hk (fun e => hn (by rw [e])) (fun e => hn (by rw [e]))⟩
/-- What a setter does. -/
abbrev Sets (f : Nat) (args : Array Value) (b : Nat) (v : Value) (w : World) (A : Ap) : Prop := Calls Tryz.prog f args w fun e w' => w.grownBy w' (some b) ∧ Holds w' b 78 (apCells A.m v A.n) ∧ e = .returned (.int .i64 A.e)
theorem apK_gid (y : List UInt8) (m : Mb) (n : Int) : apK [103, 105, 100] y m n = ⟨{ m with gid := (atNum y).1 }, n, (atNum y).2⟩ := by
  unfold apK
  simp
theorem apSetGid (m : Mb) (v : Value) (n : Int) (y : List UInt8) (hl : y.length ≤ maxLen) (b c : Nat) (w : World) (hh : Holds w b 78 (apCells m v n)) (hc : Holds w c 154 [.func (.func 73) #[] #[]]) :
    Sets 128 #[.pointer (some ⟨b, 0, none⟩), .string ⟨y.toArray⟩, .pointer (some ⟨c, 0, none⟩)] b v w (apK [103, 105, 100] y m n) := by
  rw [apK_gid]
  exact setGid_any (apCells m v n) y m.gid rfl hl b c w hh hc
theorem apK_uid (y : List UInt8) (m : Mb) (n : Int) : apK [117, 105, 100] y m n = ⟨{ m with uid := (atNum y).1 }, n, (atNum y).2⟩ := by
  unfold apK
  simp
theorem apSetUid (m : Mb) (v : Value) (n : Int) (y : List UInt8) (hl : y.length ≤ maxLen) (b c : Nat) (w : World) (hh : Holds w b 78 (apCells m v n)) (hc : Holds w c 154 [.func (.func 80) #[] #[]]) :
    Sets 128 #[.pointer (some ⟨b, 0, none⟩), .string ⟨y.toArray⟩, .pointer (some ⟨c, 0, none⟩)] b v w (apK [117, 105, 100] y m n) := by
  rw [apK_uid]
  exact setUid_any (apCells m v n) y m.uid rfl hl b c w hh hc
theorem apK_size (y : List UInt8) (m : Mb) (n : Int) : apK [115, 105, 122, 101] y m n = ⟨m, (atNum y).1, (atNum y).2⟩ := by
  unfold apK
  simp
theorem apSetSize (m : Mb) (v : Value) (n : Int) (y : List UInt8) (hl : y.length ≤ maxLen) (b c : Nat) (w : World) (hh : Holds w b 78 (apCells m v n)) (hc : Holds w c 154 [.func (.func 79) #[] #[]]) :
    Sets 128 #[.pointer (some ⟨b, 0, none⟩), .string ⟨y.toArray⟩, .pointer (some ⟨c, 0, none⟩)] b v w (apK [115, 105, 122, 101] y m n) := by
  rw [apK_size]
  exact setSize_any (apCells m v n) y n rfl hl b c w hh hc
theorem apK_mtime (y : List UInt8) (m : Mb) (n : Int) : apK [109, 116, 105, 109, 101] y m n = ⟨{ m with sec := (stParse y).1.1, nsec := (stParse y).1.2 }, n, (stParse y).2⟩ := by
  unfold apK
  simp
theorem apSetTime (m : Mb) (v : Value) (n : Int) (y : List UInt8) (hl : y.length ≤ maxLen) (b : Nat) (w : World) (hh : Holds w b 78 (apCells m v n)) :
    Sets 139 #[.pointer (some ⟨b, 0, none⟩), .string ⟨y.toArray⟩] b v w (apK [109, 116, 105, 109, 101] y m n) := by
  rw [apK_mtime]
  exact setTime_any (apCells m v n) y m.sec m.nsec rfl rfl hl b w hh
theorem apK_gname (y : List UInt8) (m : Mb) (n : Int) : apK [103, 110, 97, 109, 101] y m n = if 0 ∈ y then ⟨m, n, 2⟩ else ⟨{ m with gname := y }, n, 0⟩ := by
  unfold apK
  simp
theorem apSetGname (m : Mb) (v : Value) (n : Int) (y : List UInt8) (b c : Nat) (w : World) (hh : Holds w b 78 (apCells m v n)) (hc : Holds w c 156 [.func (.func 75) #[] #[]]) :
    Sets 134 #[.pointer (some ⟨b, 0, none⟩), .string ⟨y.toArray⟩, .pointer (some ⟨c, 0, none⟩)] b v w (apK [103, 110, 97, 109, 101] y m n) := by
  rw [apK_gname]
  have h := setGname_any (apCells m v n) y m.gname rfl b c w hh hc
  by_cases h0 : 0 ∈ y
  · rw [if_pos h0] at h ⊢
    rw [if_pos h0] at h
    exact h
  · rw [if_neg h0] at h ⊢
    rw [if_neg h0] at h
    exact h
theorem apK_uname (y : List UInt8) (m : Mb) (n : Int) : apK [117, 110, 97, 109, 101] y m n = if 0 ∈ y then ⟨m, n, 2⟩ else ⟨{ m with uname := y }, n, 0⟩ := by
  unfold apK
  simp
theorem apSetUname (m : Mb) (v : Value) (n : Int) (y : List UInt8) (b c : Nat) (w : World) (hh : Holds w b 78 (apCells m v n)) (hc : Holds w c 156 [.func (.func 81) #[] #[]]) :
    Sets 134 #[.pointer (some ⟨b, 0, none⟩), .string ⟨y.toArray⟩, .pointer (some ⟨c, 0, none⟩)] b v w (apK [117, 110, 97, 109, 101] y m n) := by
  rw [apK_uname]
  have h := setUname_any (apCells m v n) y m.uname rfl b c w hh hc
  by_cases h0 : 0 ∈ y
  · rw [if_pos h0] at h ⊢
    rw [if_pos h0] at h
    exact h
  · rw [if_neg h0] at h ⊢
    rw [if_neg h0] at h
    exact h
theorem apK_path (y : List UInt8) (m : Mb) (n : Int) : apK [112, 97, 116, 104] y m n = if 0 ∈ y then ⟨m, n, 2⟩ else ⟨{ m with name := y }, n, 0⟩ := by
  unfold apK
  simp
theorem apSetPath (m : Mb) (v : Value) (n : Int) (y : List UInt8) (b c : Nat) (w : World) (hh : Holds w b 78 (apCells m v n)) (hc : Holds w c 156 [.func (.func 78) #[] #[]]) :
    Sets 134 #[.pointer (some ⟨b, 0, none⟩), .string ⟨y.toArray⟩, .pointer (some ⟨c, 0, none⟩)] b v w (apK [112, 97, 116, 104] y m n) := by
  rw [apK_path]
  have h := setPath_any (apCells m v n) y m.name rfl b c w hh hc
  by_cases h0 : 0 ∈ y
  · rw [if_pos h0] at h ⊢
    rw [if_pos h0] at h
    exact h
  · rw [if_neg h0] at h ⊢
    rw [if_neg h0] at h
    exact h
theorem apK_linkpath (y : List UInt8) (m : Mb) (n : Int) : apK [108, 105, 110, 107, 112, 97, 116, 104] y m n = if 0 ∈ y then ⟨m, n, 2⟩ else ⟨{ m with link := y }, n, 0⟩ := by
  unfold apK
  simp
theorem apSetLink (m : Mb) (v : Value) (n : Int) (y : List UInt8) (b c : Nat) (w : World) (hh : Holds w b 78 (apCells m v n)) (hc : Holds w c 156 [.func (.func 76) #[] #[]]) :
    Sets 134 #[.pointer (some ⟨b, 0, none⟩), .string ⟨y.toArray⟩, .pointer (some ⟨c, 0, none⟩)] b v w (apK [108, 105, 110, 107, 112, 97, 116, 104] y m n) := by
  rw [apK_linkpath]
  have h := setLink_any (apCells m v n) y m.link rfl b c w hh hc
  by_cases h0 : 0 ∈ y
  · rw [if_pos h0] at h ⊢
    rw [if_pos h0] at h
    exact h
  · rw [if_neg h0] at h ⊢
    rw [if_neg h0] at h
    exact h
end Go.Proofs.YtjmmecokfijglaaGreatDoor
namespace Go.Proofs.YtjmmecokfijglaaGreatDoor
open Go.ChangeShapes Go.WideShapes Go.ChangeAt Go.RowKit

theorem info_numbers : (Tryz.prog.info? 170).map (fun i => (i.zero, i.size)) = some (some (.agg (byteCells (List.replicate 512 0)).toArray), 512) := by kernel_rfl
theorem numbers_size : (Tryz.prog.info? 170).map (·.size) = some 512 := (zero_of_info info_numbers).2

theorem blanked_cells (l : List UInt8) (h : l.length = 512) : (byteCells (blanked l)).toArray.size = 512 := by rw [List.size_toArray, byteCells_length, blanked_length l h]
theorem nought_cells : (byteCells (List.replicate 512 0)).toArray.size = 512 := by rw [List.size_toArray, byteCells_length, List.length_replicate]
theorem byteCells_oneCell (l : List UInt8) : (byteCells l).toArray.all (·.oneCell') = true := by
  rw [Array.all_eq_true_iff_forall_mem]
  intro v hv
  simp only [byteCells, List.mem_toArray, List.mem_map] at hv
  obtain ⟨b, _, rfl⟩ := hv
  rfl

set_option maxRecDepth 100000 in
theorem numbersOf_any (l : List UInt8) (w : World) (hl : l.length = 512) :
    Calls Tryz.prog 93 #[.string ⟨l.toArray⟩] w fun e w' => Below w.heap.size w w' ∧ e = .returned (.agg (byteCells (blanked l)).toArray) := by
  have hz := (zero_of_info info_numbers).1
  obtain ⟨Z, hZ⟩ : ∃ Z, Z = byteCells (List.replicate 512 0) := ⟨_, rfl⟩
  have HZ := Lib.hid hZ
  rw [← hZ] at hz
  clear hZ
  have Hl := Lib.hid hl
  have hl' : 512 ≤ l.length := by omega
  clear hl
  go_enter Tryz.func93, Tryz.ntmps93
  go_wp2
  go_loopw [6] (fun i wr => ∃ k : Nat, k ≤ 512 ∧ i = .int .i64 k ∧ Holds wr w.heap.size 170 Z ∧ Holds wr (w.heap.size + 1) 170 (byteCells (filled l k)) ∧ Below w.heap.size w wr) (fun i _ => 512 - (intOf i).toNat)
  case atStart =>
    refine ⟨0, Nat.zero_le _, rfl, (Holds.new _ _ _).behind _, ?_, ((Below.refl _ _).alloc (Nat.le_refl _) _).alloc (by simp) _⟩
    rw [filled_zero, ← HZ.out]
    have := Holds.new (w.alloc (.cells Z.toArray 170)) 170 Z
    rwa [World.size_alloc] at this
  case round =>
    obtain ⟨k, hk, rfl, h0, h1, hb⟩ := hrel
    have H0 := Lib.hid h0
    have H1 := Lib.hid h1
    have Hb := Lib.hid hb
    clear h0 h1 hb
    by_cases hlt : k < 512
    · have hkl : k < l.length := by omega
      have hc : wr.cell? ⟨w.heap.size + 1, k, none⟩ = some (.int .u8 ((filled l k)[k]'(by rw [filled_length l Hl.out k hk]; exact hlt)).toNat) := by
        rw [H1.out.cell (i := k) (by rw [byteCells_length, filled_length l Hl.out k hk]; exact hlt), byteCells_get]
      have hf : wr.frozen? ⟨w.heap.size + 1, k, none⟩ = false := H1.out.frozen k
      go_wp2
      have hp := H1.out.put k (.int .u8 l[k].toNat)
      rw [byteCells_set _ _ _ (by omega) (byte_lt _)] at hp
      have e : UInt8.ofNat ((l[k].toNat : Int)).toNat = l[k] := by simp
      rw [e, filled_succ l Hl.out k hlt] at hp
      refine ⟨⟨k + 1, by omega, by go_num, H0.out.other (by simp) _, hp, Hb.out.setCell (by simp) _⟩, ?_⟩
      simp [intOf]; omega
    · have H2 : Holds wr (w.heap.size + 1) 170 (byteCells (blanking l 0)) := by
        rw [blanking_zero, ← filled_full l Hl.out, show 512 = k by omega]; exact H1.out
      have H2' := Lib.hid H2
      clear H2
      go_wp2
      go_loopw [15] (fun i wr => ∃ k : Nat, k ≤ 8 ∧ i = .int .i64 k ∧ Holds wr w.heap.size 170 Z ∧ Holds wr (w.heap.size + 1) 170 (byteCells (blanking l k)) ∧ Below w.heap.size w wr) (fun i _ => 8 - (intOf i).toNat)
      case atStart => exact ⟨0, Nat.zero_le _, rfl, H0.out, H2'.out, Hb.out⟩
      case round =>
        clear H0 H2' Hb H1
        obtain ⟨j, hj, rfl, h0, h1, hb⟩ := hrel
        have H0 := Lib.hid h0
        have H1 := Lib.hid h1
        have Hb := Lib.hid hb
        clear h0 h1 hb
        by_cases hlt2 : j < 8
        · have hc : wr.cell? ⟨w.heap.size + 1, 148 + j, none⟩ = some (.int .u8 ((blanking l j)[148 + j]'(by rw [blanking_length l Hl.out j hj]; omega)).toNat) := by
            rw [H1.out.cell (i := 148 + j) (by rw [byteCells_length, blanking_length l Hl.out j hj]; omega), byteCells_get]
          have hf : wr.frozen? ⟨w.heap.size + 1, 148 + j, none⟩ = false := H1.out.frozen _
          go_wp2
          have hp := H1.out.put (148 + j) (.int .u8 32)
          rw [byteCells_set _ _ _ (by omega) (by omega)] at hp
          change Holds _ _ _ (byteCells ((blanking l j).set (148 + j) 32)) at hp
          rw [blanking_succ l Hl.out j hlt2] at hp
          refine ⟨⟨j + 1, by omega, by go_num, H0.out.other (by simp) _, hp, Hb.out.setCell (by simp) _⟩, ?_⟩
          simp [intOf]; omega
        · have H2 := Lib.hid (show Holds wr (w.heap.size + 1) 170 (byteCells (blanked l)) by rw [← blanking_full, show 8 = j by omega]; exact H1.out)
          have hs1 := Lib.hid (show (Tryz.prog.info? 170).map (·.size) = some (byteCells (blanked l)).toArray.size by rw [numbers_size]; simp [byteCells_length, blanked_length l Hl.out])
          have hs2 := Lib.hid (show Z.toArray.size = (byteCells (blanked l)).toArray.size by rw [HZ.out]; simp [byteCells_length, blanked_length l Hl.out])
          have hone := Lib.hid (byteCells_oneCell (blanked l))
          generalize hB : byteCells (blanked l) = B at *
          have HB := Lib.hid hB
          clear hB
          go_wp2_with (first
            | (refine wpList_load_row rfl 170 _ rfl (w.heap.size + 1) rfl _ _ _ _ H2.out Tryz.underlying170 rfl hs1.out ?_)
            | (refine wpList_store_row rfl 170 _ _ rfl w.heap.size B.toArray rfl rfl _ _ H0.out hs1.out hs2.out hone.out ?_))
          refine bodyPost_ret (v := .agg B.toArray) (results_cell_row Tryz.results93 _ _ w.heap.size 170 B.toArray (0, 0) _ rfl (setRow_heap _ _ _ _ _ _ H0.out) Tryz.underlying170 rfl hs1.out) rfl ⟨below_setRow Hb.out (Nat.le_refl _) _, by rw [HB.out]⟩

set_option maxRecDepth 100000 in
theorem sum_any (l : List UInt8) (w : World) (hl : l.length = 512) :
    Calls Tryz.prog 94 #[.agg (byteCells l).toArray] w fun e w' => Below w.heap.size w w' ∧ e = .returned (.int .i64 (sumL uns l)) := by
  have Hl := Lib.hid hl
  have hl' : 512 ≤ l.length := by omega
  clear hl
  have H0 := Lib.hid (Holds.new w 170 (byteCells l))
  generalize hB : byteCells l = B at *
  have HB := Lib.hid hB
  clear hB
  go_enter Tryz.func94, Tryz.ntmps94
  go_wp2
  have H1 := H0.out
  have Hb := (Below.refl w.heap.size w).alloc (Nat.le_refl _) (.cells B.toArray 170)
  generalize w.alloc (.cells B.toArray 170) = w1 at *
  have H1' := Lib.hid H1
  have Hb' := Lib.hid Hb
  clear H1 Hb
  go_loop [3, 5] (fun n i => ∃ k : Nat, k ≤ 512 ∧ i = .int .i64 k ∧ n = .int .i64 (sumL uns (l.take k))) (fun _ i => 512 - (intOf i).toNat)
  case atStart => exact ⟨0, Nat.zero_le _, rfl, rfl⟩
  case round =>
    obtain ⟨k, hk, rfl, rfl⟩ := hrel
    have hbd : 0 ≤ sumL uns (l.take k) ∧ sumL uns (l.take k) ≤ 130560 := by
      have h1 := sumL_uns (l.take k)
      have h2 : (l.take k).length ≤ k := List.length_take_le _ _
      omega
    by_cases hlt : k < 512
    · have hkl : k < l.length := by omega
      have hu := byte_lt l[k]
      have hc : w1.cell? ⟨w.heap.size, k, none⟩ = some (.int .u8 l[k].toNat) := by
        have hk2 : k < B.length := by rw [← HB.out, byteCells_length]; exact hkl
        have e : B[k] = (byteCells l)[k]'(by rw [byteCells_length]; exact hkl) := by simp only [HB.out]
        rw [H1'.out.cell (i := k) hk2, e, byteCells_get l k hkl]
      have Hs := Lib.hid (sumL_snoc uns l k hkl)
      go_wp2
      go_round
      case rel => exact ⟨k + 1, by omega, by go_num, by rw [Hs.out]; rfl⟩
      case measure => simp [intOf]; omega
    · have Hs := Lib.hid (show l.take k = l by rw [List.take_of_length_le (by have := Hl.out; omega)])
      go_wp2
      go_ret
      rw [Hs.out]
      exact ⟨Hb'.out, rfl⟩
theorem wrap_i8 (b : UInt8) : IntKind.i8.wrap (b.toNat : Int) = sgn b := by
  have := byte_lt b
  have e : IntKind.i8.wrap (b.toNat : Int) = if (true && decide ((b.toNat : Int) % 2 ^ 8 ≥ 2 ^ (8 - 1))) = true then (b.toNat : Int) % 2 ^ 8 - 2 ^ 8 else (b.toNat : Int) % 2 ^ 8 := rfl
  rw [e]
  unfold sgn
  by_cases h : 128 ≤ (b.toNat : Int)
  · rw [if_pos h, if_pos (by simp; omega)]; omega
  · rw [if_neg h, if_neg (by simp; omega)]; omega

set_option maxRecDepth 100000 in
theorem signed_any (l : List UInt8) (w : World) (hl : l.length = 512) :
    Calls Tryz.prog 95 #[.agg (byteCells l).toArray] w fun e w' => Below w.heap.size w w' ∧ e = .returned (.int .i64 (sumL sgn l)) := by
  have Hl := Lib.hid hl
  have hl' : 512 ≤ l.length := by omega
  clear hl
  have H0 := Lib.hid (Holds.new w 170 (byteCells l))
  generalize hB : byteCells l = B at *
  have HB := Lib.hid hB
  clear hB
  go_enter Tryz.func95, Tryz.ntmps95
  go_wp2
  have H1 := H0.out
  have Hb := (Below.refl w.heap.size w).alloc (Nat.le_refl _) (.cells B.toArray 170)
  generalize w.alloc (.cells B.toArray 170) = w1 at *
  have H1' := Lib.hid H1
  have Hb' := Lib.hid Hb
  clear H1 Hb
  go_loop [3, 5] (fun n i => ∃ k : Nat, k ≤ 512 ∧ i = .int .i64 k ∧ n = .int .i64 (sumL sgn (l.take k))) (fun _ i => 512 - (intOf i).toNat)
  case atStart => exact ⟨0, Nat.zero_le _, rfl, rfl⟩
  case round =>
    obtain ⟨k, hk, rfl, rfl⟩ := hrel
    have hbd : -130560 ≤ sumL sgn (l.take k) ∧ sumL sgn (l.take k) ≤ 130560 := by
      have h1 := sumL_bd true (l.take k)
      have h2 : (l.take k).length ≤ k := List.length_take_le _ _
      change -(255 * ((l.take k).length : Int)) ≤ sumL sgn (l.take k) ∧ sumL sgn (l.take k) ≤ 255 * ((l.take k).length : Int) at h1
      omega
    by_cases hlt : k < 512
    · have hkl : k < l.length := by omega
      have hu := sgn_bd l[k]
      have hc : w1.cell? ⟨w.heap.size, k, none⟩ = some (.int .u8 l[k].toNat) := by
        have hk2 : k < B.length := by rw [← HB.out, byteCells_length]; exact hkl
        have e : B[k] = (byteCells l)[k]'(by rw [byteCells_length]; exact hkl) := by simp only [HB.out]
        rw [H1'.out.cell (i := k) hk2, e, byteCells_get l k hkl]
      have hw := wrap_i8 l[k]
      have Hs := Lib.hid (sumL_snoc sgn l k hkl)
      go_wp2
      go_round
      case rel => exact ⟨k + 1, by omega, by go_num, by rw [Hs.out]⟩
      case measure => simp [intOf]; omega
    · have Hs := Lib.hid (show l.take k = l by rw [List.take_of_length_le (by have := Hl.out; omega)])
      go_wp2
      go_ret
      rw [Hs.out]
      exact ⟨Hb'.out, rfl⟩

/-- A block's sum; of any other text the error. -/
def sSum (s : Bool) (l : List UInt8) : Int × Int := if l.length = 512 then (bSum s l, 0) else (0, 1)

theorem sSum_any (l : List UInt8) (w : World) :
    Calls Tryz.prog 91 #[.string ⟨l.toArray⟩] w fun e w' => Below w.heap.size w w' ∧ e = .returned (.tuple #[.int .i64 (sSum false l).1, .int .i64 (sSum false l).2]) := by
  by_cases h : l.length = 512
  · have Hn := Lib.hid (numbersOf_any l w h)
    have Hs := Lib.hid (fun w1 => sum_any (blanked l) w1 (blanked_length l h))
    have Hq := Lib.hid (show sSum false l = (sumL uns (blanked l), 0) from if_pos h)
    have e1 : ((l.length : Int) != 512) = false := by simp [h]
    have hbd := Lib.hid (sumL_uns (blanked l))
    clear h
    go_enter Tryz.func91, Tryz.ntmps91
    go_wp2_with fail
    refine Hn.out.mono ?_
    rintro e w1 ⟨hb1, rfl⟩
    have Hb1 := Lib.hid hb1
    clear hb1
    generalize hB : byteCells (blanked l) = B at *
    have HB := Lib.hid hB
    clear hB
    go_wp2_with fail
    refine (Hs.out w1).mono ?_
    rintro e w2 ⟨hb2, rfl⟩
    have Hb2 := Lib.hid (Hb1.out.trans (hb2.mono Hb1.out.size))
    clear hb2
    go_wp2
    go_ret2
    rw [Hq.out]
    exact ⟨Hb2.out, rfl⟩
  · have Hq := Lib.hid (show sSum false l = (0, 1) from if_neg h)
    have e1 : ((l.length : Int) != 512) = true := by rw [bne_iff_ne]; omega
    clear h
    go_enter Tryz.func91, Tryz.ntmps91
    go_wp2
    go_ret2
    rw [Hq.out]
    exact ⟨Below.refl _ _, rfl⟩

set_option maxRecDepth 100000 in
theorem refSum_any (l : List UInt8) (s : Bool) (w : World) (hl : l.length = 512) :
    Calls Tryz.prog 155 #[.string ⟨l.toArray⟩, .bool s] w fun e w' => e = .returned (.int .i64 (bSum s l)) ∧ w = w' := by
  have Hl := Lib.hid hl
  have hl' : 512 ≤ l.length := by omega
  clear hl
  have Hbl := Lib.hid (blanked_length l Hl.out)
  go_enter Tryz.func155, Tryz.ntmps155
  go_wp2
  go_loop [5, 6] (fun n i => ∃ k : Nat, k ≤ 512 ∧ i = .int .i64 k ∧ n = .int .i64 (sumL (val s) ((blanked l).take k))) (fun _ i => 512 - (intOf i).toNat)
  case atStart => exact ⟨0, Nat.zero_le _, rfl, rfl⟩
  case round =>
    obtain ⟨k, hk, rfl, rfl⟩ := hrel
    have hbd : -130560 ≤ sumL (val s) ((blanked l).take k) ∧ sumL (val s) ((blanked l).take k) ≤ 130560 := by
      have h1 := sumL_bd s ((blanked l).take k)
      have h2 : ((blanked l).take k).length ≤ k := List.length_take_le _ _
      omega
    by_cases hlt : k < 512
    · have hkl : k < l.length := by omega
      have hu := byte_lt l[k]
      have Hs := Lib.hid (sumL_snoc (val s) (blanked l) k (by rw [Hbl.out]; exact hlt))
      have Hg := Lib.hid (blanked_get l Hl.out k hlt)
      generalize sumL (val s) ((blanked l).take k) = X at *
      by_cases h1 : 148 ≤ k
      · by_cases h2 : k ≤ 155
        · have Hv := Lib.hid (show sumL (val s) ((blanked l).take (k + 1)) = X + 32 by rw [Hs.out, Hg.out, if_pos ⟨h1, h2⟩]; cases s <;> rfl)
          have d1 : decide (148 ≤ (k : Int)) = true := by simp; omega
          go_wp2
          go_round
          case rel => exact ⟨k + 1, by omega, by go_num, by rw [Hv.out]⟩
          case measure => simp [intOf]; omega
        · have Hv := Lib.hid (show sumL (val s) ((blanked l).take (k + 1)) = X + val s l[k] by rw [Hs.out, Hg.out, if_neg (by omega)])
          have d1 : decide (148 ≤ (k : Int)) = true := by simp; omega
          have d2 : decide ((k : Int) ≤ 155) = false := by simp; omega
          cases s
          · go_wp2
            go_round
            case rel => exact ⟨k + 1, by omega, by go_num, by rw [Hv.out]; rfl⟩
            case measure => simp [intOf]; omega
          · by_cases h3 : 128 ≤ (l[k].toNat : Int)
            · have Hw := Lib.hid (show val true l[k] = (l[k].toNat : Int) - 256 from if_pos h3)
              have d3 : decide (128 ≤ (l[k].toNat : Int)) = true := by simpa using h3
              go_wp2
              go_round
              case rel => exact ⟨k + 1, by omega, by go_num, by rw [Hv.out, Hw.out]⟩
              case measure => simp [intOf]; omega
            · have Hw := Lib.hid (show val true l[k] = (l[k].toNat : Int) from if_neg h3)
              have d3 : decide (128 ≤ (l[k].toNat : Int)) = false := by simpa using h3
              go_wp2
              go_round
              case rel => exact ⟨k + 1, by omega, by go_num, by rw [Hv.out, Hw.out]⟩
              case measure => simp [intOf]; omega
      · have Hv := Lib.hid (show sumL (val s) ((blanked l).take (k + 1)) = X + val s l[k] by rw [Hs.out, Hg.out, if_neg (by omega)])
        have d1 : decide (148 ≤ (k : Int)) = false := by simp; omega
        cases s
        · go_wp2
          go_round
          case rel => exact ⟨k + 1, by omega, by go_num, by rw [Hv.out]; rfl⟩
          case measure => simp [intOf]; omega
        · by_cases h3 : 128 ≤ (l[k].toNat : Int)
          · have Hw := Lib.hid (show val true l[k] = (l[k].toNat : Int) - 256 from if_pos h3)
            have d3 : decide (128 ≤ (l[k].toNat : Int)) = true := by simpa using h3
            go_wp2
            go_round
            case rel => exact ⟨k + 1, by omega, by go_num, by rw [Hv.out, Hw.out]⟩
            case measure => simp [intOf]; omega
          · have Hw := Lib.hid (show val true l[k] = (l[k].toNat : Int) from if_neg h3)
            have d3 : decide (128 ≤ (l[k].toNat : Int)) = false := by simpa using h3
            go_wp2
            go_round
            case rel => exact ⟨k + 1, by omega, by go_num, by rw [Hv.out, Hw.out]⟩
            case measure => simp [intOf]; omega
    · have Hs := Lib.hid (show (blanked l).take k = blanked l by rw [List.take_of_length_le (by have := Hbl.out; omega)])
      go_wp2
      go_ret
      rw [Hs.out]
      exact ⟨rfl, rfl⟩
end Go.Proofs.YtjmmecokfijglaaGreatDoor
namespace Go.Proofs.YtjmmecokfijglaaGreatDoor
open Go.ChangeShapes Go.WideShapes Go.ChangeAt Go.RowKit

theorem add_any (v b d : Int) (w : World) (h0 : 0 ≤ v) (h1 : 0 ≤ b ∧ b ≤ 256) (h2 : 0 ≤ d ∧ d ≤ 255) :
    Calls Tryz.prog 197 #[.int .i64 v, .int .i64 b, .int .i64 d] w fun e w' => e = .returned (.int .i64 (radd b v d)) ∧ w = w' := by
  unfold radd
  go_enter Tryz.func197, Tryz.ntmps197
  by_cases h : 9007199254740991 < v
  · go_wp2
    go_ret
    exact ⟨rfl, rfl⟩
  · have hm : 0 ≤ v * b ∧ v * b ≤ 9007199254740991 * 256 := ⟨Int.mul_nonneg h0 h1.1, Int.mul_le_mul (by omega) h1.2 h1.1 (by omega)⟩
    go_wp2
    go_ret
    exact ⟨rfl, rfl⟩
end Go.Proofs.YtjmmecokfijglaaGreatDoor
