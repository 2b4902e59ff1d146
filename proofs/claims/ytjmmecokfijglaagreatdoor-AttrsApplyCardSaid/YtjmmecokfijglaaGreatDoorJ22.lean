/-
  Texts of this seat's proof, joined: their order is that of the build.
-/
import Derived.Test.YtjmmecokfijglaaGreatDoorJ16
import Derived.Test.YtjmmecokfijglaaGreatDoorJ21
import Derived.Test.YtjmmecokfijglaaGreatDoorJ19
namespace Go.Proofs.YtjmmecokfijglaaGreatDoor
open Go.ChangeShapes Go.WideShapes Go.ChangeAt Go.RowKit Go.Maps

def Mb.ex (m : Mb) (v : Value) : Mb := { m with extra := v }
def mZero : Mb := ⟨[], [], 0, 0, 0, 0, [], [], 0, 0, 0, 0, .slice none 0 0, []⟩
def mOf (h : Hd) : Mb := ⟨h.name, h.link, h.kind, h.mode, h.uid, h.gid, h.uname, h.gname, h.major, h.minor, h.time, 0, .slice none 0 0, []⟩
/-- A member, a size, an error's number. -/
structure Ap where
  m : Mb
  n : Int
  e : Int
/-- What the record of a known key makes of them. -/
def apK (k x : List UInt8) (m : Mb) (n : Int) : Ap :=
  if k = [103, 105, 100] then ⟨{ m with gid := (atNum x).1 }, n, (atNum x).2⟩
  else if k = [117, 105, 100] then ⟨{ m with uid := (atNum x).1 }, n, (atNum x).2⟩
  else if k = [115, 105, 122, 101] then ⟨m, (atNum x).1, (atNum x).2⟩
  else if k = [109, 116, 105, 109, 101] then ⟨{ m with sec := (stParse x).1.1, nsec := (stParse x).1.2 }, n, (stParse x).2⟩
  else if 0 ∈ x then ⟨m, n, 2⟩
  else if k = [103, 110, 97, 109, 101] then ⟨{ m with gname := x }, n, 0⟩
  else if k = [117, 110, 97, 109, 101] then ⟨{ m with uname := x }, n, 0⟩
  else if k = [112, 97, 116, 104] then ⟨{ m with name := x }, n, 0⟩
  else ⟨{ m with link := x }, n, 0⟩
/-- A member, a size, the records besides, an error's number. -/
structure ApR where
  m : Mb
  n : Int
  l : List Pr
  e : Int
def apRun : List Pr → Mb → Int → List Pr → ApR
  | [], m, n, L => ⟨m, n, L, 0⟩
  | p :: r, m, n, L =>
    if isKnown p.1 = true then (if (apK p.1 p.2 m n).e = 0 then apRun r (apK p.1 p.2 m n).m (apK p.1 p.2 m n).n L else ⟨mZero, 0, [], (apK p.1 p.2 m n).e⟩)
    else apRun r m n (L ++ [p])
theorem apRun_ok {l : List Pr} {k : Nat} (hk : k < l.length) {m : Mb} {n : Int} {L : List Pr} (h : isKnown l[k].1 = true) (h0 : (apK l[k].1 l[k].2 m n).e = 0) :
    apRun (l.drop k) m n L = apRun (l.drop (k + 1)) (apK l[k].1 l[k].2 m n).m (apK l[k].1 l[k].2 m n).n L := by
  rw [List.drop_eq_getElem_cons hk, apRun, if_pos h, if_pos h0]
theorem apRun_bad {l : List Pr} {k : Nat} (hk : k < l.length) {m : Mb} {n : Int} {L : List Pr} (h : isKnown l[k].1 = true) (h0 : (apK l[k].1 l[k].2 m n).e ≠ 0) :
    apRun (l.drop k) m n L = ⟨mZero, 0, [], (apK l[k].1 l[k].2 m n).e⟩ := by
  rw [List.drop_eq_getElem_cons hk, apRun, if_pos h, if_neg h0]
theorem apRun_new {l : List Pr} {k : Nat} (hk : k < l.length) {m : Mb} {n : Int} {L : List Pr} (h : isKnown l[k].1 = false) :
    apRun (l.drop k) m n L = apRun (l.drop (k + 1)) m n (L ++ [l[k]]) := by
  rw [List.drop_eq_getElem_cons hk, apRun, if_neg (by rw [h]; decide)]
theorem apRun_end {l : List Pr} {m : Mb} {n : Int} {L : List Pr} : apRun (l.drop l.length) m n L = ⟨m, n, L, 0⟩ := by
  rw [List.drop_length]; rfl

def zField : Value := .agg #[.nilFunc, .nilFunc, .nilFunc]
theorem zero_field (w : World) : (zeroValue 85).run Tryz.prog w = .ok zField w := by kernel_rfl
theorem known_has (t : Tbl) (x : List UInt8) : Maps.has (knownD t) (.string x) = isKnown x := by
  have hk : ∀ a : List UInt8, (Lit.string a).sameKey (.string x) = (a == x) := fun a => rfl
  rw [knownD_eq]
  unfold Maps.has isKnown
  simp only [hk, List.any_cons, List.any_nil]
  rw [Bool.eq_iff_iff]
  simp only [Bool.or_eq_true, beq_iff_eq, decide_eq_true_eq, Bool.or_false]
  exact or_congr eq_comm (or_congr eq_comm (or_congr eq_comm (or_congr eq_comm (or_congr eq_comm (or_congr eq_comm (or_congr eq_comm (eq_comm)))))))
theorem known_at (t : Tbl) (x : List UInt8) (zd : DataW Value) (h : isKnown x = false) : (knownD t).atKey (.string x) zd = zd := by
  have hk : ∀ a : List UInt8, (Lit.string a).sameKey (.string x) = (a == x) := fun a => rfl
  unfold isKnown at h
  have h2 := of_decide_eq_false h
  rw [knownD_eq]
  unfold DataW.atKey
  simp only [List.find?_cons, hk, List.find?_nil]
  rw [beq_eq_false_iff_ne.2 (fun e => h2 (.inl e.symm)), beq_eq_false_iff_ne.2 (fun e => h2 (.inr (.inl e.symm))), beq_eq_false_iff_ne.2 (fun e => h2 (.inr (.inr (.inl e.symm)))), beq_eq_false_iff_ne.2 (fun e => h2 (.inr (.inr (.inr (.inl e.symm))))), beq_eq_false_iff_ne.2 (fun e => h2 (.inr (.inr (.inr (.inr (.inl e.symm)))))), beq_eq_false_iff_ne.2 (fun e => h2 (.inr (.inr (.inr (.inr (.inr (.inl e.symm))))))), beq_eq_false_iff_ne.2 (fun e => h2 (.inr (.inr (.inr (.inr (.inr (.inr (.inl e.symm)))))))), beq_eq_false_iff_ne.2 (fun e => h2 (.inr (.inr (.inr (.inr (.inr (.inr (.inr e.symm)))))))) ]

/-- A look with 'ok' into a map of whatever elements. -/
theorem wpList_look_held {P : Program} (w : World) {ops : Array Oper} {rest : List Oper} {o : Oper} {a : Act} {Q : Exit → Act → World → Prop} (hg : o.guard = none) (m x : Operand) (t : TypeId) (hop : o.op = Op.lookup t m x true)
    (k e : TypeId) (K : Keyed P k) (ht : P.underlying t = some (.map k e)) {z : Value} (hz : (zeroValue e).run P w = .ok z w) (b n : Nat) (D : DataW Value)
    (hm : a.eval m = .map (some b)) (hown : w.ownsMap P k heldElem b n D) (key : Value) (kl : Lit) (hx : a.eval x = key) (hkey : keyOf P k key = some kl) (c : Value) (bb : Bool)
    (hc : D.atKey kl (.held z) = .held c) (hb : Maps.has D kl = bb)
    (hK : wpList P ops Q rest (a.put o.dst (.tuple #[c, .bool bb])) w) :
    wpList P ops Q (o :: rest) a w :=
  wpList_lookup_own_ok w hg m x t hop k e K ht heldElem hz (.held z) [] rfl b n D hm hown key kl hx hkey (fun v ps hv => by
    have h1 : DataW.held v = D.atKey kl (.held z) := congrArg Prod.fst (Option.some.inj hv)
    rw [hc] at h1
    obtain rfl : v = c := DataW.held.inj h1
    rw [hb]
    exact hK)

/-- The parts, while the records are gone through. -/
def apCells (m : Mb) (v : Value) (n : Int) : List Value := (m.ex v).cells ++ [.int .i64 n] ++ Hd.zero.cells
theorem DvK.grownBy {W w : World} {p : Nat} (h : DvK W w p p) : W.grownBy w (some p) :=
  ⟨h.os, h.tape, h.output, h.size, fun k hk hn => h.block k hk (fun e => hn (by rw [e])) (fun e => hn (by rw [e]))⟩
/-- What a setter does. -/
abbrev Sets (f : Nat) (args : Array Value) (b : Nat) (v : Value) (w : World) (A : Ap) : Prop := Calls Tryz.prog f args w fun e w' => w.grownBy w' (some b) ∧ Holds w' b 78 (apCells A.m v A.n) ∧ e = .returned (.int .i64 A.e)
theorem apK_gid (y : List UInt8) (m : Mb) (n : Int) : apK [103, 105, 100] y m n = ⟨{ m with gid := (atNum y).1 }, n, (atNum y).2⟩ := by
  unfold apK
  simp
theorem apSetGid (m : Mb) (v : Value) (n : Int) (y : List UInt8) (hl : y.length ≤ maxLen) (b c : Nat) (w : World) (hh : Holds w b 78 (apCells m v n)) (hc : Holds w c 154 [.func (.func 73) #[] #[]]) :
    Sets 128 #[.pointer (some ⟨b, 0, none⟩), .string ⟨y.toArray⟩, .pointer (some ⟨c, 0, none⟩)] b v w (apK [103, 105, 100] y m n) := by
  rw [apK_gid]
  exact setGid_any (apCells m v n) y m.gid rfl hl b c w hh hc
theorem apK_uid (y : List UInt8) (m : Mb) (n : Int) : apK [117, 105, 100] y m n = ⟨{ m with uid := (atNum y).1 }, n, (atNum y).2⟩ := by
  unfold apK
  simp
theorem apSetUid (m : Mb) (v : Value) (n : Int) (y : List UInt8) (hl : y.length ≤ maxLen) (b c : Nat) (w : World) (hh : Holds w b 78 (apCells m v n)) (hc : Holds w c 154 [.func (.func 80) #[] #[]]) :
    Sets 128 #[.pointer (some ⟨b, 0, none⟩), .string ⟨y.toArray⟩, .pointer (some ⟨c, 0, none⟩)] b v w (apK [117, 105, 100] y m n) := by
  rw [apK_uid]
  exact setUid_any (apCells m v n) y m.uid rfl hl b c w hh hc
theorem apK_size (y : List UInt8) (m : Mb) (n : Int) : apK [115, 105, 122, 101] y m n = ⟨m, (atNum y).1, (atNum y).2⟩ := by
  unfold apK
  simp
theorem apSetSize (m : Mb) (v : Value) (n : Int) (y : List UInt8) (hl : y.length ≤ maxLen) (b c : Nat) (w : World) (hh : Holds w b 78 (apCells m v n)) (hc : Holds w c 154 [.func (.func 79) #[] #[]]) :
    Sets 128 #[.pointer (some ⟨b, 0, none⟩), .string ⟨y.toArray⟩, .pointer (some ⟨c, 0, none⟩)] b v w (apK [115, 105, 122, 101] y m n) := by
  rw [apK_size]
  exact setSize_any (apCells m v n) y n rfl hl b c w hh hc
theorem apK_mtime (y : List UInt8) (m : Mb) (n : Int) : apK [109, 116, 105, 109, 101] y m n = ⟨{ m with sec := (stParse y).1.1, nsec := (stParse y).1.2 }, n, (stParse y).2⟩ := by
  unfold apK
  simp
theorem apSetTime (m : Mb) (v : Value) (n : Int) (y : List UInt8) (hl : y.length ≤ maxLen) (b : Nat) (w : World) (hh : Holds w b 78 (apCells m v n)) :
    Sets 139 #[.pointer (some ⟨b, 0, none⟩), .string ⟨y.toArray⟩] b v w (apK [109, 116, 105, 109, 101] y m n) := by
  rw [apK_mtime]
  exact setTime_any (apCells m v n) y m.sec m.nsec rfl rfl hl b w hh
theorem apK_gname (y : List UInt8) (m : Mb) (n : Int) : apK [103, 110, 97, 109, 101] y m n = if 0 ∈ y then ⟨m, n, 2⟩ else ⟨{ m with gname := y }, n, 0⟩ := by
  unfold apK
  simp
theorem apSetGname (m : Mb) (v : Value) (n : Int) (y : List UInt8) (b c : Nat) (w : World) (hh : Holds w b 78 (apCells m v n)) (hc : Holds w c 156 [.func (.func 75) #[] #[]]) :
    Sets 134 #[.pointer (some ⟨b, 0, none⟩), .string ⟨y.toArray⟩, .pointer (some ⟨c, 0, none⟩)] b v w (apK [103, 110, 97, 109, 101] y m n) := by
  rw [apK_gname]
  have h := setGname_any (apCells m v n) y m.gname rfl b c w hh hc
  by_cases h0 : 0 ∈ y
  · rw [if_pos h0] at h ⊢
    rw [if_pos h0] at h
    exact h
  · rw [if_neg h0] at h ⊢
    rw [if_neg h0] at h
    exact h
theorem apK_uname (y : List UInt8) (m : Mb) (n : Int) : apK [117, 110, 97, 109, 101] y m n = if 0 ∈ y then ⟨m, n, 2⟩ else ⟨{ m with uname := y }, n, 0⟩ := by
  unfold apK
  simp
theorem apSetUname (m : Mb) (v : Value) (n : Int) (y : List UInt8) (b c : Nat) (w : World) (hh : Holds w b 78 (apCells m v n)) (hc : Holds w c 156 [.func (.func 81) #[] #[]]) :
    Sets 134 #[.pointer (some ⟨b, 0, none⟩), .string ⟨y.toArray⟩, .pointer (some ⟨c, 0, none⟩)] b v w (apK [117, 110, 97, 109, 101] y m n) := by
  rw [apK_uname]
  have h := setUname_any (apCells m v n) y m.uname rfl b c w hh hc
  by_cases h0 : 0 ∈ y
  · rw [if_pos h0] at h ⊢
    rw [if_pos h0] at h
    exact h
  · rw [if_neg h0] at h ⊢
    rw [if_neg h0] at h
    exact h
theorem apK_path (y : List UInt8) (m : Mb) (n : Int) : apK [112, 97, 116, 104] y m n = if 0 ∈ y then ⟨m, n, 2⟩ else ⟨{ m with name := y }, n, 0⟩ := by
  unfold apK
  simp
theorem apSetPath (m : Mb) (v : Value) (n : Int) (y : List UInt8) (b c : Nat) (w : World) (hh : Holds w b 78 (apCells m v n)) (hc : Holds w c 156 [.func (.func 78) #[] #[]]) :
    Sets 134 #[.pointer (some ⟨b, 0, none⟩), .string ⟨y.toArray⟩, .pointer (some ⟨c, 0, none⟩)] b v w (apK [112, 97, 116, 104] y m n) := by
  rw [apK_path]
  have h := setPath_any (apCells m v n) y m.name rfl b c w hh hc
  by_cases h0 : 0 ∈ y
  · rw [if_pos h0] at h ⊢
    rw [if_pos h0] at h
    exact h
  · rw [if_neg h0] at h ⊢
    rw [if_neg h0] at h
    exact h
theorem apK_linkpath (y : List UInt8) (m : Mb) (n : Int) : apK [108, 105, 110, 107, 112, 97, 116, 104] y m n = if 0 ∈ y then ⟨m, n, 2⟩ else ⟨{ m with link := y }, n, 0⟩ := by
  unfold apK
  simp
theorem apSetLink (m : Mb) (v : Value) (n : Int) (y : List UInt8) (b c : Nat) (w : World) (hh : Holds w b 78 (apCells m v n)) (hc : Holds w c 156 [.func (.func 76) #[] #[]]) :
    Sets 134 #[.pointer (some ⟨b, 0, none⟩), .string ⟨y.toArray⟩, .pointer (some ⟨c, 0, none⟩)] b v w (apK [108, 105, 110, 107, 112, 97, 116, 104] y m n) := by
  rw [apK_linkpath]
  have h := setLink_any (apCells m v n) y m.link rfl b c w hh hc
  by_cases h0 : 0 ∈ y
  · rw [if_pos h0] at h ⊢
    rw [if_pos h0] at h
    exact h
  · rw [if_neg h0] at h ⊢
    rw [if_neg h0] at h
    exact h
end Go.Proofs.YtjmmecokfijglaaGreatDoor
namespace Go.Proofs.YtjmmecokfijglaaGreatDoor
open Go.ChangeShapes Go.WideShapes Go.ChangeAt Go.RowKit Go.Maps

theorem builtZ : Tryz.prog.built 34 [] = some mZero.cells.toArray := by kernel_rfl
theorem infoMb : (Tryz.prog.info? 34).map (fun i => (i.zero, i.size)) = some (some (.agg mZero.cells.toArray), 14) := by kernel_rfl
theorem mb_size (m : Mb) : (Tryz.prog.info? 34).map (·.size) = some m.cells.toArray.size := by
  rw [show m.cells.toArray.size = 14 from rfl]; exact (zero_of_info infoMb).2
theorem mb_one (m : Mb) (v : Value) (hv : v.oneCell' = true) : (m.ex v).cells.toArray.all (·.oneCell') = true := by
  simp [Mb.ex, Mb.cells, Value.oneCell']
  exact hv

def ApPost (W : World) (R : ApR) (e : Ending) (w' : World) : Prop := Below W.heap.size W w' ∧ ∃ v, e = .returned (.tuple #[(R.m.ex v).val, .int .i64 R.n, .int .i64 R.e]) ∧ OwnP w' W.heap.size v R.l
end Go.Proofs.YtjmmecokfijglaaGreatDoor
