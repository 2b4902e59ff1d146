/-
  Texts of this seat's proof, joined: their order is that of the build.
-/
import Derived.Test.YtjmmecokfijglaaGreatDoorJB18
import Derived.Test.YtjmmecokfijglaaGreatDoorJB23
namespace Go.Proofs.YtjmmecokfijglaaGreatDoor
open Go.ChangeShapes Go.WideShapes Go.ChangeAt Go.RowKit Go.Maps

/-- A right member, with a size that may be. -/
structure DvIn (m : Mb) (n : Int) : Prop where
  zName : 0 ∉ m.name
  zLink : 0 ∉ m.link
  zUname : 0 ∉ m.uname
  zGname : 0 ∉ m.gname
  mode : 0 ≤ m.mode ∧ m.mode ≤ 2097151
  major : 0 ≤ m.major ∧ m.major ≤ 2097151
  minor : 0 ≤ m.minor ∧ m.minor ≤ 2097151
  uid : 0 ≤ m.uid ∧ m.uid ≤ 9007199254740991
  gid : 0 ≤ m.gid ∧ m.gid ≤ 9007199254740991
  stamp : stRight m.sec m.nsec = true
  size : 0 ≤ n ∧ n ≤ 9007199254740991
  lName : m.name.length ≤ 70368744177664
  lLink : m.link.length ≤ 70368744177664
  lUname : m.uname.length ≤ 70368744177664
  lGname : m.gname.length ≤ 70368744177664

/-- Does a key's field fit into a head? -/
def dvFits (m : Mb) (n : Int) (k : List UInt8) : Bool :=
  if k = [103, 105, 100] then inN m.gid 2097152
  else if k = [103, 110, 97, 109, 101] then decide (m.gname.length ≤ 32)
  else if k = [108, 105, 110, 107, 112, 97, 116, 104] then decide (m.link.length ≤ 100)
  else if k = [109, 116, 105, 109, 101] then (decide (m.nsec = 0) && inN m.sec 8589934592)
  else if k = [112, 97, 116, 104] then (txtPart m.name).isSome
  else if k = [115, 105, 122, 101] then inN n 8589934592
  else if k = [117, 105, 100] then inN m.uid 2097152
  else decide (m.uname.length ≤ 32)
theorem dvFits_Gid (m : Mb) (n : Int) : dvFits m n [103, 105, 100] = inN m.gid 2097152 := by unfold dvFits; simp
theorem dvFits_Gname (m : Mb) (n : Int) : dvFits m n [103, 110, 97, 109, 101] = decide (m.gname.length ≤ 32) := by unfold dvFits; simp
theorem dvFits_Link (m : Mb) (n : Int) : dvFits m n [108, 105, 110, 107, 112, 97, 116, 104] = decide (m.link.length ≤ 100) := by unfold dvFits; simp
theorem dvFits_Time (m : Mb) (n : Int) : dvFits m n [109, 116, 105, 109, 101] = (decide (m.nsec = 0) && inN m.sec 8589934592) := by unfold dvFits; simp
theorem dvFits_Name (m : Mb) (n : Int) : dvFits m n [112, 97, 116, 104] = (txtPart m.name).isSome := by unfold dvFits; simp
theorem dvFits_Size (m : Mb) (n : Int) : dvFits m n [115, 105, 122, 101] = inN n 8589934592 := by unfold dvFits; simp
theorem dvFits_Uid (m : Mb) (n : Int) : dvFits m n [117, 105, 100] = inN m.uid 2097152 := by unfold dvFits; simp
theorem dvFits_Uname (m : Mb) (n : Int) : dvFits m n [117, 110, 97, 109, 101] = decide (m.uname.length ≤ 32) := by unfold dvFits; simp
/-- All keys, with the texts of their records. -/
def dvAll (m : Mb) (n : Int) : List Pr := [([103, 105, 100], Lib.decDigits m.gid.toNat), ([103, 110, 97, 109, 101], m.gname), ([108, 105, 110, 107, 112, 97, 116, 104], m.link), ([109, 116, 105, 109, 101], stText m.sec m.nsec), ([112, 97, 116, 104], m.name), ([115, 105, 122, 101], Lib.decDigits n.toNat), ([117, 105, 100], Lib.decDigits m.uid.toNat), ([117, 110, 97, 109, 101], m.uname)]
/-- The wanted records, rising by keys. -/
def dvRec (m : Mb) (n : Int) : List Pr := (dvAll m n).filter fun p => !dvFits m n p.1
theorem dvAll_rising (m : Mb) (n : Int) : Rising (dvAll m n) := by
  unfold dvAll
  generalize Lib.decDigits m.gid.toNat = a0
  generalize Lib.decDigits m.uid.toNat = a1
  generalize Lib.decDigits n.toNat = a2
  generalize stText m.sec m.nsec = a3
  simp [Rising, bytesBefore]
theorem dvRec_rising (m : Mb) (n : Int) : Rising (dvRec m n) := (dvAll_rising m n).filter _
theorem rising_one {l : List Pr} (h : Rising l) {p q : Pr} (hp : p ∈ l) (hq : q ∈ l) (e : p.1 = q.1) : p = q := by
  induction l with
  | nil => cases hp
  | cons x l ih =>
    obtain ⟨h1, h2⟩ := List.pairwise_cons.1 h
    rcases List.mem_cons.1 hp with e1 | hp1
    · rcases List.mem_cons.1 hq with e2 | hq1
      · rw [e1, e2]
      · exact absurd e (by rw [e1]; exact before_ne (h1 q hq1))
    · rcases List.mem_cons.1 hq with e2 | hq1
      · exact absurd e.symm (by rw [e2]; exact before_ne (h1 p hp1))
      · exact ih h2 hp1 hq1
theorem dvRec_mem {m : Mb} {n : Int} {p : Pr} : p ∈ dvRec m n ↔ p ∈ dvAll m n ∧ dvFits m n p.1 = false := by
  unfold dvRec; rw [List.mem_filter]; simp
theorem dvRec_none {m : Mb} {n : Int} {k : List UInt8} (h : dvFits m n k = true) : ∀ p ∈ dvRec m n, p.1 ≠ k := fun p hp e => by
  have := (dvRec_mem.1 hp).2
  rw [e, h] at this
  cases this
theorem dvRec_some {m : Mb} {n : Int} {k t : List UInt8} (hk : (k, t) ∈ dvAll m n) (h : dvFits m n k = false) : (k, t) ∈ dvRec m n := dvRec_mem.2 ⟨hk, h⟩

def pickL (a b : Bool) (v : List UInt8) : List UInt8 := if a then [] else if b then v else []
def pickI (a b : Bool) (v : Int) : Int := if a then 0 else if b then v else 0
theorem pickL_t (b : Bool) (v : List UInt8) : pickL true b v = [] := rfl
theorem pickI_t (b : Bool) (v : Int) : pickI true b v = 0 := rfl
theorem pickL_f (v : List UInt8) (a : Bool) : pickL a false v = [] := by cases a <;> rfl
theorem pickI_f (v : Int) (a : Bool) : pickI a false v = 0 := by cases a <;> rfl
/-- The head while some keys are left. -/
def dvHd (m : Mb) (n : Int) (left : Lit → Bool) : Hd :=
  ⟨pickL (left (.string [112, 97, 116, 104])) (dvFits m n [112, 97, 116, 104]) m.name, pickL (left (.string [108, 105, 110, 107, 112, 97, 116, 104])) (dvFits m n [108, 105, 110, 107, 112, 97, 116, 104]) m.link, m.kind, m.mode, pickI (left (.string [117, 105, 100])) (dvFits m n [117, 105, 100]) m.uid,
    pickI (left (.string [103, 105, 100])) (dvFits m n [103, 105, 100]) m.gid, pickI (left (.string [115, 105, 122, 101])) (dvFits m n [115, 105, 122, 101]) n, pickI (left (.string [109, 116, 105, 109, 101])) (dvFits m n [109, 116, 105, 109, 101]) m.sec,
    pickL (left (.string [117, 110, 97, 109, 101])) (dvFits m n [117, 110, 97, 109, 101]) m.uname, pickL (left (.string [103, 110, 97, 109, 101])) (dvFits m n [103, 110, 97, 109, 101]) m.gname, m.major, m.minor, 2⟩
/-- A head whose fields all fit. -/
structure HdGood (h : Hd) : Prop where
  zName : 0 ∉ h.name
  zLink : 0 ∉ h.link
  zUname : 0 ∉ h.uname
  zGname : 0 ∉ h.gname
  lLink : h.link.length ≤ 100
  lUname : h.uname.length ≤ 32
  lGname : h.gname.length ≤ 32
  part : (txtPart h.name).isSome = true
  nName : h.name.length ≤ 9223372036854775807
  mode : 0 ≤ h.mode ∧ h.mode < 2097152
  uid : 0 ≤ h.uid ∧ h.uid < 2097152
  gid : 0 ≤ h.gid ∧ h.gid < 2097152
  major : 0 ≤ h.major ∧ h.major < 2097152
  minor : 0 ≤ h.minor ∧ h.minor < 2097152
  size : 0 ≤ h.size ∧ h.size < 8589934592
  time : 0 ≤ h.time ∧ h.time < 8589934592
theorem hd_okN {h : Hd} (h0 : -9223372036854775808 ≤ h.mode ∧ h.mode ≤ 9223372036854775807) (h1 : -9223372036854775808 ≤ h.uid ∧ h.uid ≤ 9223372036854775807) (h2 : -9223372036854775808 ≤ h.gid ∧ h.gid ≤ 9223372036854775807) (h3 : -9223372036854775808 ≤ h.size ∧ h.size ≤ 9223372036854775807)
    (h4 : -9223372036854775808 ≤ h.time ∧ h.time ≤ 9223372036854775807) (h5 : -9223372036854775808 ≤ h.major ∧ h.major ≤ 9223372036854775807) (h6 : -9223372036854775808 ≤ h.minor ∧ h.minor ≤ 9223372036854775807) : h.okN := by
  intro k hk
  rcases lt7 hk with rfl | rfl | rfl | rfl | rfl | rfl | rfl
  · exact h0
  · exact h1
  · exact h2
  · exact h3
  · exact h4
  · exact h5
  · exact h6
theorem hdFits_zero (h : Hd) (hok : h.okN) : (hdFits h == 0) = (decide (0 ∉ h.link ∧ 0 ∉ h.uname ∧ 0 ∉ h.gname ∧ 0 ∉ h.name) && (decide (h.link.length ≤ 100) && (decide (h.uname.length ≤ 32) && (decide (h.gname.length ≤ 32) && ((txtPart h.name).isSome &&
    (inN h.mode 2097152 && (inN h.uid 2097152 && (inN h.gid 2097152 && (inN h.major 2097152 && (inN h.minor 2097152 && (inN h.size 8589934592 && inN h.time 8589934592))))))))))) := by
  have hn : hdNul h = !decide (0 ∉ h.link ∧ 0 ∉ h.uname ∧ 0 ∉ h.gname ∧ 0 ∉ h.name) := by
    unfold hdNul
    rw [Bool.eq_iff_iff]
    simp only [Bool.not_eq_true', decide_eq_true_eq, decide_eq_false_iff_not]
    by_cases a : 0 ∈ h.link <;> by_cases b : 0 ∈ h.uname <;> by_cases c : 0 ∈ h.gname <;> by_cases d : 0 ∈ h.name <;> simp [a, b, c, d]
  have ht : hdTexts h = (decide (h.link.length ≤ 100) && (decide (h.uname.length ≤ 32) && (decide (h.gname.length ≤ 32) && (txtPart h.name).isSome))) := by
    unfold hdTexts
    rw [Bool.eq_iff_iff]
    simp
  unfold hdFits
  rw [hn, ht, hdNums_all h hok]
  generalize decide (0 ∉ h.link ∧ 0 ∉ h.uname ∧ 0 ∉ h.gname ∧ 0 ∉ h.name) = a
  generalize decide (h.link.length ≤ 100) = b
  generalize decide (h.uname.length ≤ 32) = c
  generalize decide (h.gname.length ≤ 32) = d
  generalize (txtPart h.name).isSome = e
  generalize (inN h.mode 2097152 && (inN h.uid 2097152 && (inN h.gid 2097152 && (inN h.major 2097152 && (inN h.minor 2097152 && (inN h.size 8589934592 && inN h.time 8589934592)))))) = f
  cases a <;> cases b <;> cases c <;> cases d <;> cases e <;> cases f <;> rfl
theorem inN_true {v m : Int} (h : 0 ≤ v ∧ v < m) : inN v m = true := decide_eq_true h
theorem HdGood.okN {h : Hd} (g : HdGood h) : h.okN := by
  obtain ⟨_, _, _, _, _, _, _, _, _, a, b, c, d, e, f, i⟩ := g
  exact hd_okN (by omega) (by omega) (by omega) (by omega) (by omega) (by omega) (by omega)
theorem HdGood.fits {h : Hd} (g : HdGood h) : hdFits h = 0 := by
  have := hdFits_zero h g.okN
  rw [decide_eq_true ⟨g.zLink, g.zUname, g.zGname, g.zName⟩, decide_eq_true g.lLink, decide_eq_true g.lUname, decide_eq_true g.lGname, g.part, inN_true g.mode, inN_true g.uid, inN_true g.gid, inN_true g.major, inN_true g.minor, inN_true g.size, inN_true g.time] at this
  simpa using this
theorem pickL_nul {a b : Bool} {v : List UInt8} (h : 0 ∉ v) : 0 ∉ pickL a b v := by
  unfold pickL; split
  · simp
  · split
    · exact h
    · simp
theorem pickL_len {a b : Bool} {v : List UInt8} {k : Nat} (h : b = true → v.length ≤ k) : (pickL a b v).length ≤ k := by
  unfold pickL; split
  · simp
  · split
    · next hb => exact h hb
    · simp
theorem pickL_part {a b : Bool} {v : List UInt8} (h : b = true → (txtPart v).isSome = true) : (txtPart (pickL a b v)).isSome = true := by
  unfold pickL; split
  · rfl
  · split
    · next hb => exact h hb
    · rfl
theorem pickI_in {a b : Bool} {v m : Int} (hm : 0 < m) (h : b = true → 0 ≤ v ∧ v < m) : 0 ≤ pickI a b v ∧ pickI a b v < m := by
  unfold pickI; split
  · omega
  · split
    · next hb => exact h hb
    · omega
theorem dvHd_good {m : Mb} {n : Int} (h : DvIn m n) (left : Lit → Bool) : HdGood (dvHd m n left) where
  zName := pickL_nul h.zName
  zLink := pickL_nul h.zLink
  zUname := pickL_nul h.zUname
  zGname := pickL_nul h.zGname
  lLink := pickL_len (fun e => by rw [dvFits_Link] at e; exact of_decide_eq_true e)
  lUname := pickL_len (fun e => by rw [dvFits_Uname] at e; exact of_decide_eq_true e)
  lGname := pickL_len (fun e => by rw [dvFits_Gname] at e; exact of_decide_eq_true e)
  part := pickL_part (fun e => by rw [dvFits_Name] at e; exact e)
  nName := pickL_len (fun _ => by have := h.lName; omega)
  mode := by have := h.mode; show 0 ≤ m.mode ∧ m.mode < 2097152; omega
  uid := pickI_in (by decide) (fun e => by rw [dvFits_Uid] at e; exact of_decide_eq_true e)
  gid := pickI_in (by decide) (fun e => by rw [dvFits_Gid] at e; exact of_decide_eq_true e)
  major := by have := h.major; show 0 ≤ m.major ∧ m.major < 2097152; omega
  minor := by have := h.minor; show 0 ≤ m.minor ∧ m.minor < 2097152; omega
  size := pickI_in (by decide) (fun e => by rw [dvFits_Size] at e; exact of_decide_eq_true e)
  time := pickI_in (by decide) (fun e => by rw [dvFits_Time, Bool.and_eq_true] at e; exact of_decide_eq_true e.2)

/-- What is left, without one key. -/
abbrev leftOut (left : Lit → Bool) (k : List UInt8) : Lit → Bool := fun y => left y && !y.sameKey (.string k)
theorem leftOut_other {left : Lit → Bool} {x y : List UInt8} (h : (y == x) = false) : leftOut left x (.string y) = left (.string y) := leftGone h
theorem leftOut_own {left : Lit → Bool} {x : List UInt8} : leftOut left x (.string x) = false := by
  have e : (Lit.string x).sameKey (.string x) = (x == x) := rfl
  show (left (.string x) && !(Lit.string x).sameKey (.string x)) = false
  rw [e]; simp
theorem dvPut_Gid {m : Mb} {n : Int} (h : DvIn m n) {left : Lit → Bool} (hl : left (.string [103, 105, 100]) = true) :
    (dvHd m n left).gid = 0 ∧ ({ dvHd m n left with gid := m.gid } : Hd).okN ∧ ({ dvHd m n left with gid := m.gid } : Hd).name.length ≤ 9223372036854775807 ∧ (hdFits { dvHd m n left with gid := m.gid } == 0) = dvFits m n [103, 105, 100] ∧ putEnd (dvHd m n left) { dvHd m n left with gid := m.gid } = dvHd m n (leftOut left [103, 105, 100]) := by
  have g := dvHd_good h left
  have e0 : (dvHd m n left).gid = 0 := by unfold dvHd; simp only [hl]; rfl
  have hok : ({ dvHd m n left with gid := m.gid } : Hd).okN := by
    have hv := h.gid
    obtain ⟨_, _, _, _, _, _, _, _, _, a, b, c, d, e, f, i⟩ := g
    exact hd_okN (by first | (show _ ≤ m.gid ∧ m.gid ≤ _; omega) | (simp only; omega)) (by first | (show _ ≤ m.gid ∧ m.gid ≤ _; omega) | (simp only; omega)) (by first | (show _ ≤ m.gid ∧ m.gid ≤ _; omega) | (simp only; omega)) (by first | (show _ ≤ m.gid ∧ m.gid ≤ _; omega) | (simp only; omega)) (by simp only; omega) (by simp only; omega) (by simp only; omega)
  have hf : (hdFits { dvHd m n left with gid := m.gid } == 0) = dvFits m n [103, 105, 100] := by
    rw [hdFits_zero _ hok, dvFits_Gid]
    have hz := decide_eq_true (p := 0 ∉ (dvHd m n left).link ∧ 0 ∉ (dvHd m n left).uname ∧ 0 ∉ (dvHd m n left).gname ∧ 0 ∉ (dvHd m n left).name) ⟨g.zLink, g.zUname, g.zGname, g.zName⟩
    simp only [hz, decide_eq_true g.lLink, decide_eq_true g.lUname, decide_eq_true g.lGname, g.part, inN_true g.mode, inN_true g.uid, inN_true g.major, inN_true g.minor, inN_true g.size, inN_true g.time, Bool.true_and, Bool.and_true]
  refine ⟨e0, hok, g.nName, hf, ?_⟩
  have hd : dvHd m n (leftOut left [103, 105, 100]) = { dvHd m n left with gid := pickI false (dvFits m n [103, 105, 100]) m.gid } := by
    unfold dvHd
    rw [leftOut_own, leftOut_other (left := left) (x := [103, 105, 100]) (y := [103, 110, 97, 109, 101]) (by decide), leftOut_other (left := left) (x := [103, 105, 100]) (y := [108, 105, 110, 107, 112, 97, 116, 104]) (by decide), leftOut_other (left := left) (x := [103, 105, 100]) (y := [109, 116, 105, 109, 101]) (by decide), leftOut_other (left := left) (x := [103, 105, 100]) (y := [112, 97, 116, 104]) (by decide), leftOut_other (left := left) (x := [103, 105, 100]) (y := [115, 105, 122, 101]) (by decide), leftOut_other (left := left) (x := [103, 105, 100]) (y := [117, 105, 100]) (by decide), leftOut_other (left := left) (x := [103, 105, 100]) (y := [117, 110, 97, 109, 101]) (by decide)]
  rw [hd]
  unfold putEnd
  cases hc : dvFits m n [103, 105, 100] with
  | true =>
    rw [hc] at hf
    rw [if_pos (by simpa using hf)]; rfl
  | false =>
    rw [hc] at hf
    rw [if_neg (by simpa using hf)]
    show _ = ({ dvHd m n left with gid := 0 } : Hd)
    rw [← e0]
theorem dvPut_Gname {m : Mb} {n : Int} (h : DvIn m n) {left : Lit → Bool} (hl : left (.string [103, 110, 97, 109, 101]) = true) :
    (dvHd m n left).gname = [] ∧ ({ dvHd m n left with gname := m.gname } : Hd).okN ∧ ({ dvHd m n left with gname := m.gname } : Hd).name.length ≤ 9223372036854775807 ∧ (hdFits { dvHd m n left with gname := m.gname } == 0) = dvFits m n [103, 110, 97, 109, 101] ∧ putEnd (dvHd m n left) { dvHd m n left with gname := m.gname } = dvHd m n (leftOut left [103, 110, 97, 109, 101]) := by
  have g := dvHd_good h left
  have e0 : (dvHd m n left).gname = [] := by unfold dvHd; simp only [hl]; rfl
  have hok : ({ dvHd m n left with gname := m.gname } : Hd).okN := by
    exact g.okN
  have hf : (hdFits { dvHd m n left with gname := m.gname } == 0) = dvFits m n [103, 110, 97, 109, 101] := by
    rw [hdFits_zero _ hok, dvFits_Gname]
    have hz := decide_eq_true (p := 0 ∉ (dvHd m n left).link ∧ 0 ∉ (dvHd m n left).uname ∧ 0 ∉ m.gname ∧ 0 ∉ (dvHd m n left).name) ⟨g.zLink, g.zUname, h.zGname, g.zName⟩
    simp only [hz, decide_eq_true g.lLink, decide_eq_true g.lUname, g.part, inN_true g.mode, inN_true g.uid, inN_true g.gid, inN_true g.major, inN_true g.minor, inN_true g.size, inN_true g.time, Bool.true_and, Bool.and_true]
  refine ⟨e0, hok, g.nName, hf, ?_⟩
  have hd : dvHd m n (leftOut left [103, 110, 97, 109, 101]) = { dvHd m n left with gname := pickL false (dvFits m n [103, 110, 97, 109, 101]) m.gname } := by
    unfold dvHd
    rw [leftOut_own, leftOut_other (left := left) (x := [103, 110, 97, 109, 101]) (y := [103, 105, 100]) (by decide), leftOut_other (left := left) (x := [103, 110, 97, 109, 101]) (y := [108, 105, 110, 107, 112, 97, 116, 104]) (by decide), leftOut_other (left := left) (x := [103, 110, 97, 109, 101]) (y := [109, 116, 105, 109, 101]) (by decide), leftOut_other (left := left) (x := [103, 110, 97, 109, 101]) (y := [112, 97, 116, 104]) (by decide), leftOut_other (left := left) (x := [103, 110, 97, 109, 101]) (y := [115, 105, 122, 101]) (by decide), leftOut_other (left := left) (x := [103, 110, 97, 109, 101]) (y := [117, 105, 100]) (by decide), leftOut_other (left := left) (x := [103, 110, 97, 109, 101]) (y := [117, 110, 97, 109, 101]) (by decide)]
  rw [hd]
  unfold putEnd
  cases hc : dvFits m n [103, 110, 97, 109, 101] with
  | true =>
    rw [hc] at hf
    rw [if_pos (by simpa using hf)]; rfl
  | false =>
    rw [hc] at hf
    rw [if_neg (by simpa using hf)]
    show _ = ({ dvHd m n left with gname := [] } : Hd)
    rw [← e0]
theorem dvPut_Link {m : Mb} {n : Int} (h : DvIn m n) {left : Lit → Bool} (hl : left (.string [108, 105, 110, 107, 112, 97, 116, 104]) = true) :
    (dvHd m n left).link = [] ∧ ({ dvHd m n left with link := m.link } : Hd).okN ∧ ({ dvHd m n left with link := m.link } : Hd).name.length ≤ 9223372036854775807 ∧ (hdFits { dvHd m n left with link := m.link } == 0) = dvFits m n [108, 105, 110, 107, 112, 97, 116, 104] ∧ putEnd (dvHd m n left) { dvHd m n left with link := m.link } = dvHd m n (leftOut left [108, 105, 110, 107, 112, 97, 116, 104]) := by
  have g := dvHd_good h left
  have e0 : (dvHd m n left).link = [] := by unfold dvHd; simp only [hl]; rfl
  have hok : ({ dvHd m n left with link := m.link } : Hd).okN := by
    exact g.okN
  have hf : (hdFits { dvHd m n left with link := m.link } == 0) = dvFits m n [108, 105, 110, 107, 112, 97, 116, 104] := by
    rw [hdFits_zero _ hok, dvFits_Link]
    have hz := decide_eq_true (p := 0 ∉ m.link ∧ 0 ∉ (dvHd m n left).uname ∧ 0 ∉ (dvHd m n left).gname ∧ 0 ∉ (dvHd m n left).name) ⟨h.zLink, g.zUname, g.zGname, g.zName⟩
    simp only [hz, decide_eq_true g.lUname, decide_eq_true g.lGname, g.part, inN_true g.mode, inN_true g.uid, inN_true g.gid, inN_true g.major, inN_true g.minor, inN_true g.size, inN_true g.time, Bool.true_and, Bool.and_true]
  refine ⟨e0, hok, g.nName, hf, ?_⟩
  have hd : dvHd m n (leftOut left [108, 105, 110, 107, 112, 97, 116, 104]) = { dvHd m n left with link := pickL false (dvFits m n [108, 105, 110, 107, 112, 97, 116, 104]) m.link } := by
    unfold dvHd
    rw [leftOut_own, leftOut_other (left := left) (x := [108, 105, 110, 107, 112, 97, 116, 104]) (y := [103, 105, 100]) (by decide), leftOut_other (left := left) (x := [108, 105, 110, 107, 112, 97, 116, 104]) (y := [103, 110, 97, 109, 101]) (by decide), leftOut_other (left := left) (x := [108, 105, 110, 107, 112, 97, 116, 104]) (y := [109, 116, 105, 109, 101]) (by decide), leftOut_other (left := left) (x := [108, 105, 110, 107, 112, 97, 116, 104]) (y := [112, 97, 116, 104]) (by decide), leftOut_other (left := left) (x := [108, 105, 110, 107, 112, 97, 116, 104]) (y := [115, 105, 122, 101]) (by decide), leftOut_other (left := left) (x := [108, 105, 110, 107, 112, 97, 116, 104]) (y := [117, 105, 100]) (by decide), leftOut_other (left := left) (x := [108, 105, 110, 107, 112, 97, 116, 104]) (y := [117, 110, 97, 109, 101]) (by decide)]
  rw [hd]
  unfold putEnd
  cases hc : dvFits m n [108, 105, 110, 107, 112, 97, 116, 104] with
  | true =>
    rw [hc] at hf
    rw [if_pos (by simpa using hf)]; rfl
  | false =>
    rw [hc] at hf
    rw [if_neg (by simpa using hf)]
    show _ = ({ dvHd m n left with link := [] } : Hd)
    rw [← e0]
theorem dvPut_Name {m : Mb} {n : Int} (h : DvIn m n) {left : Lit → Bool} (hl : left (.string [112, 97, 116, 104]) = true) :
    (dvHd m n left).name = [] ∧ ({ dvHd m n left with name := m.name } : Hd).okN ∧ ({ dvHd m n left with name := m.name } : Hd).name.length ≤ 9223372036854775807 ∧ (hdFits { dvHd m n left with name := m.name } == 0) = dvFits m n [112, 97, 116, 104] ∧ putEnd (dvHd m n left) { dvHd m n left with name := m.name } = dvHd m n (leftOut left [112, 97, 116, 104]) := by
  have g := dvHd_good h left
  have e0 : (dvHd m n left).name = [] := by unfold dvHd; simp only [hl]; rfl
  have hok : ({ dvHd m n left with name := m.name } : Hd).okN := by
    exact g.okN
  have hf : (hdFits { dvHd m n left with name := m.name } == 0) = dvFits m n [112, 97, 116, 104] := by
    rw [hdFits_zero _ hok, dvFits_Name]
    have hz := decide_eq_true (p := 0 ∉ (dvHd m n left).link ∧ 0 ∉ (dvHd m n left).uname ∧ 0 ∉ (dvHd m n left).gname ∧ 0 ∉ m.name) ⟨g.zLink, g.zUname, g.zGname, h.zName⟩
    simp only [hz, decide_eq_true g.lLink, decide_eq_true g.lUname, decide_eq_true g.lGname, inN_true g.mode, inN_true g.uid, inN_true g.gid, inN_true g.major, inN_true g.minor, inN_true g.size, inN_true g.time, Bool.true_and, Bool.and_true]
  refine ⟨e0, hok, by have := h.lName; show m.name.length ≤ _; omega, hf, ?_⟩
  have hd : dvHd m n (leftOut left [112, 97, 116, 104]) = { dvHd m n left with name := pickL false (dvFits m n [112, 97, 116, 104]) m.name } := by
    unfold dvHd
    rw [leftOut_own, leftOut_other (left := left) (x := [112, 97, 116, 104]) (y := [103, 105, 100]) (by decide), leftOut_other (left := left) (x := [112, 97, 116, 104]) (y := [103, 110, 97, 109, 101]) (by decide), leftOut_other (left := left) (x := [112, 97, 116, 104]) (y := [108, 105, 110, 107, 112, 97, 116, 104]) (by decide), leftOut_other (left := left) (x := [112, 97, 116, 104]) (y := [109, 116, 105, 109, 101]) (by decide), leftOut_other (left := left) (x := [112, 97, 116, 104]) (y := [115, 105, 122, 101]) (by decide), leftOut_other (left := left) (x := [112, 97, 116, 104]) (y := [117, 105, 100]) (by decide), leftOut_other (left := left) (x := [112, 97, 116, 104]) (y := [117, 110, 97, 109, 101]) (by decide)]
  rw [hd]
  unfold putEnd
  cases hc : dvFits m n [112, 97, 116, 104] with
  | true =>
    rw [hc] at hf
    rw [if_pos (by simpa using hf)]; rfl
  | false =>
    rw [hc] at hf
    rw [if_neg (by simpa using hf)]
    show _ = ({ dvHd m n left with name := [] } : Hd)
    rw [← e0]
theorem dvPut_Size {m : Mb} {n : Int} (h : DvIn m n) {left : Lit → Bool} (hl : left (.string [115, 105, 122, 101]) = true) :
    (dvHd m n left).size = 0 ∧ ({ dvHd m n left with size := n } : Hd).okN ∧ ({ dvHd m n left with size := n } : Hd).name.length ≤ 9223372036854775807 ∧ (hdFits { dvHd m n left with size := n } == 0) = dvFits m n [115, 105, 122, 101] ∧ putEnd (dvHd m n left) { dvHd m n left with size := n } = dvHd m n (leftOut left [115, 105, 122, 101]) := by
  have g := dvHd_good h left
  have e0 : (dvHd m n left).size = 0 := by unfold dvHd; simp only [hl]; rfl
  have hok : ({ dvHd m n left with size := n } : Hd).okN := by
    have hv := h.size
    obtain ⟨_, _, _, _, _, _, _, _, _, a, b, c, d, e, f, i⟩ := g
    exact hd_okN (by first | (show _ ≤ n ∧ n ≤ _; omega) | (simp only; omega)) (by first | (show _ ≤ n ∧ n ≤ _; omega) | (simp only; omega)) (by first | (show _ ≤ n ∧ n ≤ _; omega) | (simp only; omega)) (by first | (show _ ≤ n ∧ n ≤ _; omega) | (simp only; omega)) (by simp only; omega) (by simp only; omega) (by simp only; omega)
  have hf : (hdFits { dvHd m n left with size := n } == 0) = dvFits m n [115, 105, 122, 101] := by
    rw [hdFits_zero _ hok, dvFits_Size]
    have hz := decide_eq_true (p := 0 ∉ (dvHd m n left).link ∧ 0 ∉ (dvHd m n left).uname ∧ 0 ∉ (dvHd m n left).gname ∧ 0 ∉ (dvHd m n left).name) ⟨g.zLink, g.zUname, g.zGname, g.zName⟩
    simp only [hz, decide_eq_true g.lLink, decide_eq_true g.lUname, decide_eq_true g.lGname, g.part, inN_true g.mode, inN_true g.uid, inN_true g.gid, inN_true g.major, inN_true g.minor, inN_true g.time, Bool.true_and, Bool.and_true]
  refine ⟨e0, hok, g.nName, hf, ?_⟩
  have hd : dvHd m n (leftOut left [115, 105, 122, 101]) = { dvHd m n left with size := pickI false (dvFits m n [115, 105, 122, 101]) n } := by
    unfold dvHd
    rw [leftOut_own, leftOut_other (left := left) (x := [115, 105, 122, 101]) (y := [103, 105, 100]) (by decide), leftOut_other (left := left) (x := [115, 105, 122, 101]) (y := [103, 110, 97, 109, 101]) (by decide), leftOut_other (left := left) (x := [115, 105, 122, 101]) (y := [108, 105, 110, 107, 112, 97, 116, 104]) (by decide), leftOut_other (left := left) (x := [115, 105, 122, 101]) (y := [109, 116, 105, 109, 101]) (by decide), leftOut_other (left := left) (x := [115, 105, 122, 101]) (y := [112, 97, 116, 104]) (by decide), leftOut_other (left := left) (x := [115, 105, 122, 101]) (y := [117, 105, 100]) (by decide), leftOut_other (left := left) (x := [115, 105, 122, 101]) (y := [117, 110, 97, 109, 101]) (by decide)]
  rw [hd]
  unfold putEnd
  cases hc : dvFits m n [115, 105, 122, 101] with
  | true =>
    rw [hc] at hf
    rw [if_pos (by simpa using hf)]; rfl
  | false =>
    rw [hc] at hf
    rw [if_neg (by simpa using hf)]
    show _ = ({ dvHd m n left with size := 0 } : Hd)
    rw [← e0]
theorem dvPut_Uid {m : Mb} {n : Int} (h : DvIn m n) {left : Lit → Bool} (hl : left (.string [117, 105, 100]) = true) :
    (dvHd m n left).uid = 0 ∧ ({ dvHd m n left with uid := m.uid } : Hd).okN ∧ ({ dvHd m n left with uid := m.uid } : Hd).name.length ≤ 9223372036854775807 ∧ (hdFits { dvHd m n left with uid := m.uid } == 0) = dvFits m n [117, 105, 100] ∧ putEnd (dvHd m n left) { dvHd m n left with uid := m.uid } = dvHd m n (leftOut left [117, 105, 100]) := by
  have g := dvHd_good h left
  have e0 : (dvHd m n left).uid = 0 := by unfold dvHd; simp only [hl]; rfl
  have hok : ({ dvHd m n left with uid := m.uid } : Hd).okN := by
    have hv := h.uid
    obtain ⟨_, _, _, _, _, _, _, _, _, a, b, c, d, e, f, i⟩ := g
    exact hd_okN (by first | (show _ ≤ m.uid ∧ m.uid ≤ _; omega) | (simp only; omega)) (by first | (show _ ≤ m.uid ∧ m.uid ≤ _; omega) | (simp only; omega)) (by first | (show _ ≤ m.uid ∧ m.uid ≤ _; omega) | (simp only; omega)) (by first | (show _ ≤ m.uid ∧ m.uid ≤ _; omega) | (simp only; omega)) (by simp only; omega) (by simp only; omega) (by simp only; omega)
  have hf : (hdFits { dvHd m n left with uid := m.uid } == 0) = dvFits m n [117, 105, 100] := by
    rw [hdFits_zero _ hok, dvFits_Uid]
    have hz := decide_eq_true (p := 0 ∉ (dvHd m n left).link ∧ 0 ∉ (dvHd m n left).uname ∧ 0 ∉ (dvHd m n left).gname ∧ 0 ∉ (dvHd m n left).name) ⟨g.zLink, g.zUname, g.zGname, g.zName⟩
    simp only [hz, decide_eq_true g.lLink, decide_eq_true g.lUname, decide_eq_true g.lGname, g.part, inN_true g.mode, inN_true g.gid, inN_true g.major, inN_true g.minor, inN_true g.size, inN_true g.time, Bool.true_and, Bool.and_true]
  refine ⟨e0, hok, g.nName, hf, ?_⟩
  have hd : dvHd m n (leftOut left [117, 105, 100]) = { dvHd m n left with uid := pickI false (dvFits m n [117, 105, 100]) m.uid } := by
    unfold dvHd
    rw [leftOut_own, leftOut_other (left := left) (x := [117, 105, 100]) (y := [103, 105, 100]) (by decide), leftOut_other (left := left) (x := [117, 105, 100]) (y := [103, 110, 97, 109, 101]) (by decide), leftOut_other (left := left) (x := [117, 105, 100]) (y := [108, 105, 110, 107, 112, 97, 116, 104]) (by decide), leftOut_other (left := left) (x := [117, 105, 100]) (y := [109, 116, 105, 109, 101]) (by decide), leftOut_other (left := left) (x := [117, 105, 100]) (y := [112, 97, 116, 104]) (by decide), leftOut_other (left := left) (x := [117, 105, 100]) (y := [115, 105, 122, 101]) (by decide), leftOut_other (left := left) (x := [117, 105, 100]) (y := [117, 110, 97, 109, 101]) (by decide)]
  rw [hd]
  unfold putEnd
  cases hc : dvFits m n [117, 105, 100] with
  | true =>
    rw [hc] at hf
    rw [if_pos (by simpa using hf)]; rfl
  | false =>
    rw [hc] at hf
    rw [if_neg (by simpa using hf)]
    show _ = ({ dvHd m n left with uid := 0 } : Hd)
    rw [← e0]
theorem dvPut_Uname {m : Mb} {n : Int} (h : DvIn m n) {left : Lit → Bool} (hl : left (.string [117, 110, 97, 109, 101]) = true) :
    (dvHd m n left).uname = [] ∧ ({ dvHd m n left with uname := m.uname } : Hd).okN ∧ ({ dvHd m n left with uname := m.uname } : Hd).name.length ≤ 9223372036854775807 ∧ (hdFits { dvHd m n left with uname := m.uname } == 0) = dvFits m n [117, 110, 97, 109, 101] ∧ putEnd (dvHd m n left) { dvHd m n left with uname := m.uname } = dvHd m n (leftOut left [117, 110, 97, 109, 101]) := by
  have g := dvHd_good h left
  have e0 : (dvHd m n left).uname = [] := by unfold dvHd; simp only [hl]; rfl
  have hok : ({ dvHd m n left with uname := m.uname } : Hd).okN := by
    exact g.okN
  have hf : (hdFits { dvHd m n left with uname := m.uname } == 0) = dvFits m n [117, 110, 97, 109, 101] := by
    rw [hdFits_zero _ hok, dvFits_Uname]
    have hz := decide_eq_true (p := 0 ∉ (dvHd m n left).link ∧ 0 ∉ m.uname ∧ 0 ∉ (dvHd m n left).gname ∧ 0 ∉ (dvHd m n left).name) ⟨g.zLink, h.zUname, g.zGname, g.zName⟩
    simp only [hz, decide_eq_true g.lLink, decide_eq_true g.lGname, g.part, inN_true g.mode, inN_true g.uid, inN_true g.gid, inN_true g.major, inN_true g.minor, inN_true g.size, inN_true g.time, Bool.true_and, Bool.and_true]
  refine ⟨e0, hok, g.nName, hf, ?_⟩
  have hd : dvHd m n (leftOut left [117, 110, 97, 109, 101]) = { dvHd m n left with uname := pickL false (dvFits m n [117, 110, 97, 109, 101]) m.uname } := by
    unfold dvHd
    rw [leftOut_own, leftOut_other (left := left) (x := [117, 110, 97, 109, 101]) (y := [103, 105, 100]) (by decide), leftOut_other (left := left) (x := [117, 110, 97, 109, 101]) (y := [103, 110, 97, 109, 101]) (by decide), leftOut_other (left := left) (x := [117, 110, 97, 109, 101]) (y := [108, 105, 110, 107, 112, 97, 116, 104]) (by decide), leftOut_other (left := left) (x := [117, 110, 97, 109, 101]) (y := [109, 116, 105, 109, 101]) (by decide), leftOut_other (left := left) (x := [117, 110, 97, 109, 101]) (y := [112, 97, 116, 104]) (by decide), leftOut_other (left := left) (x := [117, 110, 97, 109, 101]) (y := [115, 105, 122, 101]) (by decide), leftOut_other (left := left) (x := [117, 110, 97, 109, 101]) (y := [117, 105, 100]) (by decide)]
  rw [hd]
  unfold putEnd
  cases hc : dvFits m n [117, 110, 97, 109, 101] with
  | true =>
    rw [hc] at hf
    rw [if_pos (by simpa using hf)]; rfl
  | false =>
    rw [hc] at hf
    rw [if_neg (by simpa using hf)]
    show _ = ({ dvHd m n left with uname := [] } : Hd)
    rw [← e0]
theorem dvPut_Time {m : Mb} {n : Int} (h : DvIn m n) (h0 : m.nsec = 0) {left : Lit → Bool} (hl : left (.string [109, 116, 105, 109, 101]) = true) :
    (dvHd m n left).time = 0 ∧ ({ dvHd m n left with time := m.sec } : Hd).okN ∧ ({ dvHd m n left with time := m.sec } : Hd).name.length ≤ 9223372036854775807 ∧ (hdFits { dvHd m n left with time := m.sec } == 0) = dvFits m n [109, 116, 105, 109, 101] ∧ putEnd (dvHd m n left) { dvHd m n left with time := m.sec } = dvHd m n (leftOut left [109, 116, 105, 109, 101]) := by
  have g := dvHd_good h left
  have e0 : (dvHd m n left).time = 0 := by unfold dvHd; simp only [hl]; rfl
  have hok : ({ dvHd m n left with time := m.sec } : Hd).okN := by
    have hv := stRight_true h.stamp
    obtain ⟨_, _, _, _, _, _, _, _, _, a, b, c, d, e, f, i⟩ := g
    exact hd_okN (by simp only; omega) (by simp only; omega) (by simp only; omega) (by simp only; omega) (by simp only; omega) (by simp only; omega) (by simp only; omega)
  have hf : (hdFits { dvHd m n left with time := m.sec } == 0) = dvFits m n [109, 116, 105, 109, 101] := by
    rw [hdFits_zero _ hok, dvFits_Time]
    have hz := decide_eq_true (p := 0 ∉ (dvHd m n left).link ∧ 0 ∉ (dvHd m n left).uname ∧ 0 ∉ (dvHd m n left).gname ∧ 0 ∉ (dvHd m n left).name) ⟨g.zLink, g.zUname, g.zGname, g.zName⟩
    simp only [hz, decide_eq_true g.lLink, decide_eq_true g.lUname, decide_eq_true g.lGname, g.part, inN_true g.mode, inN_true g.uid, inN_true g.gid, inN_true g.major, inN_true g.minor, inN_true g.size, decide_eq_true h0, Bool.true_and]
  refine ⟨e0, hok, g.nName, hf, ?_⟩
  have hd : dvHd m n (leftOut left [109, 116, 105, 109, 101]) = { dvHd m n left with time := pickI false (dvFits m n [109, 116, 105, 109, 101]) m.sec } := by
    unfold dvHd
    rw [leftOut_own, leftOut_other (left := left) (x := [109, 116, 105, 109, 101]) (y := [103, 105, 100]) (by decide), leftOut_other (left := left) (x := [109, 116, 105, 109, 101]) (y := [103, 110, 97, 109, 101]) (by decide), leftOut_other (left := left) (x := [109, 116, 105, 109, 101]) (y := [108, 105, 110, 107, 112, 97, 116, 104]) (by decide), leftOut_other (left := left) (x := [109, 116, 105, 109, 101]) (y := [112, 97, 116, 104]) (by decide), leftOut_other (left := left) (x := [109, 116, 105, 109, 101]) (y := [115, 105, 122, 101]) (by decide), leftOut_other (left := left) (x := [109, 116, 105, 109, 101]) (y := [117, 105, 100]) (by decide), leftOut_other (left := left) (x := [109, 116, 105, 109, 101]) (y := [117, 110, 97, 109, 101]) (by decide)]
  rw [hd]
  unfold putEnd
  cases hc : dvFits m n [109, 116, 105, 109, 101] with
  | true =>
    rw [hc] at hf
    rw [if_pos (by simpa using hf)]; rfl
  | false =>
    rw [hc] at hf
    rw [if_neg (by simpa using hf)]
    show _ = ({ dvHd m n left with time := 0 } : Hd)
    rw [← e0]
theorem dvPut_TimeNo {m : Mb} {n : Int} (h0 : m.nsec ≠ 0) {left : Lit → Bool} (hl : left (.string [109, 116, 105, 109, 101]) = true) : dvFits m n [109, 116, 105, 109, 101] = false ∧ dvHd m n left = dvHd m n (leftOut left [109, 116, 105, 109, 101]) := by
  have hc : dvFits m n [109, 116, 105, 109, 101] = false := by rw [dvFits_Time, decide_eq_false h0]; rfl
  refine ⟨hc, ?_⟩
  have e0 : (dvHd m n left).time = 0 := by unfold dvHd; simp only [hl]; rfl
  have hd : dvHd m n (leftOut left [109, 116, 105, 109, 101]) = { dvHd m n left with time := pickI false (dvFits m n [109, 116, 105, 109, 101]) m.sec } := by
    unfold dvHd
    rw [leftOut_own, leftOut_other (left := left) (x := [109, 116, 105, 109, 101]) (y := [103, 105, 100]) (by decide), leftOut_other (left := left) (x := [109, 116, 105, 109, 101]) (y := [103, 110, 97, 109, 101]) (by decide), leftOut_other (left := left) (x := [109, 116, 105, 109, 101]) (y := [108, 105, 110, 107, 112, 97, 116, 104]) (by decide), leftOut_other (left := left) (x := [109, 116, 105, 109, 101]) (y := [112, 97, 116, 104]) (by decide), leftOut_other (left := left) (x := [109, 116, 105, 109, 101]) (y := [115, 105, 122, 101]) (by decide), leftOut_other (left := left) (x := [109, 116, 105, 109, 101]) (y := [117, 105, 100]) (by decide), leftOut_other (left := left) (x := [109, 116, 105, 109, 101]) (y := [117, 110, 97, 109, 101]) (by decide)]
  rw [hd, hc]
  show _ = ({ dvHd m n left with time := 0 } : Hd)
  rw [← e0]

def b2n (b : Bool) : Nat := if b then 0 else 1
/-- How many keys are gone. -/
def dvGone (left : Lit → Bool) : Nat := b2n (left (.string [103, 105, 100])) + b2n (left (.string [103, 110, 97, 109, 101])) + b2n (left (.string [108, 105, 110, 107, 112, 97, 116, 104])) + b2n (left (.string [109, 116, 105, 109, 101])) + b2n (left (.string [112, 97, 116, 104])) + b2n (left (.string [115, 105, 122, 101])) + b2n (left (.string [117, 105, 100])) + b2n (left (.string [117, 110, 97, 109, 101]))
theorem dvGone_le (left : Lit → Bool) : dvGone left ≤ 8 := by
  unfold dvGone
  have h : ∀ b, b2n b ≤ 1 := fun b => by cases b <;> decide
  have := h (left (.string [103, 105, 100]))
  have := h (left (.string [103, 110, 97, 109, 101]))
  have := h (left (.string [108, 105, 110, 107, 112, 97, 116, 104]))
  have := h (left (.string [109, 116, 105, 109, 101]))
  have := h (left (.string [112, 97, 116, 104]))
  have := h (left (.string [115, 105, 122, 101]))
  have := h (left (.string [117, 105, 100]))
  have := h (left (.string [117, 110, 97, 109, 101]))
  omega
theorem dvGone_Gid {left : Lit → Bool} (hl : left (.string [103, 105, 100]) = true) : dvGone left + 1 = dvGone (leftOut left [103, 105, 100]) := by
  unfold dvGone
  rw [leftOut_own, hl, leftOut_other (left := left) (x := [103, 105, 100]) (y := [103, 110, 97, 109, 101]) (by decide), leftOut_other (left := left) (x := [103, 105, 100]) (y := [108, 105, 110, 107, 112, 97, 116, 104]) (by decide), leftOut_other (left := left) (x := [103, 105, 100]) (y := [109, 116, 105, 109, 101]) (by decide), leftOut_other (left := left) (x := [103, 105, 100]) (y := [112, 97, 116, 104]) (by decide), leftOut_other (left := left) (x := [103, 105, 100]) (y := [115, 105, 122, 101]) (by decide), leftOut_other (left := left) (x := [103, 105, 100]) (y := [117, 105, 100]) (by decide), leftOut_other (left := left) (x := [103, 105, 100]) (y := [117, 110, 97, 109, 101]) (by decide)]
  (simp only [b2n, if_true, Bool.false_eq_true, if_false]) <;> omega
theorem dvGone_Gname {left : Lit → Bool} (hl : left (.string [103, 110, 97, 109, 101]) = true) : dvGone left + 1 = dvGone (leftOut left [103, 110, 97, 109, 101]) := by
  unfold dvGone
  rw [leftOut_own, hl, leftOut_other (left := left) (x := [103, 110, 97, 109, 101]) (y := [103, 105, 100]) (by decide), leftOut_other (left := left) (x := [103, 110, 97, 109, 101]) (y := [108, 105, 110, 107, 112, 97, 116, 104]) (by decide), leftOut_other (left := left) (x := [103, 110, 97, 109, 101]) (y := [109, 116, 105, 109, 101]) (by decide), leftOut_other (left := left) (x := [103, 110, 97, 109, 101]) (y := [112, 97, 116, 104]) (by decide), leftOut_other (left := left) (x := [103, 110, 97, 109, 101]) (y := [115, 105, 122, 101]) (by decide), leftOut_other (left := left) (x := [103, 110, 97, 109, 101]) (y := [117, 105, 100]) (by decide), leftOut_other (left := left) (x := [103, 110, 97, 109, 101]) (y := [117, 110, 97, 109, 101]) (by decide)]
  (simp only [b2n, if_true, Bool.false_eq_true, if_false]) <;> omega
theorem dvGone_Link {left : Lit → Bool} (hl : left (.string [108, 105, 110, 107, 112, 97, 116, 104]) = true) : dvGone left + 1 = dvGone (leftOut left [108, 105, 110, 107, 112, 97, 116, 104]) := by
  unfold dvGone
  rw [leftOut_own, hl, leftOut_other (left := left) (x := [108, 105, 110, 107, 112, 97, 116, 104]) (y := [103, 105, 100]) (by decide), leftOut_other (left := left) (x := [108, 105, 110, 107, 112, 97, 116, 104]) (y := [103, 110, 97, 109, 101]) (by decide), leftOut_other (left := left) (x := [108, 105, 110, 107, 112, 97, 116, 104]) (y := [109, 116, 105, 109, 101]) (by decide), leftOut_other (left := left) (x := [108, 105, 110, 107, 112, 97, 116, 104]) (y := [112, 97, 116, 104]) (by decide), leftOut_other (left := left) (x := [108, 105, 110, 107, 112, 97, 116, 104]) (y := [115, 105, 122, 101]) (by decide), leftOut_other (left := left) (x := [108, 105, 110, 107, 112, 97, 116, 104]) (y := [117, 105, 100]) (by decide), leftOut_other (left := left) (x := [108, 105, 110, 107, 112, 97, 116, 104]) (y := [117, 110, 97, 109, 101]) (by decide)]
  (simp only [b2n, if_true, Bool.false_eq_true, if_false]) <;> omega
theorem dvGone_Time {left : Lit → Bool} (hl : left (.string [109, 116, 105, 109, 101]) = true) : dvGone left + 1 = dvGone (leftOut left [109, 116, 105, 109, 101]) := by
  unfold dvGone
  rw [leftOut_own, hl, leftOut_other (left := left) (x := [109, 116, 105, 109, 101]) (y := [103, 105, 100]) (by decide), leftOut_other (left := left) (x := [109, 116, 105, 109, 101]) (y := [103, 110, 97, 109, 101]) (by decide), leftOut_other (left := left) (x := [109, 116, 105, 109, 101]) (y := [108, 105, 110, 107, 112, 97, 116, 104]) (by decide), leftOut_other (left := left) (x := [109, 116, 105, 109, 101]) (y := [112, 97, 116, 104]) (by decide), leftOut_other (left := left) (x := [109, 116, 105, 109, 101]) (y := [115, 105, 122, 101]) (by decide), leftOut_other (left := left) (x := [109, 116, 105, 109, 101]) (y := [117, 105, 100]) (by decide), leftOut_other (left := left) (x := [109, 116, 105, 109, 101]) (y := [117, 110, 97, 109, 101]) (by decide)]
  (simp only [b2n, if_true, Bool.false_eq_true, if_false]) <;> omega
theorem dvGone_Name {left : Lit → Bool} (hl : left (.string [112, 97, 116, 104]) = true) : dvGone left + 1 = dvGone (leftOut left [112, 97, 116, 104]) := by
  unfold dvGone
  rw [leftOut_own, hl, leftOut_other (left := left) (x := [112, 97, 116, 104]) (y := [103, 105, 100]) (by decide), leftOut_other (left := left) (x := [112, 97, 116, 104]) (y := [103, 110, 97, 109, 101]) (by decide), leftOut_other (left := left) (x := [112, 97, 116, 104]) (y := [108, 105, 110, 107, 112, 97, 116, 104]) (by decide), leftOut_other (left := left) (x := [112, 97, 116, 104]) (y := [109, 116, 105, 109, 101]) (by decide), leftOut_other (left := left) (x := [112, 97, 116, 104]) (y := [115, 105, 122, 101]) (by decide), leftOut_other (left := left) (x := [112, 97, 116, 104]) (y := [117, 105, 100]) (by decide), leftOut_other (left := left) (x := [112, 97, 116, 104]) (y := [117, 110, 97, 109, 101]) (by decide)]
  (simp only [b2n, if_true, Bool.false_eq_true, if_false]) <;> omega
theorem dvGone_Size {left : Lit → Bool} (hl : left (.string [115, 105, 122, 101]) = true) : dvGone left + 1 = dvGone (leftOut left [115, 105, 122, 101]) := by
  unfold dvGone
  rw [leftOut_own, hl, leftOut_other (left := left) (x := [115, 105, 122, 101]) (y := [103, 105, 100]) (by decide), leftOut_other (left := left) (x := [115, 105, 122, 101]) (y := [103, 110, 97, 109, 101]) (by decide), leftOut_other (left := left) (x := [115, 105, 122, 101]) (y := [108, 105, 110, 107, 112, 97, 116, 104]) (by decide), leftOut_other (left := left) (x := [115, 105, 122, 101]) (y := [109, 116, 105, 109, 101]) (by decide), leftOut_other (left := left) (x := [115, 105, 122, 101]) (y := [112, 97, 116, 104]) (by decide), leftOut_other (left := left) (x := [115, 105, 122, 101]) (y := [117, 105, 100]) (by decide), leftOut_other (left := left) (x := [115, 105, 122, 101]) (y := [117, 110, 97, 109, 101]) (by decide)]
  (simp only [b2n, if_true, Bool.false_eq_true, if_false]) <;> omega
theorem dvGone_Uid {left : Lit → Bool} (hl : left (.string [117, 105, 100]) = true) : dvGone left + 1 = dvGone (leftOut left [117, 105, 100]) := by
  unfold dvGone
  rw [leftOut_own, hl, leftOut_other (left := left) (x := [117, 105, 100]) (y := [103, 105, 100]) (by decide), leftOut_other (left := left) (x := [117, 105, 100]) (y := [103, 110, 97, 109, 101]) (by decide), leftOut_other (left := left) (x := [117, 105, 100]) (y := [108, 105, 110, 107, 112, 97, 116, 104]) (by decide), leftOut_other (left := left) (x := [117, 105, 100]) (y := [109, 116, 105, 109, 101]) (by decide), leftOut_other (left := left) (x := [117, 105, 100]) (y := [112, 97, 116, 104]) (by decide), leftOut_other (left := left) (x := [117, 105, 100]) (y := [115, 105, 122, 101]) (by decide), leftOut_other (left := left) (x := [117, 105, 100]) (y := [117, 110, 97, 109, 101]) (by decide)]
  (simp only [b2n, if_true, Bool.false_eq_true, if_false]) <;> omega
theorem dvGone_Uname {left : Lit → Bool} (hl : left (.string [117, 110, 97, 109, 101]) = true) : dvGone left + 1 = dvGone (leftOut left [117, 110, 97, 109, 101]) := by
  unfold dvGone
  rw [leftOut_own, hl, leftOut_other (left := left) (x := [117, 110, 97, 109, 101]) (y := [103, 105, 100]) (by decide), leftOut_other (left := left) (x := [117, 110, 97, 109, 101]) (y := [103, 110, 97, 109, 101]) (by decide), leftOut_other (left := left) (x := [117, 110, 97, 109, 101]) (y := [108, 105, 110, 107, 112, 97, 116, 104]) (by decide), leftOut_other (left := left) (x := [117, 110, 97, 109, 101]) (y := [109, 116, 105, 109, 101]) (by decide), leftOut_other (left := left) (x := [117, 110, 97, 109, 101]) (y := [112, 97, 116, 104]) (by decide), leftOut_other (left := left) (x := [117, 110, 97, 109, 101]) (y := [115, 105, 122, 101]) (by decide), leftOut_other (left := left) (x := [117, 110, 97, 109, 101]) (y := [117, 105, 100]) (by decide)]
  (simp only [b2n, if_true, Bool.false_eq_true, if_false]) <;> omega
/-- The wanted records that were found so far. -/
def DvF (m : Mb) (n : Int) (left : Lit → Bool) (F : List Pr) : Prop := (∀ p, p ∈ F ↔ p ∈ dvRec m n ∧ left (.string p.1) = false) ∧ F.Pairwise (fun p q => p.1 ≠ q.1) ∧ F.length ≤ dvGone left
theorem DvF.keep {m : Mb} {n : Int} {left : Lit → Bool} {F : List Pr} {k : List UInt8} (h : DvF m n left F) (hk : dvFits m n k = true) (hg : dvGone left + 1 = dvGone (leftOut left k)) : DvF m n (leftOut left k) F := by
  obtain ⟨h1, h2, h3⟩ := h
  refine ⟨fun p => ?_, h2, by omega⟩
  rw [h1]
  refine and_congr_right fun hp => ?_
  have hne := dvRec_none hk p hp
  rw [leftOut_other (by simpa using hne)]
theorem DvF.add {m : Mb} {n : Int} {left : Lit → Bool} {F : List Pr} {k t : List UInt8} (h : DvF m n left F) (hl : left (.string k) = true) (hk : (k, t) ∈ dvAll m n) (hf : dvFits m n k = false) (hg : dvGone left + 1 = dvGone (leftOut left k)) : DvF m n (leftOut left k) (F ++ [(k, t)]) := by
  obtain ⟨h1, h2, h3⟩ := h
  have hkr := dvRec_some hk hf
  refine ⟨fun p => ?_, ?_, by simp only [List.length_append, List.length_singleton]; omega⟩
  · rw [List.mem_append, List.mem_singleton, h1]
    by_cases hp : p.1 = k
    · constructor
      · rintro (⟨hr, hl2⟩ | rfl)
        · rw [hp, hl] at hl2; cases hl2
        · exact ⟨hkr, leftOut_own⟩
      · intro hh
        exact .inr (rising_one (dvRec_rising m n) hh.1 hkr hp)
    · rw [leftOut_other (by simpa using hp)]
      constructor
      · rintro (h | rfl)
        · exact h
        · exact absurd rfl hp
      · exact .inl
  · refine List.pairwise_append.2 ⟨h2, List.pairwise_singleton _ _, fun p hp q hq => ?_⟩
    obtain rfl := List.mem_singleton.1 hq
    intro e
    have := ((h1 p).1 hp).2
    rw [show p.1 = k from e, hl] at this
    cases this
theorem DvF.start {m : Mb} {n : Int} {left : Lit → Bool} (h : ∀ p ∈ dvAll m n, left (.string p.1) = true) : DvF m n left [] :=
  ⟨fun p => ⟨(fun h => by cases h), fun ⟨hr, hl⟩ => by rw [h p (dvRec_mem.1 hr).1] at hl; cases hl⟩, List.Pairwise.nil, Nat.zero_le _⟩
theorem DvF.all {m : Mb} {n : Int} {left : Lit → Bool} {F : List Pr} (h : DvF m n left F) (h0 : ∀ k, left k = false) : (∀ p, p ∈ F ↔ p ∈ dvRec m n) ∧ F.Pairwise (fun p q => p.1 ≠ q.1) ∧ F.length ≤ 8 :=
  ⟨fun p => by rw [h.1]; simp [h0], h.2.1, Nat.le_trans h.2.2 (dvGone_le left)⟩

theorem mIns_iff {p q : Pr} {l : List Pr} : q ∈ mIns p l ↔ q = p ∨ q ∈ l := by
  refine ⟨mIns_mem, fun h => ?_⟩
  induction l with
  | nil => simpa [mIns] using h
  | cons y r ih =>
    unfold mIns
    split
    · simpa using h
    · rcases h with rfl | h
      · exact List.mem_cons_of_mem _ (ih (.inl rfl))
      · rcases List.mem_cons.1 h with rfl | h
        · exact List.mem_cons_self
        · exact List.mem_cons_of_mem _ (ih (.inr h))
theorem mPut_iff {p q : Pr} {l : List Pr} : q ∈ mPut l p ↔ q = p ∨ (q ∈ l ∧ q.1 ≠ p.1) := by
  unfold mPut
  rw [mIns_iff, List.mem_filter]
  simp
theorem mAll_iff {q : Pr} (g : List Pr) : ∀ l : List Pr, g.Pairwise (fun p q => p.1 ≠ q.1) → (q ∈ mAll l g ↔ q ∈ g ∨ (q ∈ l ∧ ∀ p ∈ g, q.1 ≠ p.1)) := by
  induction g with
  | nil => intro l _; simp [mAll]
  | cons p g ih =>
    intro l h
    obtain ⟨h1, h2⟩ := List.pairwise_cons.1 h
    show q ∈ mAll (mPut l p) g ↔ _
    rw [ih _ h2, mPut_iff]
    constructor
    · rintro (h | ⟨rfl | ⟨h3, h4⟩, h5⟩)
      · exact .inl (List.mem_cons_of_mem _ h)
      · exact .inl List.mem_cons_self
      · exact .inr ⟨h3, fun p' hp' => by
          rcases List.mem_cons.1 hp' with rfl | hp'
          · exact h4
          · exact h5 _ hp'⟩
    · rintro (h | ⟨h3, h4⟩)
      · rcases List.mem_cons.1 h with rfl | h
        · exact .inr ⟨.inl rfl, fun p' hp' => h1 p' hp'⟩
        · exact .inl h
      · exact .inr ⟨.inr ⟨h3, h4 p List.mem_cons_self⟩, fun p' hp' => h4 _ (List.mem_cons_of_mem _ hp')⟩
theorem rising_ext : ∀ {a b : List Pr}, Rising a → Rising b → (∀ q, q ∈ a ↔ q ∈ b) → a = b
  | [], [], _, _, _ => rfl
  | [], y :: b, _, _, h => by have := (h y).2 List.mem_cons_self; cases this
  | x :: a, [], _, _, h => by have := (h x).1 List.mem_cons_self; cases this
  | x :: a, y :: b, ha, hb, h => by
    obtain ⟨a1, a2⟩ := List.pairwise_cons.1 ha
    obtain ⟨b1, b2⟩ := List.pairwise_cons.1 hb
    have e : x = y := by
      rcases List.mem_cons.1 ((h x).1 List.mem_cons_self) with e | hx
      · exact e
      · rcases List.mem_cons.1 ((h y).2 List.mem_cons_self) with e | hy
        · exact e.symm
        · have := before_asymm (b1 x hx)
          rw [a1 y hy] at this
          cases this
    subst e
    rw [rising_ext a2 b2 (fun q => ?_)]
    constructor
    · intro hq
      rcases List.mem_cons.1 ((h q).1 (List.mem_cons_of_mem _ hq)) with rfl | hq2
      · have := a1 q hq; rw [before_irrefl] at this; cases this
      · exact hq2
    · intro hq
      rcases List.mem_cons.1 ((h q).2 (List.mem_cons_of_mem _ hq)) with rfl | hq2
      · have := b1 q hq; rw [before_irrefl] at this; cases this
      · exact hq2
theorem mMerge_same {X F G : List Pr} (hF : F.Pairwise (fun p q => p.1 ≠ q.1)) (hG : G.Pairwise (fun p q => p.1 ≠ q.1)) (h : ∀ q, q ∈ F ↔ q ∈ G) : mMerge X F = mMerge X G := by
  refine rising_ext (mMerge_rising X F) (mMerge_rising X G) fun q => ?_
  unfold mMerge
  rw [List.mem_filter, List.mem_filter, mAll_iff F _ hF, mAll_iff G _ hG, h]
  refine and_congr_left fun _ => or_congr Iff.rfl (and_congr_right fun _ => ?_)
  exact ⟨fun hh p hp => hh p ((h p).2 hp), fun hh p hp => hh p ((h p).1 hp)⟩
theorem rising_apart {l : List Pr} (h : Rising l) : l.Pairwise (fun p q => p.1 ≠ q.1) := h.imp fun hb => before_ne hb
theorem DvF.merge {m : Mb} {n : Int} {left : Lit → Bool} {F : List Pr} (h : DvF m n left F) (h0 : ∀ k, left k = false) (X : List Pr) : mMerge X F = mMerge X (dvRec m n) :=
  mMerge_same (h.all h0).2.1 (rising_apart (dvRec_rising m n)) (h.all h0).1
theorem digits16 {v : Int} (h : 0 ≤ v ∧ v ≤ 9007199254740991) : (Lib.decDigits v.toNat).length ≤ 16 := decDigits_length16 _ (by omega)
theorem dvAll_fits {m : Mb} {n : Int} (h : DvIn m n) (hs : (stText m.sec m.nsec).length ≤ 64) : prFits 140737488355328 (dvAll m n) := by
  have h1 := digits16 h.gid
  have h2 := digits16 h.uid
  have h3 := digits16 h.size
  have h4 := h.lName
  have h5 := h.lLink
  have h6 := h.lUname
  have h7 := h.lGname
  intro p hp
  unfold dvAll at hp
  simp only [List.mem_cons, List.mem_nil_iff, or_false] at hp
  rcases hp with rfl | rfl | rfl | rfl | rfl | rfl | rfl | rfl <;> simp only [List.length_cons, List.length_nil] <;> omega
end Go.Proofs.YtjmmecokfijglaaGreatDoor
