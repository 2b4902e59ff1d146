/-
  Texts of this seat's proof, joined: their order is that of the build.
-/
import Derived.Test.YtjmmecokfijglaaGreatDoorJB24
import Derived.Test.YtjmmecokfijglaaGreatDoorJB25
import Derived.Test.YtjmmecokfijglaaGreatDoorJB26
namespace Go.Proofs.YtjmmecokfijglaaGreatDoor
open Go.ChangeShapes Go.WideShapes Go.ChangeAt Go.RowKit Go.Maps

theorem atNum_back {v : Int} (h : 0 ≤ v ∧ v ≤ 9007199254740991) : atNum (Lib.decDigits v.toNat) = (v, 0) := by
  obtain ⟨h1, h2, h3⟩ := decDigits_dig v.toNat
  have hn : numD 0 (Lib.decDigits v.toNat) = v := by rw [h3]; simp; omega
  rw [atNum_ok (areDig_all h2 (digits16 h) h1) (by rw [hn]; omega), hn]
theorem exRight_facts : ∀ (X : List Pr) (last : List UInt8), exRight last X = true → Rising X ∧ ∀ q ∈ X, bytesBefore last q.1 = true ∧ isKnown q.1 = false ∧ 61 ∉ q.1 ∧ q.2 ≠ []
  | [], _, _ => ⟨List.Pairwise.nil, fun q h => by cases h⟩
  | x :: X, last, h => by
    unfold exRight at h
    simp only [Bool.and_eq_true, Bool.not_eq_true', decide_eq_false_iff_not, List.isEmpty_eq_false_iff] at h
    obtain ⟨⟨⟨⟨h1, h2⟩, h3⟩, h4⟩, h5⟩ := h
    obtain ⟨r1, r2⟩ := exRight_facts X x.1 h5
    refine ⟨List.pairwise_cons.2 ⟨fun q hq => (r2 q hq).1, r1⟩, fun q hq => ?_⟩
    rcases List.mem_cons.1 hq with rfl | hq
    · exact ⟨h1, h2, h3, h4⟩
    · obtain ⟨a, b, c, d⟩ := r2 q hq
      exact ⟨before_trans h1 a, b, c, d⟩

/-- The member that comes back. -/
def bkM (m : Mb) : Mb := ⟨m.name, m.link, hdKind m.kind, m.mode, m.uid, m.gid, m.uname, m.gname, m.major, m.minor, m.sec, m.nsec, .slice none 0 0, []⟩
/-- What stands already is right, and the rest comes. -/
structure Agree (m : Mb) (n : Int) (l : List Pr) (m0 : Mb) (n0 : Int) : Prop where
  hGid : m0.gid = m.gid ∨ (([103, 105, 100], Lib.decDigits m.gid.toNat) : Pr) ∈ l
  hGname : m0.gname = m.gname ∨ (([103, 110, 97, 109, 101], m.gname) : Pr) ∈ l
  hLink : m0.link = m.link ∨ (([108, 105, 110, 107, 112, 97, 116, 104], m.link) : Pr) ∈ l
  hTime : (m0.sec = m.sec ∧ m0.nsec = m.nsec) ∨ (([109, 116, 105, 109, 101], stText m.sec m.nsec) : Pr) ∈ l
  hName : m0.name = m.name ∨ (([112, 97, 116, 104], m.name) : Pr) ∈ l
  hSize : n0 = n ∨ (([115, 105, 122, 101], Lib.decDigits n.toNat) : Pr) ∈ l
  hUid : m0.uid = m.uid ∨ (([117, 105, 100], Lib.decDigits m.uid.toNat) : Pr) ∈ l
  hUname : m0.uname = m.uname ∨ (([117, 110, 97, 109, 101], m.uname) : Pr) ∈ l
  hKind : m0.kind = hdKind m.kind
  hMode : m0.mode = m.mode
  hMajor : m0.major = m.major
  hMinor : m0.minor = m.minor
  hExtra : m0.extra = .slice none 0 0
  hData : m0.data = []
theorem Agree.end {m m0 : Mb} {n n0 : Int} (h : Agree m n [] m0 n0) : m0 = bkM m ∧ n0 = n := by
  have no : ∀ q : Pr, ¬ q ∈ ([] : List Pr) := fun q hq => by cases hq
  have eGid := h.hGid.resolve_right (no _)
  have eGname := h.hGname.resolve_right (no _)
  have eLink := h.hLink.resolve_right (no _)
  have eTime := h.hTime.resolve_right (no _)
  have eName := h.hName.resolve_right (no _)
  have eSize := h.hSize.resolve_right (no _)
  have eUid := h.hUid.resolve_right (no _)
  have eUname := h.hUname.resolve_right (no _)
  obtain ⟨f1, f2, f3, f4, f5, f6⟩ := And.intro h.hKind (And.intro h.hMode (And.intro h.hMajor (And.intro h.hMinor (And.intro h.hExtra h.hData))))
  refine ⟨?_, eSize⟩
  obtain ⟨xnm, xlk, xkd, xmd, xui, xgi, xun, xgn, xmj, xmi, xse, xns, xex, xda⟩ := m0
  simp only at eGid eGname eLink eTime eName eUid eUname f1 f2 f3 f4 f5 f6
  obtain ⟨e1, e2⟩ := eTime
  subst eGid eGname eLink eName eUid eUname f1 f2 f3 f4 f5 f6 e1 e2
  rfl
theorem mem_drop {k t : List UInt8} {p : Pr} {r : List Pr} (h : ((k, t) : Pr) ∈ p :: r) (hk : k ≠ p.1) : ((k, t) : Pr) ∈ r := by
  rcases List.mem_cons.1 h with rfl | h
  · exact absurd rfl hk
  · exact h
theorem Agree.skip {m m0 : Mb} {n n0 : Int} {p : Pr} {r : List Pr} (h : Agree m n (p :: r) m0 n0) (hk : isKnown p.1 = false) : Agree m n r m0 n0 where
  hGid := h.hGid.imp id (fun hm => mem_drop hm (fun e => by rw [← e] at hk; cases hk))
  hGname := h.hGname.imp id (fun hm => mem_drop hm (fun e => by rw [← e] at hk; cases hk))
  hLink := h.hLink.imp id (fun hm => mem_drop hm (fun e => by rw [← e] at hk; cases hk))
  hTime := h.hTime.imp id (fun hm => mem_drop hm (fun e => by rw [← e] at hk; cases hk))
  hName := h.hName.imp id (fun hm => mem_drop hm (fun e => by rw [← e] at hk; cases hk))
  hSize := h.hSize.imp id (fun hm => mem_drop hm (fun e => by rw [← e] at hk; cases hk))
  hUid := h.hUid.imp id (fun hm => mem_drop hm (fun e => by rw [← e] at hk; cases hk))
  hUname := h.hUname.imp id (fun hm => mem_drop hm (fun e => by rw [← e] at hk; cases hk))
  hKind := h.hKind
  hMode := h.hMode
  hMajor := h.hMajor
  hMinor := h.hMinor
  hExtra := h.hExtra
  hData := h.hData
theorem Agree.putGid {m m0 : Mb} {n n0 : Int} {r : List Pr} (hin : DvIn m n) (h : Agree m n (([103, 105, 100], Lib.decDigits m.gid.toNat) :: r) m0 n0) : (apK [103, 105, 100] (Lib.decDigits m.gid.toNat) m0 n0).e = 0 ∧ Agree m n r (apK [103, 105, 100] (Lib.decDigits m.gid.toNat) m0 n0).m (apK [103, 105, 100] (Lib.decDigits m.gid.toNat) m0 n0).n := by
  rw [apK_gid, atNum_back hin.gid]
  exact ⟨rfl, {
    hGid := .inl rfl
    hGname := h.hGname.imp id (fun hm => mem_drop hm (by simp))
    hLink := h.hLink.imp id (fun hm => mem_drop hm (by simp))
    hTime := h.hTime.imp id (fun hm => mem_drop hm (by simp))
    hName := h.hName.imp id (fun hm => mem_drop hm (by simp))
    hSize := h.hSize.imp id (fun hm => mem_drop hm (by simp))
    hUid := h.hUid.imp id (fun hm => mem_drop hm (by simp))
    hUname := h.hUname.imp id (fun hm => mem_drop hm (by simp))
    hKind := h.hKind
    hMode := h.hMode
    hMajor := h.hMajor
    hMinor := h.hMinor
    hExtra := h.hExtra
    hData := h.hData
  }⟩
theorem Agree.putGname {m m0 : Mb} {n n0 : Int} {r : List Pr} (hin : DvIn m n) (h : Agree m n (([103, 110, 97, 109, 101], m.gname) :: r) m0 n0) : (apK [103, 110, 97, 109, 101] (m.gname) m0 n0).e = 0 ∧ Agree m n r (apK [103, 110, 97, 109, 101] (m.gname) m0 n0).m (apK [103, 110, 97, 109, 101] (m.gname) m0 n0).n := by
  rw [apK_gname, if_neg hin.zGname]
  exact ⟨rfl, {
    hGid := h.hGid.imp id (fun hm => mem_drop hm (by simp))
    hGname := .inl rfl
    hLink := h.hLink.imp id (fun hm => mem_drop hm (by simp))
    hTime := h.hTime.imp id (fun hm => mem_drop hm (by simp))
    hName := h.hName.imp id (fun hm => mem_drop hm (by simp))
    hSize := h.hSize.imp id (fun hm => mem_drop hm (by simp))
    hUid := h.hUid.imp id (fun hm => mem_drop hm (by simp))
    hUname := h.hUname.imp id (fun hm => mem_drop hm (by simp))
    hKind := h.hKind
    hMode := h.hMode
    hMajor := h.hMajor
    hMinor := h.hMinor
    hExtra := h.hExtra
    hData := h.hData
  }⟩
theorem Agree.putLink {m m0 : Mb} {n n0 : Int} {r : List Pr} (hin : DvIn m n) (h : Agree m n (([108, 105, 110, 107, 112, 97, 116, 104], m.link) :: r) m0 n0) : (apK [108, 105, 110, 107, 112, 97, 116, 104] (m.link) m0 n0).e = 0 ∧ Agree m n r (apK [108, 105, 110, 107, 112, 97, 116, 104] (m.link) m0 n0).m (apK [108, 105, 110, 107, 112, 97, 116, 104] (m.link) m0 n0).n := by
  rw [apK_linkpath, if_neg hin.zLink]
  exact ⟨rfl, {
    hGid := h.hGid.imp id (fun hm => mem_drop hm (by simp))
    hGname := h.hGname.imp id (fun hm => mem_drop hm (by simp))
    hLink := .inl rfl
    hTime := h.hTime.imp id (fun hm => mem_drop hm (by simp))
    hName := h.hName.imp id (fun hm => mem_drop hm (by simp))
    hSize := h.hSize.imp id (fun hm => mem_drop hm (by simp))
    hUid := h.hUid.imp id (fun hm => mem_drop hm (by simp))
    hUname := h.hUname.imp id (fun hm => mem_drop hm (by simp))
    hKind := h.hKind
    hMode := h.hMode
    hMajor := h.hMajor
    hMinor := h.hMinor
    hExtra := h.hExtra
    hData := h.hData
  }⟩
theorem Agree.putTime {m m0 : Mb} {n n0 : Int} {r : List Pr} (hin : DvIn m n) (h : Agree m n (([109, 116, 105, 109, 101], stText m.sec m.nsec) :: r) m0 n0) : (apK [109, 116, 105, 109, 101] (stText m.sec m.nsec) m0 n0).e = 0 ∧ Agree m n r (apK [109, 116, 105, 109, 101] (stText m.sec m.nsec) m0 n0).m (apK [109, 116, 105, 109, 101] (stText m.sec m.nsec) m0 n0).n := by
  rw [apK_mtime, parse_text _ _ hin.stamp]
  exact ⟨rfl, {
    hGid := h.hGid.imp id (fun hm => mem_drop hm (by simp))
    hGname := h.hGname.imp id (fun hm => mem_drop hm (by simp))
    hLink := h.hLink.imp id (fun hm => mem_drop hm (by simp))
    hTime := .inl ⟨rfl, rfl⟩
    hName := h.hName.imp id (fun hm => mem_drop hm (by simp))
    hSize := h.hSize.imp id (fun hm => mem_drop hm (by simp))
    hUid := h.hUid.imp id (fun hm => mem_drop hm (by simp))
    hUname := h.hUname.imp id (fun hm => mem_drop hm (by simp))
    hKind := h.hKind
    hMode := h.hMode
    hMajor := h.hMajor
    hMinor := h.hMinor
    hExtra := h.hExtra
    hData := h.hData
  }⟩
theorem Agree.putName {m m0 : Mb} {n n0 : Int} {r : List Pr} (hin : DvIn m n) (h : Agree m n (([112, 97, 116, 104], m.name) :: r) m0 n0) : (apK [112, 97, 116, 104] (m.name) m0 n0).e = 0 ∧ Agree m n r (apK [112, 97, 116, 104] (m.name) m0 n0).m (apK [112, 97, 116, 104] (m.name) m0 n0).n := by
  rw [apK_path, if_neg hin.zName]
  exact ⟨rfl, {
    hGid := h.hGid.imp id (fun hm => mem_drop hm (by simp))
    hGname := h.hGname.imp id (fun hm => mem_drop hm (by simp))
    hLink := h.hLink.imp id (fun hm => mem_drop hm (by simp))
    hTime := h.hTime.imp id (fun hm => mem_drop hm (by simp))
    hName := .inl rfl
    hSize := h.hSize.imp id (fun hm => mem_drop hm (by simp))
    hUid := h.hUid.imp id (fun hm => mem_drop hm (by simp))
    hUname := h.hUname.imp id (fun hm => mem_drop hm (by simp))
    hKind := h.hKind
    hMode := h.hMode
    hMajor := h.hMajor
    hMinor := h.hMinor
    hExtra := h.hExtra
    hData := h.hData
  }⟩
theorem Agree.putSize {m m0 : Mb} {n n0 : Int} {r : List Pr} (hin : DvIn m n) (h : Agree m n (([115, 105, 122, 101], Lib.decDigits n.toNat) :: r) m0 n0) : (apK [115, 105, 122, 101] (Lib.decDigits n.toNat) m0 n0).e = 0 ∧ Agree m n r (apK [115, 105, 122, 101] (Lib.decDigits n.toNat) m0 n0).m (apK [115, 105, 122, 101] (Lib.decDigits n.toNat) m0 n0).n := by
  rw [apK_size, atNum_back hin.size]
  exact ⟨rfl, {
    hGid := h.hGid.imp id (fun hm => mem_drop hm (by simp))
    hGname := h.hGname.imp id (fun hm => mem_drop hm (by simp))
    hLink := h.hLink.imp id (fun hm => mem_drop hm (by simp))
    hTime := h.hTime.imp id (fun hm => mem_drop hm (by simp))
    hName := h.hName.imp id (fun hm => mem_drop hm (by simp))
    hSize := .inl rfl
    hUid := h.hUid.imp id (fun hm => mem_drop hm (by simp))
    hUname := h.hUname.imp id (fun hm => mem_drop hm (by simp))
    hKind := h.hKind
    hMode := h.hMode
    hMajor := h.hMajor
    hMinor := h.hMinor
    hExtra := h.hExtra
    hData := h.hData
  }⟩
theorem Agree.putUid {m m0 : Mb} {n n0 : Int} {r : List Pr} (hin : DvIn m n) (h : Agree m n (([117, 105, 100], Lib.decDigits m.uid.toNat) :: r) m0 n0) : (apK [117, 105, 100] (Lib.decDigits m.uid.toNat) m0 n0).e = 0 ∧ Agree m n r (apK [117, 105, 100] (Lib.decDigits m.uid.toNat) m0 n0).m (apK [117, 105, 100] (Lib.decDigits m.uid.toNat) m0 n0).n := by
  rw [apK_uid, atNum_back hin.uid]
  exact ⟨rfl, {
    hGid := h.hGid.imp id (fun hm => mem_drop hm (by simp))
    hGname := h.hGname.imp id (fun hm => mem_drop hm (by simp))
    hLink := h.hLink.imp id (fun hm => mem_drop hm (by simp))
    hTime := h.hTime.imp id (fun hm => mem_drop hm (by simp))
    hName := h.hName.imp id (fun hm => mem_drop hm (by simp))
    hSize := h.hSize.imp id (fun hm => mem_drop hm (by simp))
    hUid := .inl rfl
    hUname := h.hUname.imp id (fun hm => mem_drop hm (by simp))
    hKind := h.hKind
    hMode := h.hMode
    hMajor := h.hMajor
    hMinor := h.hMinor
    hExtra := h.hExtra
    hData := h.hData
  }⟩
theorem Agree.putUname {m m0 : Mb} {n n0 : Int} {r : List Pr} (hin : DvIn m n) (h : Agree m n (([117, 110, 97, 109, 101], m.uname) :: r) m0 n0) : (apK [117, 110, 97, 109, 101] (m.uname) m0 n0).e = 0 ∧ Agree m n r (apK [117, 110, 97, 109, 101] (m.uname) m0 n0).m (apK [117, 110, 97, 109, 101] (m.uname) m0 n0).n := by
  rw [apK_uname, if_neg hin.zUname]
  exact ⟨rfl, {
    hGid := h.hGid.imp id (fun hm => mem_drop hm (by simp))
    hGname := h.hGname.imp id (fun hm => mem_drop hm (by simp))
    hLink := h.hLink.imp id (fun hm => mem_drop hm (by simp))
    hTime := h.hTime.imp id (fun hm => mem_drop hm (by simp))
    hName := h.hName.imp id (fun hm => mem_drop hm (by simp))
    hSize := h.hSize.imp id (fun hm => mem_drop hm (by simp))
    hUid := h.hUid.imp id (fun hm => mem_drop hm (by simp))
    hUname := .inl rfl
    hKind := h.hKind
    hMode := h.hMode
    hMajor := h.hMajor
    hMinor := h.hMinor
    hExtra := h.hExtra
    hData := h.hData
  }⟩
theorem Agree.put {m m0 : Mb} {n n0 : Int} {p : Pr} {r : List Pr} (hin : DvIn m n) (h : Agree m n (p :: r) m0 n0) (hp : p ∈ dvAll m n) : (apK p.1 p.2 m0 n0).e = 0 ∧ Agree m n r (apK p.1 p.2 m0 n0).m (apK p.1 p.2 m0 n0).n := by
  unfold dvAll at hp
  simp only [List.mem_cons, List.mem_nil_iff, or_false] at hp
  rcases hp with rfl | rfl | rfl | rfl | rfl | rfl | rfl | rfl
  · exact Agree.putGid hin h
  · exact Agree.putGname hin h
  · exact Agree.putLink hin h
  · exact Agree.putTime hin h
  · exact Agree.putName hin h
  · exact Agree.putSize hin h
  · exact Agree.putUid hin h
  · exact Agree.putUname hin h
theorem apRun_back {m : Mb} {n : Int} (hin : DvIn m n) : ∀ (l : List Pr) (m0 : Mb) (n0 : Int) (L : List Pr), (∀ p ∈ l, isKnown p.1 = true → p ∈ dvAll m n) → Agree m n l m0 n0 → apRun l m0 n0 L = ⟨bkM m, n, L ++ l.filter (fun p => !isKnown p.1), 0⟩
  | [], m0, n0, L, _, h => by
    obtain ⟨rfl, rfl⟩ := h.end
    simp [apRun]
  | p :: r, m0, n0, L, hk, h => by
    unfold apRun
    cases hkn : isKnown p.1 with
    | true =>
      obtain ⟨h1, h2⟩ := h.put hin (hk p List.mem_cons_self hkn)
      rw [if_pos rfl, if_pos h1, apRun_back hin r _ _ L (fun q hq => hk q (List.mem_cons_of_mem _ hq)) h2, List.filter_cons_of_neg (by simp [hkn])]
    | false =>
      rw [if_neg (by simp), apRun_back hin r _ _ _ (fun q hq => hk q (List.mem_cons_of_mem _ hq)) (h.skip hkn), List.filter_cons_of_pos (by simp [hkn])]
      simp

theorem dvAll_known {m : Mb} {n : Int} {q : Pr} (h : q ∈ dvAll m n) : isKnown q.1 = true := by
  unfold dvAll at h
  simp only [List.mem_cons, List.mem_nil_iff, or_false] at h
  rcases h with rfl | rfl | rfl | rfl | rfl | rfl | rfl | rfl <;> exact decide_eq_true (by simp)
theorem long_ne {l : List UInt8} {k : Nat} (h : decide (l.length ≤ k) = false) : l ≠ [] := fun e => by
  subst e
  have := of_decide_eq_false h
  simp at this
theorem stText_ne (s n : Int) : stText s n ≠ [] := by
  unfold stText
  split
  · simp
  · unfold dec2
    have := (decDigits_dig s.toNat).2.1
    split <;> simp_all
theorem dvRec_full {m : Mb} {n : Int} {q : Pr} (h : q ∈ dvRec m n) : q.2 ≠ [] := by
  obtain ⟨h1, h2⟩ := dvRec_mem.1 h
  unfold dvAll at h1
  simp only [List.mem_cons, List.mem_nil_iff, or_false] at h1
  rcases h1 with rfl | rfl | rfl | rfl | rfl | rfl | rfl | rfl
  · exact (decDigits_dig _).2.1
  · rw [show ((([103, 110, 97, 109, 101], m.gname) : Pr)).1 = [103, 110, 97, 109, 101] from rfl, dvFits_Gname] at h2
    exact long_ne h2
  · rw [show ((([108, 105, 110, 107, 112, 97, 116, 104], m.link) : Pr)).1 = [108, 105, 110, 107, 112, 97, 116, 104] from rfl, dvFits_Link] at h2
    exact long_ne h2
  · exact stText_ne _ _
  · rw [show ((([112, 97, 116, 104], m.name) : Pr)).1 = [112, 97, 116, 104] from rfl, dvFits_Name] at h2
    intro e
    have e2 : m.name = [] := e
    rw [e2] at h2
    cases h2
  · exact (decDigits_dig _).2.1
  · exact (decDigits_dig _).2.1
  · rw [show ((([117, 110, 97, 109, 101], m.uname) : Pr)).1 = [117, 110, 97, 109, 101] from rfl, dvFits_Uname] at h2
    exact long_ne h2
theorem mMerge_nil (g l : List Pr) : mMerge [] (mMerge g l) = mMerge g l := by
  have h := mMerge_rising g l
  have e : mAll (mAll [] []) (mMerge g l) = mMerge g l := by
    show mAll [] (mMerge g l) = _
    rw [mAll_self _ [] (by simpa using h)]; rfl
  show (mAll (mAll [] []) (mMerge g l)).filter _ = _
  rw [e]
  unfold mMerge
  rw [List.filter_filter]
  simp
theorem wanted_iff {m : Mb} {n : Int} {X : List Pr} (hX : exRight [] X = true) (q : Pr) : q ∈ mMerge X (dvRec m n) ↔ q ∈ dvRec m n ∨ q ∈ X := by
  obtain ⟨h1, h2⟩ := exRight_facts X [] hX
  unfold mMerge
  rw [List.mem_filter, mAll_iff _ _ (rising_apart (dvRec_rising m n)), mAll_iff _ _ (rising_apart h1)]
  constructor
  · rintro ⟨h | ⟨h | ⟨h, -⟩, -⟩, -⟩
    · exact .inl h
    · exact .inr h
    · cases h
  · rintro (h | h)
    · have := dvRec_full h
      exact ⟨.inl h, by cases hq : q.2 <;> simp_all⟩
    · have := (h2 q h).2.2.2
      refine ⟨.inr ⟨.inl h, fun p hp e => ?_⟩, by cases hq : q.2 <;> simp_all⟩
      have h3 := dvAll_known (dvRec_mem.1 hp).1
      rw [← e, (h2 q h).2.1] at h3
      cases h3
theorem wanted_filter {m : Mb} {n : Int} {X : List Pr} (hX : exRight [] X = true) : (mMerge X (dvRec m n)).filter (fun p => !isKnown p.1) = X := by
  obtain ⟨h1, h2⟩ := exRight_facts X [] hX
  refine rising_ext ((mMerge_rising _ _).filter _) h1 fun q => ?_
  rw [List.mem_filter, wanted_iff hX]
  constructor
  · rintro ⟨h | h, hk⟩
    · have := dvAll_known (dvRec_mem.1 h).1
      rw [this] at hk; cases hk
    · exact h
  · intro h
    exact ⟨.inr h, by rw [(h2 q h).2.1]; rfl⟩
theorem back_run {m : Mb} {n : Int} {X : List Pr} (hin : DvIn m n) (hX : exRight [] X = true) :
    apRun (mMerge X (dvRec m n)) (mOf (dvHd m n (fun _ => false)).posix) (dvHd m n (fun _ => false)).posix.size [] = ⟨bkM m, n, X, 0⟩ := by
  have hkn : ∀ q ∈ mMerge X (dvRec m n), isKnown q.1 = true → q ∈ dvAll m n := by
    intro q hq hk
    rcases (wanted_iff hX q).1 hq with h | h
    · exact (dvRec_mem.1 h).1
    · have := ((exRight_facts X [] hX).2 q h).2.1
      rw [hk] at this; cases this
  have hw : ∀ k t, dvFits m n k = false → ((k, t) : Pr) ∈ dvAll m n → ((k, t) : Pr) ∈ mMerge X (dvRec m n) := fun k t hf ha => (wanted_iff hX _).2 (.inl (dvRec_some ha hf))
  have hag : Agree m n (mMerge X (dvRec m n)) (mOf (dvHd m n (fun _ => false)).posix) (dvHd m n (fun _ => false)).posix.size := by
    exact {
      hGid := by
        cases hf : dvFits m n [103, 105, 100] with
        | true => left; show pickI false (dvFits m n [103, 105, 100]) m.gid = _; rw [hf]; rfl
        | false => exact .inr (hw _ _ hf (by unfold dvAll; simp))
      hGname := by
        cases hf : dvFits m n [103, 110, 97, 109, 101] with
        | true => left; show pickL false (dvFits m n [103, 110, 97, 109, 101]) m.gname = _; rw [hf]; rfl
        | false => exact .inr (hw _ _ hf (by unfold dvAll; simp))
      hLink := by
        cases hf : dvFits m n [108, 105, 110, 107, 112, 97, 116, 104] with
        | true => left; show pickL false (dvFits m n [108, 105, 110, 107, 112, 97, 116, 104]) m.link = _; rw [hf]; rfl
        | false => exact .inr (hw _ _ hf (by unfold dvAll; simp))
      hTime := by
        cases hf : dvFits m n [109, 116, 105, 109, 101] with
        | true =>
          left
          have h2 := hf
          rw [dvFits_Time, Bool.and_eq_true] at h2
          have e : (dvHd m n (fun _ => false)).time = m.sec := by show pickI false (dvFits m n [109, 116, 105, 109, 101]) m.sec = _; rw [hf]; rfl
          exact ⟨e, (of_decide_eq_true h2.1).symm⟩
        | false => exact .inr (hw _ _ hf (by unfold dvAll; simp))
      hName := by
        cases hf : dvFits m n [112, 97, 116, 104] with
        | true => left; show pickL false (dvFits m n [112, 97, 116, 104]) m.name = _; rw [hf]; rfl
        | false => exact .inr (hw _ _ hf (by unfold dvAll; simp))
      hSize := by
        cases hf : dvFits m n [115, 105, 122, 101] with
        | true => left; show pickI false (dvFits m n [115, 105, 122, 101]) n = _; rw [hf]; rfl
        | false => exact .inr (hw _ _ hf (by unfold dvAll; simp))
      hUid := by
        cases hf : dvFits m n [117, 105, 100] with
        | true => left; show pickI false (dvFits m n [117, 105, 100]) m.uid = _; rw [hf]; rfl
        | false => exact .inr (hw _ _ hf (by unfold dvAll; simp))
      hUname := by
        cases hf : dvFits m n [117, 110, 97, 109, 101] with
        | true => left; show pickL false (dvFits m n [117, 110, 97, 109, 101]) m.uname = _; rw [hf]; rfl
        | false => exact .inr (hw _ _ hf (by unfold dvAll; simp))
      hKind := rfl
      hMode := rfl
      hMajor := rfl
      hMinor := rfl
      hExtra := rfl
      hData := rfl
    }
  rw [apRun_back hin _ _ _ [] hkn hag, wanted_filter hX]
  rfl
end Go.Proofs.YtjmmecokfijglaaGreatDoor
namespace Go.Proofs.YtjmmecokfijglaaGreatDoor
open Go.ChangeShapes Go.WideShapes Go.ChangeAt Go.RowKit Go.Maps

set_option maxRecDepth 100000 in
theorem textGid_any (mc : List Value) (h : Hd) (v : Int) (hv : mc[5]? = some (.int .i64 v)) (h0 : 0 ≤ v) (h1 : v ≤ 9223372036854775807) (b c : Nat) (w : World) (hh : Holds w b 78 (mc ++ h.cells)) (hc : Holds w c 154 [.func (.func 73) #[] #[]]) (ht : TabOk w) :
    Calls Tryz.prog 130 #[.pointer (some ⟨b, 0, none⟩), .pointer (some ⟨c, 0, none⟩)] w fun e w' => Below w.heap.size w w' ∧ e = .returned (.string ⟨(Lib.decDigits v.toNat).toArray⟩) := by
  have K1 : KeepA w b mc w := ⟨⟨h, hh⟩, grown_below (Below.refl _ _) _⟩
  have k1 := K1.cell hv
  have c0 := hc.at (i := 0) (v := .func (.func 73) #[] #[]) rfl
  have Hi := Lib.hid (fun w1 => itoa_any v w1 h0 h1)
  have Ht := Lib.hid ht
  clear h0 h1 ht
  generalize Lib.decDigits v.toNat = r at *
  clear hv hh K1 hc
  go_enter Tryz.func130, Tryz.ntmps130
  go_wp2_with (fail)
  refine (known1_any b w).mono ?_
  rintro e w1 ⟨⟨q, rfl⟩, rfl⟩
  have k2 : (w.drewN q).cell? ⟨b, 5, none⟩ = some (.int .i64 v) := k1
  have Hb := Lib.hid (below_drewN (Below.refl w.heap.size w) q)
  clear k1 c0
  have Ht1 := Lib.hid (Ht.out.below Hb.out (Nat.le_refl _))
  generalize w.drewN q = w1 at *
  go_wp2_with (fail)
  refine (Hi.out w1 Ht1.out).mono ?_
  rintro e w2 ⟨hb2, rfl⟩
  have Hb2 := Lib.hid (Hb.out.trans (hb2.mono Hb.out.size))
  clear hb2
  go_wp2
  go_ret
  exact ⟨Hb2.out, rfl⟩
set_option maxRecDepth 100000 in
theorem textGname_any (mc : List Value) (h : Hd) (v : List UInt8) (hv : mc[7]? = some (.string ⟨v.toArray⟩)) (b c : Nat) (w : World) (hh : Holds w b 78 (mc ++ h.cells)) (hc : Holds w c 156 [.func (.func 75) #[] #[]]) :
    Calls Tryz.prog 136 #[.pointer (some ⟨b, 0, none⟩), .pointer (some ⟨c, 0, none⟩)] w fun e w' => Below w.heap.size w w' ∧ e = .returned (.string ⟨v.toArray⟩) := by
  have K1 : KeepA w b mc w := ⟨⟨h, hh⟩, grown_below (Below.refl _ _) _⟩
  have k1 := K1.cell hv
  have c0 := hc.at (i := 0) (v := .func (.func 75) #[] #[]) rfl
  clear hv hh K1 hc
  go_enter Tryz.func136, Tryz.ntmps136
  go_wp2_with (fail)
  refine (known2_any b w).mono ?_
  rintro e w1 ⟨⟨q, rfl⟩, rfl⟩
  have k2 : (w.drewN q).cell? ⟨b, 7, none⟩ = some (.string ⟨v.toArray⟩) := k1
  have Hb := Lib.hid (below_drewN (Below.refl w.heap.size w) q)
  clear k1 c0
  generalize w.drewN q = w1 at *
  go_wp2
  go_ret
  exact ⟨Hb.out, rfl⟩
set_option maxRecDepth 100000 in
theorem textLink_any (mc : List Value) (h : Hd) (v : List UInt8) (hv : mc[1]? = some (.string ⟨v.toArray⟩)) (b c : Nat) (w : World) (hh : Holds w b 78 (mc ++ h.cells)) (hc : Holds w c 156 [.func (.func 76) #[] #[]]) :
    Calls Tryz.prog 136 #[.pointer (some ⟨b, 0, none⟩), .pointer (some ⟨c, 0, none⟩)] w fun e w' => Below w.heap.size w w' ∧ e = .returned (.string ⟨v.toArray⟩) := by
  have K1 : KeepA w b mc w := ⟨⟨h, hh⟩, grown_below (Below.refl _ _) _⟩
  have k1 := K1.cell hv
  have c0 := hc.at (i := 0) (v := .func (.func 76) #[] #[]) rfl
  clear hv hh K1 hc
  go_enter Tryz.func136, Tryz.ntmps136
  go_wp2_with (fail)
  refine (known3_any b w).mono ?_
  rintro e w1 ⟨⟨q, rfl⟩, rfl⟩
  have k2 : (w.drewN q).cell? ⟨b, 1, none⟩ = some (.string ⟨v.toArray⟩) := k1
  have Hb := Lib.hid (below_drewN (Below.refl w.heap.size w) q)
  clear k1 c0
  generalize w.drewN q = w1 at *
  go_wp2
  go_ret
  exact ⟨Hb.out, rfl⟩
set_option maxRecDepth 100000 in
theorem textName_any (mc : List Value) (h : Hd) (v : List UInt8) (hv : mc[0]? = some (.string ⟨v.toArray⟩)) (b c : Nat) (w : World) (hh : Holds w b 78 (mc ++ h.cells)) (hc : Holds w c 156 [.func (.func 78) #[] #[]]) :
    Calls Tryz.prog 136 #[.pointer (some ⟨b, 0, none⟩), .pointer (some ⟨c, 0, none⟩)] w fun e w' => Below w.heap.size w w' ∧ e = .returned (.string ⟨v.toArray⟩) := by
  have K1 : KeepA w b mc w := ⟨⟨h, hh⟩, grown_below (Below.refl _ _) _⟩
  have k1 := K1.cell hv
  have c0 := hc.at (i := 0) (v := .func (.func 78) #[] #[]) rfl
  clear hv hh K1 hc
  go_enter Tryz.func136, Tryz.ntmps136
  go_wp2_with (fail)
  refine (known4_any b w).mono ?_
  rintro e w1 ⟨⟨q, rfl⟩, rfl⟩
  have k2 : (w.drewN q).cell? ⟨b, 0, none⟩ = some (.string ⟨v.toArray⟩) := k1
  have Hb := Lib.hid (below_drewN (Below.refl w.heap.size w) q)
  clear k1 c0
  generalize w.drewN q = w1 at *
  go_wp2
  go_ret
  exact ⟨Hb.out, rfl⟩
set_option maxRecDepth 100000 in
theorem textSize_any (mc : List Value) (h : Hd) (v : Int) (hv : mc[14]? = some (.int .i64 v)) (h0 : 0 ≤ v) (h1 : v ≤ 9223372036854775807) (b c : Nat) (w : World) (hh : Holds w b 78 (mc ++ h.cells)) (hc : Holds w c 154 [.func (.func 79) #[] #[]]) (ht : TabOk w) :
    Calls Tryz.prog 130 #[.pointer (some ⟨b, 0, none⟩), .pointer (some ⟨c, 0, none⟩)] w fun e w' => Below w.heap.size w w' ∧ e = .returned (.string ⟨(Lib.decDigits v.toNat).toArray⟩) := by
  have K1 : KeepA w b mc w := ⟨⟨h, hh⟩, grown_below (Below.refl _ _) _⟩
  have k1 := K1.cell hv
  have c0 := hc.at (i := 0) (v := .func (.func 79) #[] #[]) rfl
  have Hi := Lib.hid (fun w1 => itoa_any v w1 h0 h1)
  have Ht := Lib.hid ht
  clear h0 h1 ht
  generalize Lib.decDigits v.toNat = r at *
  clear hv hh K1 hc
  go_enter Tryz.func130, Tryz.ntmps130
  go_wp2_with (fail)
  refine (known5_any b w).mono ?_
  rintro e w1 ⟨⟨q, rfl⟩, rfl⟩
  have k2 : (w.drewN q).cell? ⟨b, 14, none⟩ = some (.int .i64 v) := k1
  have Hb := Lib.hid (below_drewN (Below.refl w.heap.size w) q)
  clear k1 c0
  have Ht1 := Lib.hid (Ht.out.below Hb.out (Nat.le_refl _))
  generalize w.drewN q = w1 at *
  go_wp2_with (fail)
  refine (Hi.out w1 Ht1.out).mono ?_
  rintro e w2 ⟨hb2, rfl⟩
  have Hb2 := Lib.hid (Hb.out.trans (hb2.mono Hb.out.size))
  clear hb2
  go_wp2
  go_ret
  exact ⟨Hb2.out, rfl⟩
set_option maxRecDepth 100000 in
theorem textUid_any (mc : List Value) (h : Hd) (v : Int) (hv : mc[4]? = some (.int .i64 v)) (h0 : 0 ≤ v) (h1 : v ≤ 9223372036854775807) (b c : Nat) (w : World) (hh : Holds w b 78 (mc ++ h.cells)) (hc : Holds w c 154 [.func (.func 80) #[] #[]]) (ht : TabOk w) :
    Calls Tryz.prog 130 #[.pointer (some ⟨b, 0, none⟩), .pointer (some ⟨c, 0, none⟩)] w fun e w' => Below w.heap.size w w' ∧ e = .returned (.string ⟨(Lib.decDigits v.toNat).toArray⟩) := by
  have K1 : KeepA w b mc w := ⟨⟨h, hh⟩, grown_below (Below.refl _ _) _⟩
  have k1 := K1.cell hv
  have c0 := hc.at (i := 0) (v := .func (.func 80) #[] #[]) rfl
  have Hi := Lib.hid (fun w1 => itoa_any v w1 h0 h1)
  have Ht := Lib.hid ht
  clear h0 h1 ht
  generalize Lib.decDigits v.toNat = r at *
  clear hv hh K1 hc
  go_enter Tryz.func130, Tryz.ntmps130
  go_wp2_with (fail)
  refine (known6_any b w).mono ?_
  rintro e w1 ⟨⟨q, rfl⟩, rfl⟩
  have k2 : (w.drewN q).cell? ⟨b, 4, none⟩ = some (.int .i64 v) := k1
  have Hb := Lib.hid (below_drewN (Below.refl w.heap.size w) q)
  clear k1 c0
  have Ht1 := Lib.hid (Ht.out.below Hb.out (Nat.le_refl _))
  generalize w.drewN q = w1 at *
  go_wp2_with (fail)
  refine (Hi.out w1 Ht1.out).mono ?_
  rintro e w2 ⟨hb2, rfl⟩
  have Hb2 := Lib.hid (Hb.out.trans (hb2.mono Hb.out.size))
  clear hb2
  go_wp2
  go_ret
  exact ⟨Hb2.out, rfl⟩
set_option maxRecDepth 100000 in
theorem textUname_any (mc : List Value) (h : Hd) (v : List UInt8) (hv : mc[6]? = some (.string ⟨v.toArray⟩)) (b c : Nat) (w : World) (hh : Holds w b 78 (mc ++ h.cells)) (hc : Holds w c 156 [.func (.func 81) #[] #[]]) :
    Calls Tryz.prog 136 #[.pointer (some ⟨b, 0, none⟩), .pointer (some ⟨c, 0, none⟩)] w fun e w' => Below w.heap.size w w' ∧ e = .returned (.string ⟨v.toArray⟩) := by
  have K1 : KeepA w b mc w := ⟨⟨h, hh⟩, grown_below (Below.refl _ _) _⟩
  have k1 := K1.cell hv
  have c0 := hc.at (i := 0) (v := .func (.func 81) #[] #[]) rfl
  clear hv hh K1 hc
  go_enter Tryz.func136, Tryz.ntmps136
  go_wp2_with (fail)
  refine (known7_any b w).mono ?_
  rintro e w1 ⟨⟨q, rfl⟩, rfl⟩
  have k2 : (w.drewN q).cell? ⟨b, 6, none⟩ = some (.string ⟨v.toArray⟩) := k1
  have Hb := Lib.hid (below_drewN (Below.refl w.heap.size w) q)
  clear k1 c0
  generalize w.drewN q = w1 at *
  go_wp2
  go_ret
  exact ⟨Hb.out, rfl⟩
end Go.Proofs.YtjmmecokfijglaaGreatDoor
