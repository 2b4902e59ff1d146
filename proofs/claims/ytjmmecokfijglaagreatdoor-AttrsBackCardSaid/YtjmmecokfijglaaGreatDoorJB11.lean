/-
  Texts of this seat's proof, joined: their order is that of the build.
-/
import Derived.Test.YtjmmecokfijglaaGreatDoorJB08
import Derived.Test.YtjmmecokfijglaaGreatDoorJB10
import Derived.Test.YtjmmecokfijglaaGreatDoorRows
import Derived.Test.YtjmmecokfijglaaGreatDoorJB01
import Derived.Laws.StructEq
import Derived.Deep.QuietTactic
import Derived.BigQuiet
namespace Go.Proofs.YtjmmecokfijglaaGreatDoor
open Go.ChangeShapes Go.WideShapes Go.ChangeAt Go.RowKit Go.Maps

theorem knownD_eq (t : Tbl) : knownD t = .map [(.string [103, 105, 100], .held (numField t.g)), (.string [103, 110, 97, 109, 101], .held (texField t.gn)), (.string [108, 105, 110, 107, 112, 97, 116, 104], .held (texField t.l)), (.string [109, 116, 105, 109, 101], .held timField), (.string [112, 97, 116, 104], .held (texField t.p)), (.string [115, 105, 122, 101], .held (numField t.s)), (.string [117, 105, 100], .held (numField t.u)), (.string [117, 110, 97, 109, 101], .held (texField t.un))] := by
  rfl
theorem known_cases (t : Tbl) (x : List UInt8) (c : Value) (h : ∀ zd, (knownD t).atKey (.string x) zd = .held c) :
    (x = [103, 105, 100] ∧ c = numField t.g) ∨ (x = [103, 110, 97, 109, 101] ∧ c = texField t.gn) ∨ (x = [108, 105, 110, 107, 112, 97, 116, 104] ∧ c = texField t.l) ∨ (x = [109, 116, 105, 109, 101] ∧ c = timField) ∨ (x = [112, 97, 116, 104] ∧ c = texField t.p) ∨ (x = [115, 105, 122, 101] ∧ c = numField t.s) ∨ (x = [117, 105, 100] ∧ c = numField t.u) ∨ (x = [117, 110, 97, 109, 101] ∧ c = texField t.un) := by
  have h0 := h .nil
  rw [knownD_eq] at h0
  have hk : ∀ a : List UInt8, (Lit.string a).sameKey (.string x) = (a == x) := fun a => rfl
  unfold DataW.atKey at h0
  simp only [List.find?_cons, hk] at h0
  by_cases e0 : x = [103, 105, 100]
  · subst e0
    have h1 := (DataW.held.inj h0).symm
    simp [h1]
  rw [show ([103, 105, 100] == x) = false from beq_eq_false_iff_ne.2 (fun e => e0 e.symm)] at h0
  simp only at h0
  by_cases e1 : x = [103, 110, 97, 109, 101]
  · subst e1
    have h1 := (DataW.held.inj h0).symm
    simp [h1]
  rw [show ([103, 110, 97, 109, 101] == x) = false from beq_eq_false_iff_ne.2 (fun e => e1 e.symm)] at h0
  simp only at h0
  by_cases e2 : x = [108, 105, 110, 107, 112, 97, 116, 104]
  · subst e2
    have h1 := (DataW.held.inj h0).symm
    simp [h1]
  rw [show ([108, 105, 110, 107, 112, 97, 116, 104] == x) = false from beq_eq_false_iff_ne.2 (fun e => e2 e.symm)] at h0
  simp only at h0
  by_cases e3 : x = [109, 116, 105, 109, 101]
  · subst e3
    have h1 := (DataW.held.inj h0).symm
    simp [h1]
  rw [show ([109, 116, 105, 109, 101] == x) = false from beq_eq_false_iff_ne.2 (fun e => e3 e.symm)] at h0
  simp only at h0
  by_cases e4 : x = [112, 97, 116, 104]
  · subst e4
    have h1 := (DataW.held.inj h0).symm
    simp [h1]
  rw [show ([112, 97, 116, 104] == x) = false from beq_eq_false_iff_ne.2 (fun e => e4 e.symm)] at h0
  simp only at h0
  by_cases e5 : x = [115, 105, 122, 101]
  · subst e5
    have h1 := (DataW.held.inj h0).symm
    simp [h1]
  rw [show ([115, 105, 122, 101] == x) = false from beq_eq_false_iff_ne.2 (fun e => e5 e.symm)] at h0
  simp only at h0
  by_cases e6 : x = [117, 105, 100]
  · subst e6
    have h1 := (DataW.held.inj h0).symm
    simp [h1]
  rw [show ([117, 105, 100] == x) = false from beq_eq_false_iff_ne.2 (fun e => e6 e.symm)] at h0
  simp only at h0
  by_cases e7 : x = [117, 110, 97, 109, 101]
  · subst e7
    have h1 := (DataW.held.inj h0).symm
    simp [h1]
  rw [show ([117, 110, 97, 109, 101] == x) = false from beq_eq_false_iff_ne.2 (fun e => e7 e.symm)] at h0
  simp only at h0
  simp at h0

theorem timeText_any (mc : List Value) (h : Hd) (s n : Int) (hs : mc[10]? = some (.int .i64 s)) (hn : mc[11]? = some (.int .i64 n)) (hr : stRight s n = true) (b : Nat) (w : World) (hh : Holds w b 78 (mc ++ h.cells)) (ht : TabOk w) :
    Calls Tryz.prog 141 #[.pointer (some ⟨b, 0, none⟩)] w fun e w' => Below w.heap.size w w' ∧ e = .returned (.string ⟨(stText s n).toArray⟩) := by
  have K1 : KeepA w b mc w := ⟨⟨h, hh⟩, grown_below (Below.refl _ _) _⟩
  have k1 := K1.cell hs
  have k2 := K1.cell hn
  have Ht := Lib.hid (stText_ok s n w hr ht)
  clear hs hn hr hh K1 ht
  generalize stText s n = r at *
  go_enter Tryz.func141, Tryz.ntmps141
  go_wp2_with (fail)
  refine Ht.out.mono ?_
  rintro e w1 ⟨hb, rfl⟩
  have Hb := Lib.hid hb
  clear hb
  go_wp2
  go_ret
  exact ⟨Hb.out, rfl⟩
end Go.Proofs.YtjmmecokfijglaaGreatDoor
namespace Go.Proofs.YtjmmecokfijglaaGreatDoor
open Go.ChangeShapes Go.WideShapes Go.ChangeAt Go.RowKit Go.Maps

/-- A member. -/
structure Mb where
  name : List UInt8
  link : List UInt8
  kind : Int
  mode : Int
  uid : Int
  gid : Int
  uname : List UInt8
  gname : List UInt8
  major : Int
  minor : Int
  sec : Int
  nsec : Int
  extra : Value
  data : List UInt8
def Mb.cells (m : Mb) : List Value := [.string ⟨m.name.toArray⟩, .string ⟨m.link.toArray⟩, .int .u8 m.kind, .int .i64 m.mode, .int .i64 m.uid, .int .i64 m.gid, .string ⟨m.uname.toArray⟩, .string ⟨m.gname.toArray⟩, .int .i64 m.major, .int .i64 m.minor, .int .i64 m.sec, .int .i64 m.nsec, m.extra, .string ⟨m.data.toArray⟩]
def Mb.val (m : Mb) : Value := .agg m.cells.toArray
def Mb.word (m : Mb) : Nat → List UInt8
  | 0 => m.name | 1 => m.link | 2 => m.uname | _ => m.gname
def wordsC (m : Mb) : List Value := [.string ⟨m.name.toArray⟩, .string ⟨m.link.toArray⟩, .string ⟨m.uname.toArray⟩, .string ⟨m.gname.toArray⟩]
theorem lt4 {k : Nat} (h : k < 4) : k = 0 ∨ k = 1 ∨ k = 2 ∨ k = 3 := by omega
theorem wordsC_at (m : Mb) (k : Nat) (hk : k < 4) : (wordsC m)[k]? = some (.string ⟨(m.word k).toArray⟩) := by
  rcases lt4 hk with rfl | rfl | rfl | rfl <;> rfl
def mbTexts (m : Mb) : Bool := decide ((0 ∉ m.word 0 ∧ 0 ∉ m.word 1 ∧ 0 ∉ m.word 2 ∧ 0 ∉ m.word 3) ∧ m.name ≠ [])
theorem mbTexts_no (m : Mb) (k : Nat) (hk : k < 4) (h : 0 ∈ m.word k) : mbTexts m = false := decide_eq_false (fun h2 => by
  obtain ⟨⟨a0, a1, a2, a3⟩, -⟩ := h2
  rcases lt4 hk with rfl | rfl | rfl | rfl
  · exact a0 h
  · exact a1 h
  · exact a2 h
  · exact a3 h)
theorem mbTexts_yes (m : Mb) (h : ∀ k, k < 4 → 0 ∉ m.word k) : mbTexts m = !decide (m.name = []) := by
  unfold mbTexts
  by_cases hn : m.name = []
  · rw [decide_eq_false (fun h2 => h2.2 hn), decide_eq_true hn]; rfl
  · rw [decide_eq_true ⟨⟨h 0 (by omega), h 1 (by omega), h 2 (by omega), h 3 (by omega)⟩, hn⟩, decide_eq_false hn]; rfl

set_option maxRecDepth 100000 in
set_option maxHeartbeats 1000000 in
theorem textsRight_any (m : Mb) (w : World) :
    Calls Tryz.prog 144 #[m.val] w fun e w' => Below w.heap.size w w' ∧ e = .returned (.bool (mbTexts m)) := by
  have Hn := Lib.hid (fun k hk => mbTexts_no m k hk)
  have Hy := Lib.hid (mbTexts_yes m)
  have Ho := Holds.new w 34 m.cells
  have hcw := fun k hk => wordsC_at m k hk
  unfold wordsC at hcw
  have h0 : m.cells[0]? = some (.string ⟨m.name.toArray⟩) := rfl
  have h1 : m.cells[1]? = some (.string ⟨m.link.toArray⟩) := rfl
  have h2 : m.cells[6]? = some (.string ⟨m.uname.toArray⟩) := rfl
  have h3 : m.cells[7]? = some (.string ⟨m.gname.toArray⟩) := rfl
  unfold Mb.val
  generalize mbTexts m = R at *
  generalize m.word = wt at *
  generalize m.name = nm at *
  generalize m.link = lk at *
  generalize m.uname = un at *
  generalize m.gname = gn at *
  generalize m.cells = C at *
  generalize hA : w.alloc (.cells C.toArray 34) = wa at *
  have hsz : wa.heap.size = w.heap.size + 1 := by rw [← hA]; simp
  have Hb0 := Lib.hid (show Below w.heap.size w wa by rw [← hA]; exact (Below.refl _ _).alloc (Nat.le_refl _) _)
  have c0 := Ho.at h0
  have c1 := Ho.at h1
  have c2 := Ho.at h2
  have c3 := Ho.at h3
  have H0 := Lib.hid h0
  have Hcw := Lib.hid hcw
  have Ho0 := Lib.hid Ho
  clear h0 h1 h2 h3 Ho hcw
  go_enter Tryz.func144, Tryz.ntmps144
  go_wp2
  go_loopw [15] (fun i wr => ∃ k : Nat, k ≤ 4 ∧ i = .int .i64 k ∧ Holds wr w.heap.size 34 C ∧ Holds wr (w.heap.size + 1) 9 [.string ⟨nm.toArray⟩, .string ⟨lk.toArray⟩, .string ⟨un.toArray⟩, .string ⟨gn.toArray⟩] ∧ Below w.heap.size w wr ∧ ∀ j, j < k → 0 ∉ wt j) (fun i _ => 4 - (intOf i).toNat)
  case atStart =>
    refine ⟨0, by omega, rfl, Ho0.out.behind _, ?_, Hb0.out.alloc (by omega) _, by intro j hj; omega⟩
    rw [← hsz]
    exact Holds.new wa _ _
  case round =>
    clear c0 c1 c2 c3 Ho0 Hb0
    obtain ⟨k, hk, rfl, h0, h1, hb, hno⟩ := hrel
    have Hm := Lib.hid h0
    have H1 := Lib.hid h1
    have Hb := Lib.hid hb
    have Hno := Lib.hid hno
    clear h0 h1 hb hno
    by_cases hlt : k < 4
    · have c1 := H1.out.at (Hcw.out k hlt)
      by_cases hz : 0 ∈ wt k
      · have Hq := Lib.hid (Hn.out k hlt hz)
        have Hc := Lib.hid (fun w => contains_nul (wt k) w)
        rw [decide_eq_true hz] at Hc
        clear hz
        generalize wt k = x at *
        go_wp2_with fail
        refine (Hc.out _).mono ?_
        rintro e w' ⟨rfl, rfl⟩
        go_wp2
        go_ret
        rw [Hq.out]
        exact ⟨Hb.out, rfl⟩
      · have Hc := Lib.hid (fun w => contains_nul (wt k) w)
        rw [decide_eq_false hz] at Hc
        have Hno' := Lib.hid (show ∀ j, j < k + 1 → 0 ∉ wt j by
          intro j hj
          rcases Nat.lt_succ_iff_lt_or_eq.1 hj with h | rfl
          · exact Hno.out j h
          · exact hz)
        clear hz
        generalize hx : wt k = x at *
        clear hx
        go_wp2_with fail
        refine (Hc.out _).mono ?_
        rintro e w' ⟨rfl, rfl⟩
        go_wp2
        go_roundw
        case rel => exact ⟨k + 1, by omega, by go_num, Hm.out, H1.out, Hb.out, Hno'.out⟩
        case measure => simp [intOf]; omega
    · have Hq := Lib.hid (Hy.out (fun j hj => Hno.out j (by omega)))
      have c0 := Hm.out.at H0.out
      cases nm with
      | nil =>
        go_wp2
        go_ret
        rw [Hq.out]
        exact ⟨Hb.out, rfl⟩
      | cons a nm =>
        go_wp2
        go_ret
        rw [Hq.out]
        exact ⟨Hb.out, by simp⟩
end Go.Proofs.YtjmmecokfijglaaGreatDoor
namespace Go.Proofs.YtjmmecokfijglaaGreatDoor
open Go.ChangeShapes Go.WideShapes Go.ChangeAt Go.RowKit Go.Maps

def Mb.num (m : Mb) : Nat → Int
  | 0 => m.mode | 1 => m.major | _ => m.minor
def numsC (m : Mb) : List Value := [.int .i64 m.mode, .int .i64 m.major, .int .i64 m.minor]
theorem numsC_at (m : Mb) (k : Nat) (hk : k < 3) : (numsC m)[k]? = some (.int .i64 (m.num k)) := by
  rcases lt3 hk with rfl | rfl | rfl <;> rfl

set_option maxRecDepth 100000 in
set_option maxHeartbeats 1000000 in
theorem numbersRight_ok (m : Mb) (w : World) (hn : ∀ k, k < 3 → 0 ≤ m.num k ∧ m.num k ≤ 2097151) (hu : 0 ≤ m.uid ∧ m.uid ≤ 9007199254740991) (hg : 0 ≤ m.gid ∧ m.gid ≤ 9007199254740991) (hs : stRight m.sec m.nsec = true) :
    Calls Tryz.prog 146 #[m.val] w fun e w' => Below w.heap.size w w' ∧ e = .returned (.bool true) := by
  have Ho := Holds.new w 34 m.cells
  have hcw := fun k hk => numsC_at m k hk
  unfold numsC at hcw
  have h0 : m.cells[3]? = some (.int .i64 m.mode) := rfl
  have h1 : m.cells[8]? = some (.int .i64 m.major) := rfl
  have h2 : m.cells[9]? = some (.int .i64 m.minor) := rfl
  have h3 : m.cells[4]? = some (.int .i64 m.uid) := rfl
  have h4 : m.cells[5]? = some (.int .i64 m.gid) := rfl
  have h5 : m.cells[10]? = some (.int .i64 m.sec) := rfl
  have h6 : m.cells[11]? = some (.int .i64 m.nsec) := rfl
  have hnum := fun (k : Nat) (hk : k < 3) w1 => atIsIn_any (m.num k) 2097151 w1
  have hnum : ∀ (k : Nat), k < 3 → ∀ w1 : World, Calls Tryz.prog 85 #[.int .i64 (m.num k), .int .i64 2097151] w1 fun e w' => w1 = w' ∧ e = .returned (.bool true) := fun k hk w1 => by
    have h := atIsIn_any (m.num k) 2097151 w1
    rw [decide_eq_true (hn k hk)] at h
    exact h
  have huid := fun w1 => atIsIn_any m.uid 9007199254740991 w1
  rw [decide_eq_true hu] at huid
  have hgid := fun w1 => atIsIn_any m.gid 9007199254740991 w1
  rw [decide_eq_true hg] at hgid
  have hst := fun w1 => stRight_any m.sec m.nsec w1
  rw [hs] at hst
  have Hnum := Lib.hid hnum
  have Huid := Lib.hid huid
  have Hgid := Lib.hid hgid
  have Hst := Lib.hid hst
  clear hnum huid hgid hst hn hu hg hs
  unfold Mb.val
  generalize m.num = nt at *
  generalize m.mode = nm at *
  generalize m.major = lk at *
  generalize m.minor = un at *
  generalize m.uid = ud at *
  generalize m.gid = gd at *
  generalize m.sec = sc at *
  generalize m.nsec = ns at *
  generalize m.cells = C at *
  generalize hA : w.alloc (.cells C.toArray 34) = wa at *
  have hsz : wa.heap.size = w.heap.size + 1 := by rw [← hA]; simp
  have Hb0 := Lib.hid (show Below w.heap.size w wa by rw [← hA]; exact (Below.refl _ _).alloc (Nat.le_refl _) _)
  have c0 := Ho.at h0
  have c1 := Ho.at h1
  have c2 := Ho.at h2
  have H3 := Lib.hid h3
  have H4 := Lib.hid h4
  have H5 := Lib.hid h5
  have H6 := Lib.hid h6
  have Hcw := Lib.hid hcw
  have Ho0 := Lib.hid Ho
  clear h0 h1 h2 h3 h4 h5 h6 Ho hcw
  go_enter Tryz.func146, Tryz.ntmps146
  go_wp2
  go_loopw [13] (fun i wr => ∃ k : Nat, k ≤ 3 ∧ i = .int .i64 k ∧ Holds wr w.heap.size 34 C ∧ Holds wr (w.heap.size + 1) 3 [.int .i64 nm, .int .i64 lk, .int .i64 un] ∧ Below w.heap.size w wr) (fun i _ => 3 - (intOf i).toNat)
  case atStart =>
    refine ⟨0, by omega, rfl, Ho0.out.behind _, ?_, Hb0.out.alloc (by omega) _⟩
    rw [← hsz]
    exact Holds.new wa _ _
  case round =>
    clear c0 c1 c2 Ho0 Hb0
    obtain ⟨k, hk, rfl, h0, h1, hb⟩ := hrel
    have Hm := Lib.hid h0
    have H1 := Lib.hid h1
    have Hb := Lib.hid hb
    clear h0 h1 hb
    by_cases hlt : k < 3
    · have c1 := H1.out.at (Hcw.out k hlt)
      have Hc := Lib.hid (Hnum.out k hlt)
      clear Hnum
      generalize nt k = x at *
      go_wp2_with fail
      refine (Hc.out _).mono ?_
      rintro e w' ⟨rfl, rfl⟩
      go_wp2
      go_roundw
      case rel => exact ⟨k + 1, by omega, by go_num, Hm.out, H1.out, Hb.out⟩
      case measure => simp [intOf]; omega
    · have c3 := Hm.out.at H3.out
      have c4 := Hm.out.at H4.out
      have c5 := Hm.out.at H5.out
      have c6 := Hm.out.at H6.out
      go_wp2_with fail
      refine (Huid.out _).mono ?_
      rintro e w' ⟨rfl, rfl⟩
      go_wp2_with fail
      refine (Hgid.out _).mono ?_
      rintro e w' ⟨rfl, rfl⟩
      go_wp2_with fail
      refine (Hst.out _).mono ?_
      rintro e w2 ⟨hb2, rfl⟩
      have Hb2 := Lib.hid (Hb.out.trans (hb2.mono Hb.out.size))
      clear hb2
      go_wp2
      go_ret
      exact ⟨Hb2.out, rfl⟩

theorem extraRight_nil (w : World) :
    Calls Tryz.prog 145 #[.slice none 0 0] w fun e w' => Below w.heap.size w w' ∧ e = .returned (.bool true) := by
  go_enter Tryz.func145, Tryz.ntmps145
  go_wp2_with fail
  refine (known_any w).mono ?_
  rintro e w1 ⟨hb, t, -, -, -, rfl⟩
  have Hb := Lib.hid hb
  clear hb
  go_wp2
  go_loop [12] (fun i => i = .int .i64 0) (fun _ => 0)
  case atStart => exact rfl
  case round =>
    obtain rfl := hrel
    go_wp2
    go_ret
    exact ⟨Hb.out, rfl⟩

set_option maxRecDepth 100000 in
theorem right_ok (m : Mb) (w : World) (hx : m.extra = .slice none 0 0) (ht : mbTexts m = true) (hn : ∀ k, k < 3 → 0 ≤ m.num k ∧ m.num k ≤ 2097151) (hu : 0 ≤ m.uid ∧ m.uid ≤ 9007199254740991) (hg : 0 ≤ m.gid ∧ m.gid ≤ 9007199254740991) (hs : stRight m.sec m.nsec = true) :
    Calls Tryz.prog 84 #[m.val] w fun e w' => Below w.heap.size w w' ∧ e = .returned (.int .i64 0) := by
  have Ht := fun w1 => textsRight_any m w1
  rw [ht] at Ht
  have H1 := Lib.hid Ht
  have H2 := Lib.hid (fun w1 => numbersRight_ok m w1 hn hu hg hs)
  have h12 : m.cells[12]? = some (.slice none 0 0) := by rw [← hx]; rfl
  have Ho := Lib.hid (Holds.new w 34 m.cells)
  have Hs := Lib.hid (show (Tryz.prog.info? 34).map (·.size) = some m.cells.toArray.size by
    have h : (Tryz.prog.info? 34).map (·.size) = some 14 := by kernel_rfl
    rw [h]; rfl)
  have H12 := Lib.hid h12
  unfold Mb.val at H1 H2 ⊢
  generalize m.cells = C at *
  clear hx ht hn hu hg hs h12 Ht
  go_enter Tryz.func84, Tryz.ntmps84
  go_wp2_with (first
    | (refine wpList_load_row (by rfl) 34 _ (by rfl) w.heap.size (by rfl) _ _ _ _ Ho.out Tryz.underlying34 rfl Hs.out ?_)
    | fail)
  refine (H1.out _).mono ?_
  rintro e w1 ⟨hb1, rfl⟩
  have Hb1 := Lib.hid (((Below.refl w.heap.size w).alloc (Nat.le_refl _) _).trans (hb1.mono (by simp)))
  have Ho1 := Lib.hid (Ho.out.under hb1 Ho.out.lt)
  clear hb1 Ho
  have c12 := Ho1.out.at H12.out
  go_wp2_with fail
  refine (extraRight_nil _).mono ?_
  rintro e w2 ⟨hb2, rfl⟩
  have Hb2 := Lib.hid (Hb1.out.trans (hb2.mono Hb1.out.size))
  have Ho2 := Lib.hid (Ho1.out.under hb2 Ho1.out.lt)
  clear hb2 Ho1 c12
  go_wp2_with (first
    | (refine wpList_load_row (by rfl) 34 _ (by rfl) w.heap.size (by rfl) _ _ _ _ Ho2.out Tryz.underlying34 rfl Hs.out ?_)
    | fail)
  refine (H2.out _).mono ?_
  rintro e w3 ⟨hb3, rfl⟩
  have Hb3 := Lib.hid (Hb2.out.trans (hb3.mono Hb2.out.size))
  clear hb3
  go_wp2
  go_ret
  exact ⟨Hb3.out, rfl⟩
end Go.Proofs.YtjmmecokfijglaaGreatDoor
namespace Go.Proofs.YtjmmecokfijglaaGreatDoor
open Go.ChangeShapes Go.WideShapes Go.ChangeAt Go.RowKit

theorem refStRight_any (s n : Int) (w : World) :
    Calls Tryz.prog 83 #[.int .i64 s, .int .i64 n] w fun e w' => w = w' ∧ e = .returned (.bool (stRight s n)) := by
  unfold stRight
  by_cases h1 : -9007199254740991 ≤ s
  · have d1 : decide (-9007199254740991 ≤ s) = true := decide_eq_true h1
    by_cases h2 : s ≤ 9007199254740991
    · have d2 : decide (s ≤ 9007199254740991) = true := decide_eq_true h2
      by_cases h3 : 0 ≤ n
      · have d3 : decide (0 ≤ n) = true := decide_eq_true h3
        have Hq := Lib.hid (show decide (n ≤ 999999999) = decide (-9007199254740991 ≤ s ∧ s ≤ 9007199254740991 ∧ 0 ≤ n ∧ n ≤ 999999999) by rw [decide_eq_decide]; omega)
        clear h1 h2 h3
        go_enter Tryz.func83, Tryz.ntmps83
        go_wp2
        go_ret
        rw [← Hq.out]
        exact ⟨rfl, rfl⟩
      · have d3 : decide (0 ≤ n) = false := decide_eq_false h3
        have Hq := Lib.hid (show decide (-9007199254740991 ≤ s ∧ s ≤ 9007199254740991 ∧ 0 ≤ n ∧ n ≤ 999999999) = false from decide_eq_false (by omega))
        clear h1 h2 h3
        go_enter Tryz.func83, Tryz.ntmps83
        go_wp2
        go_ret
        rw [Hq.out]
        exact ⟨rfl, rfl⟩
    · have d2 : decide (s ≤ 9007199254740991) = false := decide_eq_false h2
      have Hq := Lib.hid (show decide (-9007199254740991 ≤ s ∧ s ≤ 9007199254740991 ∧ 0 ≤ n ∧ n ≤ 999999999) = false from decide_eq_false (by omega))
      clear h1 h2
      go_enter Tryz.func83, Tryz.ntmps83
      go_wp2
      go_ret
      rw [Hq.out]
      exact ⟨rfl, rfl⟩
  · have d1 : decide (-9007199254740991 ≤ s) = false := decide_eq_false h1
    have Hq := Lib.hid (show decide (-9007199254740991 ≤ s ∧ s ≤ 9007199254740991 ∧ 0 ≤ n ∧ n ≤ 999999999) = false from decide_eq_false (by omega))
    clear h1
    go_enter Tryz.func83, Tryz.ntmps83
    go_wp2
    go_ret
    rw [Hq.out]
    exact ⟨rfl, rfl⟩

theorem digit_any (b : Int) (w : World) :
    Calls Tryz.prog 82 #[.int .u8 b] w fun e w' => w = w' ∧ e = .returned (.bool (decide (48 ≤ b ∧ b ≤ 57))) := by
  by_cases h : 48 ≤ b
  · have d1 : decide ((48 : Int) ≤ b) = true := decide_eq_true h
    have Hq := Lib.hid (show decide (b ≤ 57) = decide (48 ≤ b ∧ b ≤ 57) by rw [decide_eq_decide]; omega)
    clear h
    go_enter Tryz.func82, Tryz.ntmps82
    go_wp2
    go_ret
    rw [← Hq.out]
    exact ⟨rfl, rfl⟩
  · have d1 : decide ((48 : Int) ≤ b) = false := decide_eq_false h
    have Hq := Lib.hid (show decide (48 ≤ b ∧ b ≤ 57) = false from decide_eq_false (fun e => h e.1))
    clear h
    go_enter Tryz.func82, Tryz.ntmps82
    go_wp2
    go_ret
    rw [Hq.out]
    exact ⟨rfl, rfl⟩
end Go.Proofs.YtjmmecokfijglaaGreatDoor
