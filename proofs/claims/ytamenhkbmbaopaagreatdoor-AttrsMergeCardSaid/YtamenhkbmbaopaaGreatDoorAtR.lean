/-
  Contracts of attrs.Right and of what it calls.
-/
import Derived.Test.YtamenhkbmbaopaaGreatDoorAtQ
namespace Go.Proofs.YtamenhkbmbaopaaGreatDoor
open Go.ChangeShapes Go.WideShapes Go.ChangeAt Go.RowKit Go.Maps

/-- A member. -/
structure Mb where
  name : List UInt8
  link : List UInt8
  kind : Int
  mode : Int
  uid : Int
  gid : Int
  uname : List UInt8
  gname : List UInt8
  major : Int
  minor : Int
  sec : Int
  nsec : Int
  extra : Value
  data : List UInt8
def Mb.cells (m : Mb) : List Value := [.string ⟨m.name.toArray⟩, .string ⟨m.link.toArray⟩, .int .u8 m.kind, .int .i64 m.mode, .int .i64 m.uid, .int .i64 m.gid, .string ⟨m.uname.toArray⟩, .string ⟨m.gname.toArray⟩, .int .i64 m.major, .int .i64 m.minor, .int .i64 m.sec, .int .i64 m.nsec, m.extra, .string ⟨m.data.toArray⟩]
def Mb.val (m : Mb) : Value := .agg m.cells.toArray
def Mb.word (m : Mb) : Nat → List UInt8
  | 0 => m.name | 1 => m.link | 2 => m.uname | _ => m.gname
def wordsC (m : Mb) : List Value := [.string ⟨m.name.toArray⟩, .string ⟨m.link.toArray⟩, .string ⟨m.uname.toArray⟩, .string ⟨m.gname.toArray⟩]
theorem lt4 {k : Nat} (h : k < 4) : k = 0 ∨ k = 1 ∨ k = 2 ∨ k = 3 := by omega
theorem wordsC_at (m : Mb) (k : Nat) (hk : k < 4) : (wordsC m)[k]? = some (.string ⟨(m.word k).toArray⟩) := by
  rcases lt4 hk with rfl | rfl | rfl | rfl <;> rfl
def mbTexts (m : Mb) : Bool := decide ((0 ∉ m.word 0 ∧ 0 ∉ m.word 1 ∧ 0 ∉ m.word 2 ∧ 0 ∉ m.word 3) ∧ m.name ≠ [])
theorem mbTexts_no (m : Mb) (k : Nat) (hk : k < 4) (h : 0 ∈ m.word k) : mbTexts m = false := decide_eq_false (fun h2 => by
  obtain ⟨⟨a0, a1, a2, a3⟩, -⟩ := h2
  rcases lt4 hk with rfl | rfl | rfl | rfl
  · exact a0 h
  · exact a1 h
  · exact a2 h
  · exact a3 h)
theorem mbTexts_yes (m : Mb) (h : ∀ k, k < 4 → 0 ∉ m.word k) : mbTexts m = !decide (m.name = []) := by
  unfold mbTexts
  by_cases hn : m.name = []
  · rw [decide_eq_false (fun h2 => h2.2 hn), decide_eq_true hn]; rfl
  · rw [decide_eq_true ⟨⟨h 0 (by omega), h 1 (by omega), h 2 (by omega), h 3 (by omega)⟩, hn⟩, decide_eq_false hn]; rfl

set_option maxRecDepth 100000 in
set_option maxHeartbeats 1000000 in
theorem textsRight_any (m : Mb) (w : World) :
    Calls Tryz.prog 94 #[m.val] w fun e w' => Below w.heap.size w w' ∧ e = .returned (.bool (mbTexts m)) := by
  have Hn := Lib.hid (fun k hk => mbTexts_no m k hk)
  have Hy := Lib.hid (mbTexts_yes m)
  have Ho := Holds.new w 34 m.cells
  have hcw := fun k hk => wordsC_at m k hk
  unfold wordsC at hcw
  have h0 : m.cells[0]? = some (.string ⟨m.name.toArray⟩) := rfl
  have h1 : m.cells[1]? = some (.string ⟨m.link.toArray⟩) := rfl
  have h2 : m.cells[6]? = some (.string ⟨m.uname.toArray⟩) := rfl
  have h3 : m.cells[7]? = some (.string ⟨m.gname.toArray⟩) := rfl
  unfold Mb.val
  generalize mbTexts m = R at *
  generalize m.word = wt at *
  generalize m.name = nm at *
  generalize m.link = lk at *
  generalize m.uname = un at *
  generalize m.gname = gn at *
  generalize m.cells = C at *
  generalize hA : w.alloc (.cells C.toArray 34) = wa at *
  have hsz : wa.heap.size = w.heap.size + 1 := by rw [← hA]; simp
  have Hb0 := Lib.hid (show Below w.heap.size w wa by rw [← hA]; exact (Below.refl _ _).alloc (Nat.le_refl _) _)
  have c0 := Ho.at h0
  have c1 := Ho.at h1
  have c2 := Ho.at h2
  have c3 := Ho.at h3
  have H0 := Lib.hid h0
  have Hcw := Lib.hid hcw
  have Ho0 := Lib.hid Ho
  clear h0 h1 h2 h3 Ho hcw
  go_enter Tryz.func94, Tryz.ntmps94
  go_wp2
  go_loopw [15] (fun i wr => ∃ k : Nat, k ≤ 4 ∧ i = .int .i64 k ∧ Holds wr w.heap.size 34 C ∧ Holds wr (w.heap.size + 1) 9 [.string ⟨nm.toArray⟩, .string ⟨lk.toArray⟩, .string ⟨un.toArray⟩, .string ⟨gn.toArray⟩] ∧ Below w.heap.size w wr ∧ ∀ j, j < k → 0 ∉ wt j) (fun i _ => 4 - (intOf i).toNat)
  case atStart =>
    refine ⟨0, by omega, rfl, Ho0.out.behind _, ?_, Hb0.out.alloc (by omega) _, by intro j hj; omega⟩
    rw [← hsz]
    exact Holds.new wa _ _
  case round =>
    clear c0 c1 c2 c3 Ho0 Hb0
    obtain ⟨k, hk, rfl, h0, h1, hb, hno⟩ := hrel
    have Hm := Lib.hid h0
    have H1 := Lib.hid h1
    have Hb := Lib.hid hb
    have Hno := Lib.hid hno
    clear h0 h1 hb hno
    by_cases hlt : k < 4
    · have c1 := H1.out.at (Hcw.out k hlt)
      by_cases hz : 0 ∈ wt k
      · have Hq := Lib.hid (Hn.out k hlt hz)
        have Hc := Lib.hid (fun w => contains_nul (wt k) w)
        rw [decide_eq_true hz] at Hc
        clear hz
        generalize wt k = x at *
        go_wp2_with fail
        refine (Hc.out _).mono ?_
        rintro e w' ⟨rfl, rfl⟩
        go_wp2
        go_ret
        rw [Hq.out]
        exact ⟨Hb.out, rfl⟩
      · have Hc := Lib.hid (fun w => contains_nul (wt k) w)
        rw [decide_eq_false hz] at Hc
        have Hno' := Lib.hid (show ∀ j, j < k + 1 → 0 ∉ wt j by
          intro j hj
          rcases Nat.lt_succ_iff_lt_or_eq.1 hj with h | rfl
          · exact Hno.out j h
          · exact hz)
        clear hz
        generalize hx : wt k = x at *
        clear hx
        go_wp2_with fail
        refine (Hc.out _).mono ?_
        rintro e w' ⟨rfl, rfl⟩
        go_wp2
        go_roundw
        case rel => exact ⟨k + 1, by omega, by go_num, Hm.out, H1.out, Hb.out, Hno'.out⟩
        case measure => simp [intOf]; omega
    · have Hq := Lib.hid (Hy.out (fun j hj => Hno.out j (by omega)))
      have c0 := Hm.out.at H0.out
      cases nm with
      | nil =>
        go_wp2
        go_ret
        rw [Hq.out]
        exact ⟨Hb.out, rfl⟩
      | cons a nm =>
        go_wp2
        go_ret
        rw [Hq.out]
        exact ⟨Hb.out, by simp⟩
end Go.Proofs.YtamenhkbmbaopaaGreatDoor
