/-
  attrs.Right at a member that is right, without extras.
-/
import Derived.Test.YtamenhkbmbaopaaGreatDoorAtR
namespace Go.Proofs.YtamenhkbmbaopaaGreatDoor
open Go.ChangeShapes Go.WideShapes Go.ChangeAt Go.RowKit Go.Maps

def Mb.num (m : Mb) : Nat → Int
  | 0 => m.mode | 1 => m.major | _ => m.minor
def numsC (m : Mb) : List Value := [.int .i64 m.mode, .int .i64 m.major, .int .i64 m.minor]
theorem numsC_at (m : Mb) (k : Nat) (hk : k < 3) : (numsC m)[k]? = some (.int .i64 (m.num k)) := by
  rcases lt3 hk with rfl | rfl | rfl <;> rfl

set_option maxRecDepth 100000 in
set_option maxHeartbeats 1000000 in
theorem numbersRight_ok (m : Mb) (w : World) (hn : ∀ k, k < 3 → 0 ≤ m.num k ∧ m.num k ≤ 2097151) (hu : 0 ≤ m.uid ∧ m.uid ≤ 9007199254740991) (hg : 0 ≤ m.gid ∧ m.gid ≤ 9007199254740991) (hs : stRight m.sec m.nsec = true) :
    Calls Tryz.prog 96 #[m.val] w fun e w' => Below w.heap.size w w' ∧ e = .returned (.bool true) := by
  have Ho := Holds.new w 34 m.cells
  have hcw := fun k hk => numsC_at m k hk
  unfold numsC at hcw
  have h0 : m.cells[3]? = some (.int .i64 m.mode) := rfl
  have h1 : m.cells[8]? = some (.int .i64 m.major) := rfl
  have h2 : m.cells[9]? = some (.int .i64 m.minor) := rfl
  have h3 : m.cells[4]? = some (.int .i64 m.uid) := rfl
  have h4 : m.cells[5]? = some (.int .i64 m.gid) := rfl
  have h5 : m.cells[10]? = some (.int .i64 m.sec) := rfl
  have h6 : m.cells[11]? = some (.int .i64 m.nsec) := rfl
  have hnum := fun (k : Nat) (hk : k < 3) w1 => atIsIn_any (m.num k) 2097151 w1
  have hnum : ∀ (k : Nat), k < 3 → ∀ w1 : World, Calls Tryz.prog 59 #[.int .i64 (m.num k), .int .i64 2097151] w1 fun e w' => w1 = w' ∧ e = .returned (.bool true) := fun k hk w1 => by
    have h := atIsIn_any (m.num k) 2097151 w1
    rw [decide_eq_true (hn k hk)] at h
    exact h
  have huid := fun w1 => atIsIn_any m.uid 9007199254740991 w1
  rw [decide_eq_true hu] at huid
  have hgid := fun w1 => atIsIn_any m.gid 9007199254740991 w1
  rw [decide_eq_true hg] at hgid
  have hst := fun w1 => stRight_any m.sec m.nsec w1
  rw [hs] at hst
  have Hnum := Lib.hid hnum
  have Huid := Lib.hid huid
  have Hgid := Lib.hid hgid
  have Hst := Lib.hid hst
  clear hnum huid hgid hst hn hu hg hs
  unfold Mb.val
  generalize m.num = nt at *
  generalize m.mode = nm at *
  generalize m.major = lk at *
  generalize m.minor = un at *
  generalize m.uid = ud at *
  generalize m.gid = gd at *
  generalize m.sec = sc at *
  generalize m.nsec = ns at *
  generalize m.cells = C at *
  generalize hA : w.alloc (.cells C.toArray 34) = wa at *
  have hsz : wa.heap.size = w.heap.size + 1 := by rw [← hA]; simp
  have Hb0 := Lib.hid (show Below w.heap.size w wa by rw [← hA]; exact (Below.refl _ _).alloc (Nat.le_refl _) _)
  have c0 := Ho.at h0
  have c1 := Ho.at h1
  have c2 := Ho.at h2
  have H3 := Lib.hid h3
  have H4 := Lib.hid h4
  have H5 := Lib.hid h5
  have H6 := Lib.hid h6
  have Hcw := Lib.hid hcw
  have Ho0 := Lib.hid Ho
  clear h0 h1 h2 h3 h4 h5 h6 Ho hcw
  go_enter Tryz.func96, Tryz.ntmps96
  go_wp2
  go_loopw [13] (fun i wr => ∃ k : Nat, k ≤ 3 ∧ i = .int .i64 k ∧ Holds wr w.heap.size 34 C ∧ Holds wr (w.heap.size + 1) 3 [.int .i64 nm, .int .i64 lk, .int .i64 un] ∧ Below w.heap.size w wr) (fun i _ => 3 - (intOf i).toNat)
  case atStart =>
    refine ⟨0, by omega, rfl, Ho0.out.behind _, ?_, Hb0.out.alloc (by omega) _⟩
    rw [← hsz]
    exact Holds.new wa _ _
  case round =>
    clear c0 c1 c2 Ho0 Hb0
    obtain ⟨k, hk, rfl, h0, h1, hb⟩ := hrel
    have Hm := Lib.hid h0
    have H1 := Lib.hid h1
    have Hb := Lib.hid hb
    clear h0 h1 hb
    by_cases hlt : k < 3
    · have c1 := H1.out.at (Hcw.out k hlt)
      have Hc := Lib.hid (Hnum.out k hlt)
      clear Hnum
      generalize nt k = x at *
      go_wp2_with fail
      refine (Hc.out _).mono ?_
      rintro e w' ⟨rfl, rfl⟩
      go_wp2
      go_roundw
      case rel => exact ⟨k + 1, by omega, by go_num, Hm.out, H1.out, Hb.out⟩
      case measure => simp [intOf]; omega
    · have c3 := Hm.out.at H3.out
      have c4 := Hm.out.at H4.out
      have c5 := Hm.out.at H5.out
      have c6 := Hm.out.at H6.out
      go_wp2_with fail
      refine (Huid.out _).mono ?_
      rintro e w' ⟨rfl, rfl⟩
      go_wp2_with fail
      refine (Hgid.out _).mono ?_
      rintro e w' ⟨rfl, rfl⟩
      go_wp2_with fail
      refine (Hst.out _).mono ?_
      rintro e w2 ⟨hb2, rfl⟩
      have Hb2 := Lib.hid (Hb.out.trans (hb2.mono Hb.out.size))
      clear hb2
      go_wp2
      go_ret
      exact ⟨Hb2.out, rfl⟩

theorem extraRight_nil (w : World) :
    Calls Tryz.prog 95 #[.slice none 0 0] w fun e w' => Below w.heap.size w w' ∧ e = .returned (.bool true) := by
  go_enter Tryz.func95, Tryz.ntmps95
  go_wp2_with fail
  refine (known_any w).mono ?_
  rintro e w1 ⟨hb, t, -, -, -, rfl⟩
  have Hb := Lib.hid hb
  clear hb
  go_wp2
  go_loop [12] (fun i => i = .int .i64 0) (fun _ => 0)
  case atStart => exact rfl
  case round =>
    obtain rfl := hrel
    go_wp2
    go_ret
    exact ⟨Hb.out, rfl⟩

set_option maxRecDepth 100000 in
theorem right_ok (m : Mb) (w : World) (hx : m.extra = .slice none 0 0) (ht : mbTexts m = true) (hn : ∀ k, k < 3 → 0 ≤ m.num k ∧ m.num k ≤ 2097151) (hu : 0 ≤ m.uid ∧ m.uid ≤ 9007199254740991) (hg : 0 ≤ m.gid ∧ m.gid ≤ 9007199254740991) (hs : stRight m.sec m.nsec = true) :
    Calls Tryz.prog 58 #[m.val] w fun e w' => Below w.heap.size w w' ∧ e = .returned (.int .i64 0) := by
  have Ht := fun w1 => textsRight_any m w1
  rw [ht] at Ht
  have H1 := Lib.hid Ht
  have H2 := Lib.hid (fun w1 => numbersRight_ok m w1 hn hu hg hs)
  have h12 : m.cells[12]? = some (.slice none 0 0) := by rw [← hx]; rfl
  have Ho := Lib.hid (Holds.new w 34 m.cells)
  have Hs := Lib.hid (show (Tryz.prog.info? 34).map (·.size) = some m.cells.toArray.size by
    have h : (Tryz.prog.info? 34).map (·.size) = some 14 := by kernel_rfl
    rw [h]; rfl)
  have H12 := Lib.hid h12
  unfold Mb.val at H1 H2 ⊢
  generalize m.cells = C at *
  clear hx ht hn hu hg hs h12 Ht
  go_enter Tryz.func58, Tryz.ntmps58
  go_wp2_with (first
    | (refine wpList_load_row (by rfl) 34 _ (by rfl) w.heap.size (by rfl) _ _ _ _ Ho.out Tryz.underlying34 rfl Hs.out ?_)
    | fail)
  refine (H1.out _).mono ?_
  rintro e w1 ⟨hb1, rfl⟩
  have Hb1 := Lib.hid (((Below.refl w.heap.size w).alloc (Nat.le_refl _) _).trans (hb1.mono (by simp)))
  have Ho1 := Lib.hid (Ho.out.under hb1 Ho.out.lt)
  clear hb1 Ho
  have c12 := Ho1.out.at H12.out
  go_wp2_with fail
  refine (extraRight_nil _).mono ?_
  rintro e w2 ⟨hb2, rfl⟩
  have Hb2 := Lib.hid (Hb1.out.trans (hb2.mono Hb1.out.size))
  have Ho2 := Lib.hid (Ho1.out.under hb2 Ho1.out.lt)
  clear hb2 Ho1 c12
  go_wp2_with (first
    | (refine wpList_load_row (by rfl) 34 _ (by rfl) w.heap.size (by rfl) _ _ _ _ Ho2.out Tryz.underlying34 rfl Hs.out ?_)
    | fail)
  refine (H2.out _).mono ?_
  rintro e w3 ⟨hb3, rfl⟩
  have Hb3 := Lib.hid (Hb2.out.trans (hb3.mono Hb2.out.size))
  clear hb3
  go_wp2
  go_ret
  exact ⟨Hb3.out, rfl⟩
end Go.Proofs.YtamenhkbmbaopaaGreatDoor
