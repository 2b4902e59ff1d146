/-
  Texts of this seat's proof, joined: their order is that of the build.
-/
import Derived.Test.YtjmmecokfijglaaGreatDoorJB18
import Derived.Test.YtjmmecokfijglaaGreatDoorJB24
import Derived.Test.YtjmmecokfijglaaGreatDoorJB16
import Derived.Test.YtjmmecokfijglaaGreatDoorJB23
namespace Go.Proofs.YtjmmecokfijglaaGreatDoor
open Go.ChangeShapes Go.WideShapes Go.ChangeAt Go.RowKit Go.Maps

theorem builtZ : Tryz.prog.built 34 [] = some mZero.cells.toArray := by kernel_rfl
theorem infoMb : (Tryz.prog.info? 34).map (fun i => (i.zero, i.size)) = some (some (.agg mZero.cells.toArray), 14) := by kernel_rfl
theorem mb_size (m : Mb) : (Tryz.prog.info? 34).map (·.size) = some m.cells.toArray.size := by
  rw [show m.cells.toArray.size = 14 from rfl]; exact (zero_of_info infoMb).2
theorem mb_one (m : Mb) (v : Value) (hv : v.oneCell' = true) : (m.ex v).cells.toArray.all (·.oneCell') = true := by
  simp [Mb.ex, Mb.cells, Value.oneCell']
  exact hv

def ApPost (W : World) (R : ApR) (e : Ending) (w' : World) : Prop := Below W.heap.size W w' ∧ ∃ v, e = .returned (.tuple #[(R.m.ex v).val, .int .i64 R.n, .int .i64 R.e]) ∧ OwnP w' W.heap.size v R.l
end Go.Proofs.YtjmmecokfijglaaGreatDoor
namespace Go.Proofs.YtjmmecokfijglaaGreatDoor
open Go.ChangeShapes Go.WideShapes Go.ChangeAt Go.RowKit Go.Maps

theorem dec2_len {s n : Int} (h : 0 ≤ s ∧ s ≤ 9007199254740991) : (dec2 s n).length ≤ 30 := by
  have h1 := digits16 h
  have h2 := trimN_length (digN 9 n.toNat)
  rw [digN_length] at h2
  unfold dec2
  split
  · simp only [List.append_nil]; omega
  · simp only [List.length_append, List.length_cons]; omega
theorem stText_short {s n : Int} (h : stRight s n = true) : (stText s n).length ≤ 64 := by
  have h2 := stRight_true h
  unfold stText
  split
  · have : 0 ≤ (stOpp s n).1 ∧ (stOpp s n).1 ≤ 9007199254740991 := by unfold stOpp; split <;> simp only <;> omega
    have := dec2_len (n := (stOpp s n).2) this
    simp only [List.length_cons]
    omega
  · have := dec2_len (s := s) (n := n) (by omega)
    omega

/-- May these records be a member's own? -/
def exRight : List UInt8 → List Pr → Bool
  | _, [] => true
  | last, p :: r => bytesBefore last p.1 && !isKnown p.1 && !decide (61 ∈ p.1) && !p.2.isEmpty && exRight p.1 r
theorem exRight_no {l : List Pr} {last : List UInt8} {k : Nat} (hk : k < l.length) (h : (bytesBefore last l[k].1 && !isKnown l[k].1 && !decide (61 ∈ l[k].1) && !l[k].2.isEmpty) = false) : exRight last (l.drop k) = false := by
  rw [List.drop_eq_getElem_cons hk, exRight, h]; rfl
theorem exRight_yes {l : List Pr} {last : List UInt8} {k : Nat} (hk : k < l.length) (h : (bytesBefore last l[k].1 && !isKnown l[k].1 && !decide (61 ∈ l[k].1) && !l[k].2.isEmpty) = true) : exRight last (l.drop k) = exRight l[k].1 (l.drop (k + 1)) := by
  rw [List.drop_eq_getElem_cons hk, exRight, h]; rfl
theorem exRight_end {l : List Pr} {last : List UInt8} : exRight last (l.drop l.length) = true := by rw [List.drop_length]; rfl

theorem index_byte (c : UInt8) (l : List UInt8) : Lib.contains l [c] = decide (c ∈ l) := by
  unfold Lib.contains
  rw [Lib.index_one]
  induction l with
  | nil => rfl
  | cons b l ih =>
    have hge := Lib.indexByte_ge l c
    unfold Lib.indexByte
    by_cases h : b = c
    · subst h; simp
    · have h1 : (b == c) = false := by simpa using h
      have h2 : decide (c ∈ b :: l) = decide (c ∈ l) := by rw [decide_eq_decide]; simp [Ne.symm h]
      rw [h1, h2, ← ih]
      by_cases h3 : Lib.indexByte l c = -1
      · simp [h3]
      · have h4 : (Lib.indexByte l c == -1) = false := by simpa using h3
        simp only [h4, Bool.false_eq_true, if_false]
        rw [decide_eq_decide]
        omega
theorem contains_eq (l : List UInt8) (c : UInt8) (w : World) :
    Calls Tryz.prog 135 #[.string ⟨l.toArray⟩, .string ⟨#[c]⟩] w fun e w' => w = w' ∧ e = .returned (.bool (decide (c ∈ l))) := by
  refine (Tryz.strings_Contains_one ⟨l.toArray⟩ c w).mono ?_
  rintro e w' ⟨rfl, rfl⟩
  refine ⟨rfl, ?_⟩
  have h := index_byte c l
  unfold Lib.contains at h
  rw [Lib.index_one] at h
  rw [← h]

theorem known_some (t : Tbl) (x : List UInt8) : ∃ cs : Array Value, (knownD t).atKey (.string x) (.held zField) = .held (.agg cs) ∧ cs.size = 3 ∧ cs.all (·.oneCell') = true := by
  cases h : isKnown x with
  | false => exact ⟨#[.nilFunc, .nilFunc, .nilFunc], known_at t x _ h, rfl, by simp [Value.oneCell']⟩
  | true =>
    have h2 := of_decide_eq_true h
    rw [knownD_eq]
    rcases h2 with rfl | rfl | rfl | rfl | rfl | rfl | rfl | rfl <;> exact ⟨_, rfl, rfl, by simp [Value.oneCell']⟩

set_option maxRecDepth 100000 in
set_option maxHeartbeats 1000000 in
theorem extraRight_any (l : List Pr) (al : Option Addr) (cl : Nat) (w : World) (hl : PairsIn w (.slice al l.length cl) l) (hfl : prFits 140737488355328 l) (hlen : l.length ≤ 4398046511104) :
    Calls Tryz.prog 145 #[.slice al l.length cl] w fun e w' => Below w.heap.size w w' ∧ e = .returned (.bool (exRight [] l)) := by
  have Hl := Lib.hid hl.cells
  have Hfl := Lib.hid hfl
  have Hlen := Lib.hid hlen
  have HR0 := Lib.hid (show exRight [] (l.drop 0) = exRight [] l from rfl)
  generalize exRight [] l = R at *
  clear hl hfl hlen
  go_enter Tryz.func145, Tryz.ntmps145
  go_wp2_with fail
  refine (known_any w).mono ?_
  rintro e w1 ⟨hb, t, hown, -, -, rfl⟩
  have Hb := Lib.hid hb
  have Hown := Lib.hid hown
  clear hb hown
  go_wp2
  go_loopw [4, 12] (fun la i wr => ∃ (k : Nat) (last : List UInt8), i = .int .i64 k ∧ la = .string ⟨last.toArray⟩ ∧ k ≤ l.length ∧ exRight last (l.drop k) = R ∧ Below w1.heap.size w1 wr) (fun _ i _ => l.length - (intOf i).toNat)
  case atStart => exact ⟨0, [], rfl, rfl, Nat.zero_le _, HR0.out, Below.refl _ _⟩
  case round =>
    obtain ⟨k, last, rfl, rfl, hk, hR, hb1⟩ := hrel
    have Hb1 := Lib.hid hb1
    have Hbw := Lib.hid (Hb.out.trans (hb1.mono Hb.out.size))
    have HR := Lib.hid hR
    clear hb1 hR
    by_cases hlt : k < l.length
    · obtain ⟨b, o, rfl, hb0, c1, c2⟩ := Hl.out k hlt
      rw [← Hbw.out.cell (p := ⟨b, o + k * 2, none⟩) hb0] at c1
      rw [← Hbw.out.cell (p := ⟨b, o + k * 2 + 1, none⟩) hb0] at c2
      have hpf := Hfl.out _ (List.getElem_mem hlt)
      have Hno := Lib.hid (show (bytesBefore last l[k].1 && !isKnown l[k].1 && !decide (61 ∈ l[k].1) && !l[k].2.isEmpty) = false → R = false from fun h => HR.out.symm.trans (exRight_no hlt h))
      have Hyes := Lib.hid (show (bytesBefore last l[k].1 && !isKnown l[k].1 && !decide (61 ∈ l[k].1) && !l[k].2.isEmpty) = true → exRight l[k].1 (l.drop (k + 1)) = R from fun h => (exRight_yes hlt h).symm.trans HR.out)
      have hkb : (k : Int) ≤ 4398046511104 := by have := Hlen.out; omega
      have hlt2 : (k : Int) < l.length := by omega
      clear HR
      generalize l[k] = p at *
      obtain ⟨x, y⟩ := p
      simp only at c1 c2 hpf Hno Hyes
      have Hkey := Lib.hid (WideMaps.keyOf_string_mk Tryz.underlying9 (s := ⟨x.toArray⟩) (by simp only [ByteArray.size, List.size_toArray]; unfold maxLen; omega))
      have Hhas := Lib.hid (known_has t x)
      have Hct := Lib.hid (fun w2 => contains_eq x 61 w2)
      have hle := leq_run x last
      obtain ⟨fs, hfs, hf3, hf1⟩ := known_some t x
      have Hfs := Lib.hid hfs
      have Hf3 := Lib.hid (show (#[Value.nilFunc, Value.nilFunc, Value.nilFunc] : Array Value).size = fs.size from hf3.symm)
      have Hf1 := Lib.hid hf1
      have Hs1 := Lib.hid (show (Tryz.prog.info? 85).map (·.size) = some fs.size by rw [hf3]; kernel_rfl)
      clear hpf hfs hf3 hf1
      go_upto_region 6 with (fail)
      have Hq := Lib.hid (Holds.new wr 27 [.string ⟨x.toArray⟩, .string ⟨y.toArray⟩])
      have Hbq := Lib.hid (Hb1.out.alloc Hb1.out.size (.cells #[.string ⟨x.toArray⟩, .string ⟨y.toArray⟩] 27))
      generalize wr.alloc (.cells #[.string ⟨x.toArray⟩, .string ⟨y.toArray⟩] 27) = wq at *
      generalize wr.heap.size = qb at *
      have Ho2 := Lib.hid (show wq.ownsMap Tryz.prog 9 heldElem w.heap.size 8 (knownD t) from Hown.out.kept (grown_below Hbq.out none) (by simp))
      have q0 := Hq.out.at (i := 0) (v := .string ⟨x.toArray⟩) rfl
      have q1 := Hq.out.at (i := 1) (v := .string ⟨y.toArray⟩) rfl
      have Hst := Lib.hid (Holds.new wq 85 [.nilFunc, .nilFunc, .nilFunc])
      clear c1 c2
      go_upto_region 7 with (first
        | (refine wpList_look_held _ (by rfl) _ _ 79 (by rfl) 9 85 (string_keyed Tryz.underlying9) Tryz.underlying79 (zero_field _) w.heap.size 8 (knownD t) (by rfl) Ho2.out _ (.string x) (by rfl) Hkey.out (.agg fs) (isKnown x) Hfs.out Hhas.out ?_)
        | (refine wpList_store_row (by rfl) 85 _ _ (by rfl) wq.heap.size fs (by rfl) (by rfl) 85 #[.nilFunc, .nilFunc, .nilFunc] Hst.out Hs1.out (by exact Hf3.out) Hf1.out ?_; rw [World.setRow_alloc_new])
        | fail)
      have Hqf := Lib.hid (Hq.out.behind (.cells fs 85))
      have Hbf := Lib.hid (Hbq.out.alloc Hbq.out.size (.cells fs 85))
      clear Hst q0 q1 Ho2 Hfs Hf3 Hf1 Hs1
      generalize wq.alloc (.cells fs 85) = wf at *
      have q0 := Hqf.out.at (i := 0) (v := .string ⟨x.toArray⟩) rfl
      have q1 := Hqf.out.at (i := 1) (v := .string ⟨y.toArray⟩) rfl
      generalize bytesBefore last x = bf at *
      generalize isKnown x = kn at *
      generalize decide (61 ∈ x) = eq at *
      have Hbx := Lib.hid (show Below w.heap.size w wf from Hb.out.trans (Hbf.out.mono Hb.out.size))
      cases bf with
      | false =>
        have Hq2 := Lib.hid (Hno.out (by simp))
        clear Hno Hyes
        go_wp2_with (fail)
        go_ret
        rw [Hq2.out]
        exact ⟨Hbx.out, rfl⟩
      | true =>
        cases kn with
        | true =>
          have Hq2 := Lib.hid (Hno.out (by simp))
          clear Hno Hyes
          go_wp2_with (fail)
          go_ret
          rw [Hq2.out]
          exact ⟨Hbx.out, rfl⟩
        | false =>
          cases eq with
          | true =>
            have Hq2 := Lib.hid (Hno.out (by simp))
            clear Hno Hyes
            go_wp2_with (fail)
            refine (Hct.out _).mono ?_
            rintro e w' ⟨rfl, rfl⟩
            go_wp2
            go_ret
            rw [Hq2.out]
            exact ⟨Hbx.out, rfl⟩
          | false =>
            cases y with
            | nil =>
              have Hq2 := Lib.hid (Hno.out (by simp))
              clear Hno Hyes
              go_wp2_with (fail)
              refine (Hct.out _).mono ?_
              rintro e w' ⟨rfl, rfl⟩
              go_wp2
              go_ret
              rw [Hq2.out]
              exact ⟨Hbx.out, rfl⟩
            | cons y0 y =>
              have Hq2 := Lib.hid (Hyes.out (by simp))
              clear Hno Hyes
              go_wp2_with (fail)
              refine (Hct.out _).mono ?_
              rintro e w' ⟨rfl, rfl⟩
              go_wp2
              go_roundw
              case rel => exact ⟨k + 1, x, by go_num, rfl, by omega, Hq2.out, Hbf.out⟩
              case measure => simp [intOf]; omega
    · have hkn : k = l.length := by omega
      subst hkn
      have Hq := Lib.hid (show R = true from HR.out.symm.trans exRight_end)
      go_wp2
      go_ret
      rw [Hq.out]
      exact ⟨Hbw.out, rfl⟩

def inR (v m : Int) : Bool := decide (0 ≤ v ∧ v ≤ m)
/-- May these numbers be a member's? -/
def mbNums (m : Mb) : Bool := (inR (m.num 0) 2097151 && (inR (m.num 1) 2097151 && inR (m.num 2) 2097151)) && (inR m.uid 9007199254740991 && (inR m.gid 9007199254740991 && stRight m.sec m.nsec))
theorem mbNums_no (m : Mb) (k : Nat) (hk : k < 3) (h : inR (m.num k) 2097151 = false) : mbNums m = false := by
  unfold mbNums
  rcases lt3 hk with rfl | rfl | rfl <;> rw [h] <;> simp
theorem mbNums_yes (m : Mb) (h : ∀ k, k < 3 → inR (m.num k) 2097151 = true) : mbNums m = (inR m.uid 9007199254740991 && (inR m.gid 9007199254740991 && stRight m.sec m.nsec)) := by
  unfold mbNums
  rw [h 0 (by omega), h 1 (by omega), h 2 (by omega)]
  rfl

set_option maxRecDepth 100000 in
set_option maxHeartbeats 1000000 in
theorem numbersRight_any (m : Mb) (w : World) :
    Calls Tryz.prog 146 #[m.val] w fun e w' => Below w.heap.size w w' ∧ e = .returned (.bool (mbNums m)) := by
  have Ho := Holds.new w 34 m.cells
  have hcw := fun k hk => numsC_at m k hk
  unfold numsC at hcw
  have h0 : m.cells[3]? = some (.int .i64 m.mode) := rfl
  have h1 : m.cells[8]? = some (.int .i64 m.major) := rfl
  have h2 : m.cells[9]? = some (.int .i64 m.minor) := rfl
  have h3 : m.cells[4]? = some (.int .i64 m.uid) := rfl
  have h4 : m.cells[5]? = some (.int .i64 m.gid) := rfl
  have h5 : m.cells[10]? = some (.int .i64 m.sec) := rfl
  have h6 : m.cells[11]? = some (.int .i64 m.nsec) := rfl
  have Hnum := Lib.hid (fun (k : Nat) (w1 : World) => show Calls Tryz.prog 85 #[.int .i64 (m.num k), .int .i64 2097151] w1 fun e w' => w1 = w' ∧ e = .returned (.bool (inR (m.num k) 2097151)) from atIsIn_any (m.num k) 2097151 w1)
  have Huid := Lib.hid (fun (w1 : World) => show Calls Tryz.prog 85 #[.int .i64 m.uid, .int .i64 9007199254740991] w1 fun e w' => w1 = w' ∧ e = .returned (.bool (inR m.uid 9007199254740991)) from atIsIn_any m.uid 9007199254740991 w1)
  have Hgid := Lib.hid (fun (w1 : World) => show Calls Tryz.prog 85 #[.int .i64 m.gid, .int .i64 9007199254740991] w1 fun e w' => w1 = w' ∧ e = .returned (.bool (inR m.gid 9007199254740991)) from atIsIn_any m.gid 9007199254740991 w1)
  have Hst := Lib.hid (fun w1 => stRight_any m.sec m.nsec w1)
  have Hno := Lib.hid (mbNums_no m)
  have Hyes := Lib.hid (mbNums_yes m)
  generalize mbNums m = R at *
  generalize stRight m.sec m.nsec = rs at *
  generalize inR m.uid 9007199254740991 = ru at *
  generalize inR m.gid 9007199254740991 = rg at *
  unfold Mb.val
  generalize hnt : m.num = nt at *
  generalize m.mode = nm at *
  generalize m.major = lk at *
  generalize m.minor = un at *
  generalize m.uid = ud at *
  generalize m.gid = gd at *
  generalize m.sec = sc at *
  generalize m.nsec = ns at *
  generalize m.cells = C at *
  clear hnt
  generalize hA : w.alloc (.cells C.toArray 34) = wa at *
  have hsz : wa.heap.size = w.heap.size + 1 := by rw [← hA]; simp
  have Hb0 := Lib.hid (show Below w.heap.size w wa by rw [← hA]; exact (Below.refl _ _).alloc (Nat.le_refl _) _)
  have c0 := Ho.at h0
  have c1 := Ho.at h1
  have c2 := Ho.at h2
  have H3 := Lib.hid h3
  have H4 := Lib.hid h4
  have H5 := Lib.hid h5
  have H6 := Lib.hid h6
  have Hcw := Lib.hid hcw
  have Ho0 := Lib.hid Ho
  clear h0 h1 h2 h3 h4 h5 h6 Ho hcw
  go_enter Tryz.func146, Tryz.ntmps146
  go_wp2
  go_loopw [13] (fun i wr => ∃ k : Nat, k ≤ 3 ∧ i = .int .i64 k ∧ Holds wr w.heap.size 34 C ∧ Holds wr (w.heap.size + 1) 3 [.int .i64 nm, .int .i64 lk, .int .i64 un] ∧ Below w.heap.size w wr ∧ ∀ j, j < k → inR (nt j) 2097151 = true) (fun i _ => 3 - (intOf i).toNat)
  case atStart =>
    refine ⟨0, by omega, rfl, Ho0.out.behind _, ?_, Hb0.out.alloc (by omega) _, by intro j hj; omega⟩
    rw [← hsz]
    exact Holds.new wa _ _
  case round =>
    clear c0 c1 c2 Ho0 Hb0
    obtain ⟨k, hk, rfl, h0, h1, hb, hall⟩ := hrel
    have Hm := Lib.hid h0
    have H1 := Lib.hid h1
    have Hb := Lib.hid hb
    have Hall := Lib.hid hall
    clear h0 h1 hb hall
    by_cases hlt : k < 3
    · have c1 := H1.out.at (Hcw.out k hlt)
      have Hc := Lib.hid (Hnum.out k)
      have Hq := Lib.hid (Hno.out k hlt)
      have Hy := Lib.hid (show inR (nt k) 2097151 = true → ∀ j, j < k + 1 → inR (nt j) 2097151 = true from fun h j hj => by
        rcases Nat.lt_succ_iff_lt_or_eq.1 hj with h2 | rfl
        · exact Hall.out j h2
        · exact h)
      clear Hnum Hno Hall
      generalize inR (nt k) 2097151 = rk at Hc Hq Hy
      generalize nt k = x at Hc c1
      cases rk with
      | true =>
        have Hy2 := Lib.hid (Hy.out rfl)
        clear Hy Hq
        go_wp2_with fail
        refine (Hc.out _).mono ?_
        rintro e w' ⟨rfl, rfl⟩
        go_wp2
        go_roundw
        case rel => exact ⟨k + 1, by omega, by go_num, Hm.out, H1.out, Hb.out, Hy2.out⟩
        case measure => simp [intOf]; omega
      | false =>
        have Hq2 := Lib.hid (Hq.out rfl)
        clear Hy Hq
        go_wp2_with fail
        refine (Hc.out _).mono ?_
        rintro e w' ⟨rfl, rfl⟩
        go_wp2
        go_ret
        rw [Hq2.out]
        exact ⟨Hb.out, rfl⟩
    · have Hq := Lib.hid (Hyes.out (fun j hj => Hall.out j (by omega)))
      have c3 := Hm.out.at H3.out
      have c4 := Hm.out.at H4.out
      have c5 := Hm.out.at H5.out
      have c6 := Hm.out.at H6.out
      cases ru with
      | false =>
        go_wp2_with fail
        refine (Huid.out _).mono ?_
        rintro e w' ⟨rfl, rfl⟩
        go_wp2
        go_ret
        rw [Hq.out]
        exact ⟨Hb.out, rfl⟩
      | true =>
        cases rg with
        | false =>
          go_wp2_with fail
          refine (Huid.out _).mono ?_
          rintro e w' ⟨rfl, rfl⟩
          go_wp2_with fail
          refine (Hgid.out _).mono ?_
          rintro e w' ⟨rfl, rfl⟩
          go_wp2
          go_ret
          rw [Hq.out]
          exact ⟨Hb.out, rfl⟩
        | true =>
          go_wp2_with fail
          refine (Huid.out _).mono ?_
          rintro e w' ⟨rfl, rfl⟩
          go_wp2_with fail
          refine (Hgid.out _).mono ?_
          rintro e w' ⟨rfl, rfl⟩
          go_wp2_with fail
          refine (Hst.out _).mono ?_
          rintro e w2 ⟨hb2, rfl⟩
          have Hb2 := Lib.hid (Hb.out.trans (hb2.mono Hb.out.size))
          clear hb2
          go_wp2
          go_ret
          rw [Hq.out]
          exact ⟨Hb2.out, rfl⟩

/-- What is wrong with a member, as a number. -/
def mbRight (m : Mb) (X : List Pr) : Int := if (mbTexts m && exRight [] X) = true then (if mbNums m = true then 0 else 6) else 2
theorem mbRight_facts {m : Mb} {X : List Pr} (h : mbRight m X = 0) : mbTexts m = true ∧ exRight [] X = true ∧ mbNums m = true := by
  unfold mbRight at h
  split at h
  · next h1 =>
    rw [Bool.and_eq_true] at h1
    split at h
    · next h2 => exact ⟨h1.1, h1.2, h2⟩
    · cases h
  · cases h
theorem dvIn_of {m : Mb} {X : List Pr} {n : Int} (h : mbRight m X = 0) (hn : 0 ≤ n ∧ n ≤ 9007199254740991) (l0 : m.name.length ≤ 70368744177664) (l1 : m.link.length ≤ 70368744177664) (l2 : m.uname.length ≤ 70368744177664) (l3 : m.gname.length ≤ 70368744177664) : DvIn m n := by
  obtain ⟨h1, -, h3⟩ := mbRight_facts h
  obtain ⟨⟨a0, a1, a2, a3⟩, -⟩ := of_decide_eq_true h1
  unfold mbNums inR at h3
  simp only [Bool.and_eq_true, decide_eq_true_eq] at h3
  obtain ⟨⟨b0, b1, b2⟩, b3, b4, b5⟩ := h3
  exact ⟨a0, a1, a2, a3, b0, b1, b2, b3, b4, b5, hn, l0, l1, l2, l3⟩

set_option maxRecDepth 100000 in
theorem right_any (m : Mb) (X : List Pr) (ax : Option Addr) (cx : Nat) (w : World) (hx : m.extra = .slice ax X.length cx) (hX : PairsIn w (.slice ax X.length cx) X) (hfx : prFits 140737488355328 X) (hxl : X.length ≤ 4398046511104) :
    Calls Tryz.prog 84 #[m.val] w fun e w' => Below w.heap.size w w' ∧ e = .returned (.int .i64 (mbRight m X)) := by
  have H1 := Lib.hid (fun w1 => textsRight_any m w1)
  have H2 := Lib.hid (fun w1 => numbersRight_any m w1)
  have H3 := Lib.hid (fun w1 (hb : Below w.heap.size w w1) => extraRight_any X ax cx w1 (hX.under hb) hfx hxl)
  have h12 : m.cells[12]? = some (.slice ax X.length cx) := by rw [← hx]; rfl
  have Ho := Lib.hid (Holds.new w 34 m.cells)
  have Hs := Lib.hid (mb_size m)
  have H12 := Lib.hid h12
  have HR := Lib.hid (show (if (mbTexts m && exRight [] X) = true then (if mbNums m = true then 0 else 6) else 2) = mbRight m X from rfl)
  generalize mbRight m X = R at *
  generalize mbTexts m = rt at *
  generalize exRight [] X = rx at *
  generalize mbNums m = rn at *
  unfold Mb.val at H1 H2 ⊢
  generalize m.cells = C at *
  clear hx h12 hX hfx hxl
  cases rt with
  | false =>
    go_enter Tryz.func84, Tryz.ntmps84
    go_wp2_with (first
      | (refine wpList_load_row (by rfl) 34 _ (by rfl) w.heap.size (by rfl) _ _ _ _ Ho.out Tryz.underlying34 rfl Hs.out ?_)
      | fail)
    refine (H1.out _).mono ?_
    rintro e w1 ⟨hb1, rfl⟩
    have Hb1 := Lib.hid (((Below.refl w.heap.size w).alloc (Nat.le_refl _) _).trans (hb1.mono (by simp)))
    clear hb1 Ho
    go_wp2
    go_ret
    rw [← HR.out]
    exact ⟨Hb1.out, rfl⟩
  | true =>
    cases rx with
    | false =>
      go_enter Tryz.func84, Tryz.ntmps84
      go_wp2_with (first
        | (refine wpList_load_row (by rfl) 34 _ (by rfl) w.heap.size (by rfl) _ _ _ _ Ho.out Tryz.underlying34 rfl Hs.out ?_)
        | fail)
      refine (H1.out _).mono ?_
      rintro e w1 ⟨hb1, rfl⟩
      have Hb1 := Lib.hid (((Below.refl w.heap.size w).alloc (Nat.le_refl _) _).trans (hb1.mono (by simp)))
      have Ho1 := Lib.hid (Ho.out.under hb1 Ho.out.lt)
      clear hb1 Ho
      have c12 := Ho1.out.at H12.out
      go_wp2_with fail
      refine (H3.out _ Hb1.out).mono ?_
      rintro e w2 ⟨hb2, rfl⟩
      have Hb2 := Lib.hid (Hb1.out.trans (hb2.mono Hb1.out.size))
      clear hb2 Ho1 c12
      go_wp2
      go_ret
      rw [← HR.out]
      exact ⟨Hb2.out, rfl⟩
    | true =>
      go_enter Tryz.func84, Tryz.ntmps84
      go_wp2_with (first
        | (refine wpList_load_row (by rfl) 34 _ (by rfl) w.heap.size (by rfl) _ _ _ _ Ho.out Tryz.underlying34 rfl Hs.out ?_)
        | fail)
      refine (H1.out _).mono ?_
      rintro e w1 ⟨hb1, rfl⟩
      have Hb1 := Lib.hid (((Below.refl w.heap.size w).alloc (Nat.le_refl _) _).trans (hb1.mono (by simp)))
      have Ho1 := Lib.hid (Ho.out.under hb1 Ho.out.lt)
      clear hb1 Ho
      have c12 := Ho1.out.at H12.out
      go_wp2_with fail
      refine (H3.out _ Hb1.out).mono ?_
      rintro e w2 ⟨hb2, rfl⟩
      have Hb2 := Lib.hid (Hb1.out.trans (hb2.mono Hb1.out.size))
      have Ho2 := Lib.hid (Ho1.out.under hb2 Ho1.out.lt)
      clear hb2 Ho1 c12
      go_wp2_with (first
        | (refine wpList_load_row (by rfl) 34 _ (by rfl) w.heap.size (by rfl) _ _ _ _ Ho2.out Tryz.underlying34 rfl Hs.out ?_)
        | fail)
      refine (H2.out _).mono ?_
      rintro e w3 ⟨hb3, rfl⟩
      have Hb3 := Lib.hid (Hb2.out.trans (hb3.mono Hb2.out.size))
      clear hb3
      cases rn with
      | true =>
        go_wp2
        go_ret
        rw [← HR.out]
        exact ⟨Hb3.out, rfl⟩
      | false =>
        go_wp2
        go_ret
        rw [← HR.out]
        exact ⟨Hb3.out, rfl⟩
end Go.Proofs.YtjmmecokfijglaaGreatDoor
namespace Go.Proofs.YtjmmecokfijglaaGreatDoor
open Go.ChangeShapes Go.WideShapes Go.ChangeAt Go.RowKit

def padF (s : List UInt8) (n : Nat) : List UInt8 := s ++ List.replicate (n - s.length) 0
/-- The document's block before it is sealed. -/
def refRaw (h : Hd) (p b : List UInt8) : List UInt8 :=
  padF b 100 ++ octStr h.mode 8 ++ octStr h.uid 8 ++ octStr h.gid 8 ++ octStr h.size 12 ++ octStr h.time 12 ++ [32, 32, 32, 32, 32, 32, 32, 32] ++ [UInt8.ofNat (hdKind h.kind).toNat] ++ padF h.link 100 ++ hdMark ++ padF h.uname 32 ++ padF h.gname 32 ++ octStr h.major 8 ++ octStr h.minor 8 ++ padF p 155 ++ padF [] 12

theorem padF_length (s : List UInt8) (n : Nat) (h : s.length ≤ n) : (padF s n).length = n := by simp [padF]; omega

set_option maxRecDepth 100000 in
set_option maxHeartbeats 2000000 in
theorem refBuild_walk (w : World) (C : List Value) (nm y1 y2 y3 p b pb pl pu pg pp pz o0 o1 o2 o3 o4 o5 o6 S : List UInt8) (k m0 m1 m2 m3 m4 m5 m6 : Int)
    (hk : Hid (0 ≤ k ∧ k < 256))
    (Hc : Hid (C[0]? = some (.string ⟨nm.toArray⟩) ∧ C[1]? = some (.string ⟨y1.toArray⟩) ∧ C[2]? = some (.int .u8 k) ∧ C[3]? = some (.int .i64 m0) ∧ C[4]? = some (.int .i64 m1) ∧ C[5]? = some (.int .i64 m2) ∧ C[6]? = some (.int .i64 m3) ∧ C[7]? = some (.int .i64 m4) ∧ C[8]? = some (.string ⟨y2.toArray⟩) ∧ C[9]? = some (.string ⟨y3.toArray⟩) ∧ C[10]? = some (.int .i64 m5) ∧ C[11]? = some (.int .i64 m6)))
    (RP : Hid (∀ w : World, Calls Tryz.prog 104 #[.string ⟨nm.toArray⟩] w fun e w' => Below w.heap.size w w' ∧ e = .returned (.tuple #[.string ⟨p.toArray⟩, .string ⟨b.toArray⟩, .bool true])))
    (Fb : Hid (∀ w : World, Calls Tryz.prog 106 #[.string ⟨b.toArray⟩, .int .i64 100] w fun e w' => w = w' ∧ e = .returned (.string ⟨pb.toArray⟩)))
    (Fl : Hid (∀ w : World, Calls Tryz.prog 106 #[.string ⟨y1.toArray⟩, .int .i64 100] w fun e w' => w = w' ∧ e = .returned (.string ⟨pl.toArray⟩)))
    (Fu : Hid (∀ w : World, Calls Tryz.prog 106 #[.string ⟨y2.toArray⟩, .int .i64 32] w fun e w' => w = w' ∧ e = .returned (.string ⟨pu.toArray⟩)))
    (Fg : Hid (∀ w : World, Calls Tryz.prog 106 #[.string ⟨y3.toArray⟩, .int .i64 32] w fun e w' => w = w' ∧ e = .returned (.string ⟨pg.toArray⟩)))
    (Fp : Hid (∀ w : World, Calls Tryz.prog 106 #[.string ⟨p.toArray⟩, .int .i64 155] w fun e w' => w = w' ∧ e = .returned (.string ⟨pp.toArray⟩)))
    (Fz : Hid (∀ w : World, Calls Tryz.prog 106 #[.string ⟨([] : List UInt8).toArray⟩, .int .i64 12] w fun e w' => w = w' ∧ e = .returned (.string ⟨pz.toArray⟩)))
    (G0 : Hid (∀ w : World, Calls Tryz.prog 107 #[.int .i64 m0, .int .i64 8] w fun e w' => w = w' ∧ e = .returned (.string ⟨o0.toArray⟩)))
    (G1 : Hid (∀ w : World, Calls Tryz.prog 107 #[.int .i64 m1, .int .i64 8] w fun e w' => w = w' ∧ e = .returned (.string ⟨o1.toArray⟩)))
    (G2 : Hid (∀ w : World, Calls Tryz.prog 107 #[.int .i64 m2, .int .i64 8] w fun e w' => w = w' ∧ e = .returned (.string ⟨o2.toArray⟩)))
    (G3 : Hid (∀ w : World, Calls Tryz.prog 107 #[.int .i64 m3, .int .i64 12] w fun e w' => w = w' ∧ e = .returned (.string ⟨o3.toArray⟩)))
    (G4 : Hid (∀ w : World, Calls Tryz.prog 107 #[.int .i64 m4, .int .i64 12] w fun e w' => w = w' ∧ e = .returned (.string ⟨o4.toArray⟩)))
    (G5 : Hid (∀ w : World, Calls Tryz.prog 107 #[.int .i64 m5, .int .i64 8] w fun e w' => w = w' ∧ e = .returned (.string ⟨o5.toArray⟩)))
    (G6 : Hid (∀ w : World, Calls Tryz.prog 107 #[.int .i64 m6, .int .i64 8] w fun e w' => w = w' ∧ e = .returned (.string ⟨o6.toArray⟩)))
    (n0 : pb.length = 100) (n1 : o0.length = 8) (n2 : o1.length = 8) (n3 : o2.length = 8) (n4 : o3.length = 12) (n5 : o4.length = 12) (n6 : pl.length = 100) (n7 : pu.length = 32) (n8 : pg.length = 32) (n9 : o5.length = 8) (n10 : o6.length = 8) (n11 : pp.length = 155) (n12 : pz.length = 12)
    (HS : Hid (∀ w : World, Calls Tryz.prog 108 #[.string ⟨(pb ++ o0 ++ o1 ++ o2 ++ o3 ++ o4 ++ [32, 32, 32, 32, 32, 32, 32, 32] ++ [UInt8.ofNat (hdKind k).toNat] ++ pl ++ hdMark ++ pu ++ pg ++ o5 ++ o6 ++ pp ++ pz).toArray⟩] w fun e w' => Below w.heap.size w w' ∧ e = .returned (.string ⟨S.toArray⟩))) :
    Calls Tryz.prog 52 #[.agg C.toArray] w fun e w' => Below w.heap.size w w' ∧ e = .returned (.string ⟨S.toArray⟩) := by
  have Ho := Lib.hid (Holds.new w 30 C)
  have c0 : (w.alloc (.cells C.toArray 30)).cell? ⟨w.heap.size, 0, none⟩ = some (.string ⟨nm.toArray⟩) := Ho.out.at Hc.out.1
  have hkk : (if k = 0 then [48] else [UInt8.ofNat k.toNat]) = [UInt8.ofNat (hdKind k).toNat] := by
    unfold hdKind
    by_cases h : k = 0
    · rw [if_pos h, if_pos h]; rfl
    · rw [if_neg h, if_neg h]
  have n13 : [UInt8.ofNat (hdKind k).toNat].length = 1 := rfl
  have n14 : hdMark.length = 8 := rfl
  have n15 : ([32, 32, 32, 32, 32, 32, 32, 32] : List UInt8).length = 8 := rfl
  have Hm := Lib.hid (show hdMark = [117, 115, 116, 97, 114, 0, 48, 48] from rfl)
  have HKK := Lib.hid hkk
  clear hkk
  generalize [UInt8.ofNat (hdKind k).toNat] = ks at *
  go_enter Tryz.func52, Tryz.ntmps52
  go_wp2_with fail
  refine (RP.out _).mono ?_
  rintro e w2 ⟨hb2, rfl⟩
  have Ho2 := Lib.hid (Ho.out.under hb2 Ho.out.lt)
  have Hb2 := Lib.hid (((Below.refl w.heap.size w).alloc (Nat.le_refl _) (.cells C.toArray 30)).trans (hb2.mono (by simp)))
  have hz2 : w.heap.size < w2.heap.size := Ho2.out.lt
  clear hb2 c0 Ho
  have c2 : w2.cell? ⟨w.heap.size, 2, none⟩ = some (.int .u8 k) := Ho2.out.at Hc.out.2.2.1
  have hconv := run_byte_string (P := Tryz.prog) 55 5 9 Tryz.underlying55 Tryz.underlying5 Tryz.underlying9 k hk.out.1 hk.out.2 w2
  by_cases hk0 : k = 0
  · have e0 : (k == 0) = true := by rw [hk0]; rfl
    have Hks := Lib.hid (show ks = [48] by rw [← HKK.out, if_pos hk0])
    clear hk0 HKK
    go_wp2_with fail
    have Ho3 := Lib.hid (Ho2.out.behind (.cells #[.int .u8 k] 5))
    have Hb3 := Lib.hid (Hb2.out.alloc Hb2.out.size (.cells #[.int .u8 k] 5))
    clear hconv c2 Ho2 Hb2
    generalize w2.alloc (.cells #[.int .u8 k] 5) = w3 at *
    obtain ⟨-, h1, -, h3, h4, h5, h6, h7, h8, h9, h10, h11⟩ := Hc.out
    have c1 := Ho3.out.at h1
    have c3 := Ho3.out.at h3
    have c4 := Ho3.out.at h4
    have c5 := Ho3.out.at h5
    have c6 := Ho3.out.at h6
    have c7 := Ho3.out.at h7
    have c8 := Ho3.out.at h8
    have c9 := Ho3.out.at h9
    have c10 := Ho3.out.at h10
    have c11 := Ho3.out.at h11
    clear h1 h3 h4 h5 h6 h7 h8 h9 h10 h11 Hc Ho3
    go_quiet (first
          | (go_at_call_of 106 (#[Value.string ⟨b.toArray⟩, Value.int .i64 100]); exact quiet_eq0 (Fb.out _))
          | (go_at_call_of 106 (#[Value.string ⟨y1.toArray⟩, Value.int .i64 100]); exact quiet_eq0 (Fl.out _))
          | (go_at_call_of 106 (#[Value.string ⟨y2.toArray⟩, Value.int .i64 32]); exact quiet_eq0 (Fu.out _))
          | (go_at_call_of 106 (#[Value.string ⟨y3.toArray⟩, Value.int .i64 32]); exact quiet_eq0 (Fg.out _))
          | (go_at_call_of 106 (#[Value.string ⟨p.toArray⟩, Value.int .i64 155]); exact quiet_eq0 (Fp.out _))
          | (go_at_call_of 106 (#[Value.string ⟨#[]⟩, Value.int .i64 12]); exact quiet_eq0 (Fz.out _))
          | (go_at_call_of 107 (#[Value.int .i64 m0, Value.int .i64 8]); exact quiet_eq0 (G0.out _))
          | (go_at_call_of 107 (#[Value.int .i64 m1, Value.int .i64 8]); exact quiet_eq0 (G1.out _))
          | (go_at_call_of 107 (#[Value.int .i64 m2, Value.int .i64 8]); exact quiet_eq0 (G2.out _))
          | (go_at_call_of 107 (#[Value.int .i64 m3, Value.int .i64 12]); exact quiet_eq0 (G3.out _))
          | (go_at_call_of 107 (#[Value.int .i64 m4, Value.int .i64 12]); exact quiet_eq0 (G4.out _))
          | (go_at_call_of 107 (#[Value.int .i64 m5, Value.int .i64 8]); exact quiet_eq0 (G5.out _))
          | (go_at_call_of 107 (#[Value.int .i64 m6, Value.int .i64 8]); exact quiet_eq0 (G6.out _)))
    have Hb4 := Lib.hid (show Below w.heap.size w (w3.drewN nq) from below_drewN Hb3.out _)
    generalize w3.drewN nq = w4 at *
    go_wp2_with fail
    have H := HS.out w4
    rw [Hm.out, Hks.out] at H
    simp only [List.append_assoc, List.cons_append, List.nil_append] at H
    refine H.mono ?_
    rintro e w5 ⟨hb5, rfl⟩
    have Hb5 := Lib.hid (Hb4.out.trans (hb5.mono Hb4.out.size))
    clear hb5 H
    go_wp2
    go_ret
    exact ⟨Hb5.out, rfl⟩
  · have e0 : (k == 0) = false := by rw [beq_eq_false_iff_ne]; exact hk0
    have Hks := Lib.hid (show ks = [UInt8.ofNat k.toNat] by rw [← HKK.out, if_neg hk0])
    clear hk0 HKK
    have n16 : [UInt8.ofNat k.toNat].length = 1 := rfl
    generalize [UInt8.ofNat k.toNat] = kq at *
    go_wp2_with fail
    have Ho3 := Lib.hid (Ho2.out.behind (.cells #[.int .u8 k] 5))
    have Hb3 := Lib.hid (Hb2.out.alloc Hb2.out.size (.cells #[.int .u8 k] 5))
    clear hconv c2 Ho2 Hb2
    generalize w2.alloc (.cells #[.int .u8 k] 5) = w3 at *
    obtain ⟨-, h1, -, h3, h4, h5, h6, h7, h8, h9, h10, h11⟩ := Hc.out
    have c1 := Ho3.out.at h1
    have c3 := Ho3.out.at h3
    have c4 := Ho3.out.at h4
    have c5 := Ho3.out.at h5
    have c6 := Ho3.out.at h6
    have c7 := Ho3.out.at h7
    have c8 := Ho3.out.at h8
    have c9 := Ho3.out.at h9
    have c10 := Ho3.out.at h10
    have c11 := Ho3.out.at h11
    clear h1 h3 h4 h5 h6 h7 h8 h9 h10 h11 Hc Ho3
    go_quiet (first
          | (go_at_call_of 106 (#[Value.string ⟨b.toArray⟩, Value.int .i64 100]); exact quiet_eq0 (Fb.out _))
          | (go_at_call_of 106 (#[Value.string ⟨y1.toArray⟩, Value.int .i64 100]); exact quiet_eq0 (Fl.out _))
          | (go_at_call_of 106 (#[Value.string ⟨y2.toArray⟩, Value.int .i64 32]); exact quiet_eq0 (Fu.out _))
          | (go_at_call_of 106 (#[Value.string ⟨y3.toArray⟩, Value.int .i64 32]); exact quiet_eq0 (Fg.out _))
          | (go_at_call_of 106 (#[Value.string ⟨p.toArray⟩, Value.int .i64 155]); exact quiet_eq0 (Fp.out _))
          | (go_at_call_of 106 (#[Value.string ⟨#[]⟩, Value.int .i64 12]); exact quiet_eq0 (Fz.out _))
          | (go_at_call_of 107 (#[Value.int .i64 m0, Value.int .i64 8]); exact quiet_eq0 (G0.out _))
          | (go_at_call_of 107 (#[Value.int .i64 m1, Value.int .i64 8]); exact quiet_eq0 (G1.out _))
          | (go_at_call_of 107 (#[Value.int .i64 m2, Value.int .i64 8]); exact quiet_eq0 (G2.out _))
          | (go_at_call_of 107 (#[Value.int .i64 m3, Value.int .i64 12]); exact quiet_eq0 (G3.out _))
          | (go_at_call_of 107 (#[Value.int .i64 m4, Value.int .i64 12]); exact quiet_eq0 (G4.out _))
          | (go_at_call_of 107 (#[Value.int .i64 m5, Value.int .i64 8]); exact quiet_eq0 (G5.out _))
          | (go_at_call_of 107 (#[Value.int .i64 m6, Value.int .i64 8]); exact quiet_eq0 (G6.out _)))
    have Hb4 := Lib.hid (show Below w.heap.size w (w3.drewN nq) from below_drewN Hb3.out _)
    generalize w3.drewN nq = w4 at *
    go_wp2_with fail
    have H := HS.out w4
    rw [Hm.out, Hks.out] at H
    simp only [List.append_assoc, List.cons_append, List.nil_append] at H
    refine H.mono ?_
    rintro e w5 ⟨hb5, rfl⟩
    have Hb5 := Lib.hid (Hb4.out.trans (hb5.mono Hb4.out.size))
    clear hb5 H
    go_wp2
    go_ret
    exact ⟨Hb5.out, rfl⟩
end Go.Proofs.YtjmmecokfijglaaGreatDoor
