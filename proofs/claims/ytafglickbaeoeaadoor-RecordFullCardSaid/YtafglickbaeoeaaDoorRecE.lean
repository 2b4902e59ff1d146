/-
  Contract of record.first.
-/
import Derived.Test.YtafglickbaeoeaaDoorRecD
import Derived.BigRegion
namespace Go.Proofs.YtafglickbaeoeaaDoor
open Go.ChangeShapes Go.WideShapes Go.ChangeAt Go.RowKit

theorem mem_split (c : UInt8) (l : List UInt8) (h : c ∈ l) : l = aheadC c l ++ c :: behindC c l := by
  have h1 := take_aheadC c l
  have h2 := drop_aheadC c l
  have hlt := aheadC_length c l h
  have hg := (aheadC_get c l _ hlt (Nat.le_refl _)).2 rfl
  conv => lhs; rw [← List.take_append_drop (aheadC c l).length l, h1, drop_at hlt, hg, h2]
theorem dig_no32 (l : List UInt8) (h : allDig l = true) : (32 : UInt8) ∉ l := by
  induction l with
  | nil => exact fun h => nomatch h
  | cons b l ih =>
    have h1 : isDig b = true ∧ allDig l = true := by simpa [allDig] using h
    intro hm
    rcases List.mem_cons.1 hm with e | e
    · subst e; exact absurd h1.1 (by decide)
    · exact ih h1.2 e
theorem led_ahead {s : List UInt8} (h : rLed s = true) : aheadC 32 s = headDig s ∧ 32 ∈ s := by
  obtain ⟨h1, h2, h3, h4⟩ := rLed_true h
  have hlt : (headDig s).length < s.length := by
    rcases Nat.lt_or_ge (headDig s).length s.length with hl | hl
    · exact hl
    · rw [List.getElem?_eq_none hl] at h4; cases h4
  have hs : s = headDig s ++ 32 :: s.drop ((headDig s).length + 1) := by
    rw [List.getElem?_eq_getElem hlt] at h4
    injection h4 with h4
    conv => lhs; rw [← List.take_append_drop (headDig s).length s, headDig_take, drop_at hlt, h4]
  obtain ⟨a1, a2, a3⟩ := aheadC_app 32 (headDig s) (s.drop ((headDig s).length + 1)) (dig_no32 _ (headDig_dig s))
  rw [← hs] at a1 a3
  exact ⟨a1, a3⟩
theorem led_count (s : List UInt8) : (32 ∈ s ∧ isCountB (aheadC 32 s) = true) ↔ rLed s = true := by
  constructor
  · rintro ⟨h1, h2⟩
    have hs := mem_split 32 s h1
    unfold isCountB at h2
    obtain ⟨h3, h4⟩ := (Bool.and_eq_true _ _ ▸ h2 : _ = true ∧ _ = true)
    obtain ⟨h5, h6, h7⟩ := of_decide_eq_true h3
    have hh : headDig s = aheadC 32 s := by
      conv => lhs; rw [hs]
      exact headDig_app _ _ _ h4 rfl
    have hp : 0 < (aheadC 32 s).length := List.length_pos_iff.2 h5
    refine decide_eq_true ⟨by rw [hh]; exact hp, by rw [hh]; exact h6, ?_, ?_⟩
    · rw [hs, List.getElem?_append_left hp]; exact h7
    · rw [hh]
      conv => lhs; arg 1; rw [hs]
      rw [List.getElem?_append_right (Nat.le_refl _)]; simp
  · intro h
    obtain ⟨a1, a2⟩ := led_ahead h
    obtain ⟨h1, h2, h3, h4⟩ := rLed_true h
    refine ⟨a2, ?_⟩
    unfold isCountB
    rw [a1, headDig_dig, Bool.and_true]
    refine decide_eq_true ⟨fun e => by rw [e] at h1; simp at h1, h2, ?_⟩
    rw [← headDig_take s, List.getElem?_take_of_lt (by omega)]
    exact h3
theorem led_end {s : List UInt8} (h : rLed s = true) (he : s[rNum s - 1]? = some 10) : (headDig s).length + 2 ≤ rNum s := by
  obtain ⟨h1, h2, h3, h4⟩ := rLed_true h
  obtain ⟨n1, n2, n3, n4⟩ := rLed_num h
  rcases Nat.lt_or_ge (rNum s) ((headDig s).length + 2) with hl | hl
  · exfalso
    by_cases hm : rNum s - 1 = (headDig s).length
    · rw [hm, h4] at he; cases he
    · have hle := headDig_le s
      have hlt : rNum s - 1 < s.length := by omega
      have hg := headDig_get s (rNum s - 1) hlt (by omega)
      rw [decide_eq_true (by omega)] at hg
      rw [List.getElem?_eq_getElem hlt] at he
      injection he with he
      rw [he] at hg
      exact absurd hg (by decide)
  · exact hl
theorem decFrom_dig (l : List UInt8) (h : allDig l = true) : ∀ a : Nat, Lib.decFrom a l = some (numD a l).toNat ∧ 0 ≤ numD a l := by
  induction l with
  | nil => intro a; exact ⟨by show some a = _; simp [numD], by simp [numD]⟩
  | cons b l ih =>
    intro a
    have h1 : isDig b = true ∧ allDig l = true := by simpa [allDig] using h
    have hb := isDig_true h1.1
    have hv : Lib.digitVal b = some (b.toNat - 48) := if_pos (by omega)
    have hi := ih h1.2 (a * 10 + (b.toNat - 48))
    have e : ((a * 10 + (b.toNat - 48) : Nat) : Int) = (a : Int) * 10 + ((b.toNat : Int) - 48) := by omega
    rw [e] at hi
    rw [numD_cons]
    refine ⟨?_, hi.2⟩
    show (match Lib.digitVal b with | some d => Lib.decFrom (a * 10 + d) l | none => none) = _
    rw [hv]
    exact hi.1
theorem atoi_dig (l : List UInt8) (h : allDig l = true) (hn : l ≠ []) : Lib.atoi l = some (numD 0 l) := by
  cases l with
  | nil => exact absurd rfl hn
  | cons b l =>
    have h1 : isDig b = true ∧ allDig l = true := by simpa [allDig] using h
    have hb := isDig_true h1.1
    have hd := decFrom_dig (b :: l) h 0
    have e1 : (b == 45) = false := by rw [beq_eq_false_iff_ne]; intro e; subst e; exact absurd h1.1 (by decide)
    have e2 : (b == 43) = false := by rw [beq_eq_false_iff_ne]; intro e; subst e; exact absurd h1.1 (by decide)
    show (if b == 45 then _ else if b == 43 then _ else (Lib.decNat (b :: l)).map fun (m : Nat) => (m : Int)) = _
    rw [e1, e2]
    have hdn : Lib.decNat (b :: l) = some (numD 0 (b :: l)).toNat := hd.1
    rw [hdn]
    have h0 := hd.2
    simp only [Bool.false_eq_true, if_false, Option.map_some, Option.some.injEq]
    exact Int.toNat_of_nonneg h0

theorem clone_any (l : List UInt8) (w : World) (hl : l.length ≤ 281474976710656) :
    Calls Tryd.prog 29 #[.string ⟨l.toArray⟩] w fun e w' => Below w.heap.size w w' ∧ e = .returned (.string ⟨l.toArray⟩) := by
  have Hc := Lib.hid (Tryd.stringslite_Clone ⟨l.toArray⟩ w hl)
  go_enter Tryd.func29, Tryd.ntmps29
  go_wp2_with fail
  refine Hc.out.mono ?_
  rintro e w1 ⟨rfl, hb⟩
  have Hb := Lib.hid hb
  clear hb
  go_wp2
  go_ret
  exact ⟨Hb.out, rfl⟩
theorem atoi_any (l : List UInt8) (w : World) (h : allDig l = true) (hn : l ≠ []) (hl : l.length ≤ 18) :
    Calls Tryd.prog 28 #[.string ⟨l.toArray⟩] w fun e w' => Below w.heap.size w w' ∧ e = .returned (.tuple #[.int .i64 (numD 0 l), .nilIface]) :=
  (Tryd.strconv_Atoi ⟨l.toArray⟩ (numD 0 l) hl (atoi_dig l h hn) w).mono fun e w' ⟨he, t, hw⟩ => ⟨by rw [hw]; exact Lib.bytesWorld_below w _ t, he⟩

/-- What rFirst says, as three results. -/
def first3 : RF → Value
  | .bad e => .tuple #[.agg #[.string ⟨([] : List UInt8).toArray⟩, .string ⟨([] : List UInt8).toArray⟩], .int .i64 0, .int .i64 e]
  | .ok p n => .tuple #[prVal p, .int .i64 n, .int .i64 0]

/-- The result's own block, and what lies below. -/
def KZ (W w : World) : Prop := Holds w W.heap.size 25 [.string ⟨#[]⟩, .string ⟨#[]⟩] ∧ Below W.heap.size W w
theorem KZ.start (W : World) : KZ W (W.alloc (.cells #[.string ⟨#[]⟩, .string ⟨#[]⟩] 25)) := ⟨Holds.new _ _ _, (Below.refl _ _).alloc (Nat.le_refl _) _⟩
theorem KZ.step {W w w' : World} (k : KZ W w) (hb : Below w.heap.size w w') : KZ W w' := ⟨k.1.under hb k.1.lt, k.2.trans (hb.mono k.2.size)⟩

set_option maxRecDepth 100000 in
set_option maxHeartbeats 2000000 in
theorem first_any (s : List UInt8) (w : World) (hs : s.length ≤ maxLen) (hs2 : s.length ≤ 140737488355328) :
    Calls Tryd.prog 22 #[.string ⟨s.toArray⟩] w fun e w' => Below w.heap.size w w' ∧ e = .returned (first3 (rFirst s)) := by
  have Hcut := Lib.hid (fun w1 => cutC_any 32 s w1 hs)
  have Hlc := Lib.hid (led_count s)
  have Hk0 := Lib.hid (KZ.start w)
  by_cases h32 : (32 : UInt8) ∈ s
  · have hal := aheadC_length 32 s h32
    have Hic := Lib.hid (fun w1 => isCount_any (aheadC 32 s) w1 (by unfold maxLen; omega))
    rw [decide_eq_true h32] at Hcut
    by_cases hled : rLed s = true
    · obtain ⟨l1, l2⟩ := led_ahead hled
      obtain ⟨m1, m2, m3, m4⟩ := rLed_true hled
      obtain ⟨n1, n2, n3, n4⟩ := rLed_num hled
      have Hat := Lib.hid (fun w1 => atoi_any (headDig s) w1 (headDig_dig s) (fun e => by rw [e] at m1; simp at m1) (by omega))
      have hml := headDig_le s
      rw [n3] at Hat
      rw [(Hlc.out.2 hled).2] at Hic
      rw [l1] at Hcut Hic
      have Hq0 := Lib.hid (show rFirst s = if s.length < rNum s then .bad 3 else if rNum s ≤ (headDig s).length + 1 ∨ s[rNum s - 1]? ≠ some 10 then .bad 2 else rBody (rIn s) (rNum s) by
        unfold rFirst; rw [hled, if_neg (by simp)])
      have Hend := Lib.hid (fun he => led_end hled he)
      have Hin := Lib.hid (show rIn s = (s.drop ((headDig s).length + 1)).take (rNum s - 1 - ((headDig s).length + 1)) from rfl)
      generalize rIn s = body at *
      generalize rNum s = n at *
      generalize headDig s = d at *
      generalize behindC 32 s = b at *
      clear hled l1 l2 m3 m4 n2 n3 h32 hal Hlc
      by_cases hbig : s.length < n
      · have Hq := Lib.hid (show rFirst s = .bad 3 by rw [Hq0.out, if_pos hbig])
        have hb1 : (s.length : Int) < n := by omega
        clear Hq0 Hend Hin hbig
        go_enter Tryd.func22, Tryd.ntmps22
        go_wp2_with fail
        refine (Hcut.out _).mono ?_
        rintro e w1 ⟨hb, rfl⟩
        have Hk1 := Lib.hid (Hk0.out.step hb)
        clear hb
        go_wp2_with fail
        refine (Hic.out _).mono ?_
        rintro e w' ⟨rfl, rfl⟩
        go_wp2_with fail
        refine (Hat.out _).mono ?_
        rintro e w2 ⟨hb, rfl⟩
        have hk2 := Hk1.out.step hb
        have Hk2 := Lib.hid hk2
        obtain ⟨c0, c1, f0, f1⟩ := two_holds hk2.1
        clear hb hk2
        go_wp2
        rw [Hq.out]
        exact bodyPost_ret (v := first3 (.bad 3)) (by simp [results, Tryd.results22, go_sem, c0, c1, first3]) rfl ⟨(Hk2.out.2.setCell (by simp) _).setCell (by simp) _, rfl⟩
      · have hb1 : ¬ (s.length : Int) < n := by omega
        have hn9 : (n : Int) ≤ 140737488355328 := by omega
        have hn1 : (1 : Int) ≤ n := by omega
        have hw1 : IntKind.i64.wrap ((n : Int) - 1) = (n : Int) - 1 := IntWalk.i64_in _ (by omega)
        have hnlt : n - 1 < s.length := by omega
        have hsl : ∀ W : World, (Instr.slice 9 (.string ⟨s.toArray⟩) (some (.int .i64 ((n : Int) - 1))) (some (.int .i64 (n : Int))) none).run Tryd.prog W = .ok (.string ⟨[s[n - 1]].toArray⟩) W := by
          intro W
          rw [run_slice_string W _ _ _ _ _ _ Tryd.underlying9 (by omega) (by omega) (by simp [ByteArray.size]; omega)]
          have he := str_extract s ((n : Int) - 1).toNat (n : Int).toNat
          rw [show (n : Int).toNat - ((n : Int) - 1).toNat = 1 by omega, show ((n : Int) - 1).toNat = n - 1 by omega, drop_at hnlt, List.take_succ_cons, List.take_zero] at he
          rw [show ((n : Int) - 1).toNat = n - 1 by omega]
          exact congrArg (fun s => Result.ok (Value.string s) W) he
        have hgl : s[n - 1]? = some s[n - 1] := List.getElem?_eq_getElem hnlt
        by_cases he10 : s[n - 1] = 10
        · have hm2 : d.length + 2 ≤ n := Hend.out (by rw [hgl, he10])
          have Hq1 := Lib.hid (show rFirst s = rBody body n by rw [Hq0.out, if_neg hbig, if_neg (by rw [not_or]; exact ⟨by omega, by rw [hgl, he10]; simp⟩)])
          rw [he10] at hsl
          have hdl : (d.length : Int) ≤ 6 := by omega
          have hw2 : IntKind.i64.wrap ((d.length : Int) + 1) = (d.length : Int) + 1 := IntWalk.i64_in _ (by omega)
          have hsl2 : ∀ W : World, (Instr.slice 9 (.string ⟨s.toArray⟩) (some (.int .i64 ((d.length : Int) + 1))) (some (.int .i64 ((n : Int) - 1))) none).run Tryd.prog W = .ok (.string ⟨body.toArray⟩) W := by
            intro W
            rw [run_slice_string W _ _ _ _ _ _ Tryd.underlying9 (by omega) (by omega) (by simp [ByteArray.size]; omega)]
            have he := str_extract s ((d.length : Int) + 1).toNat ((n : Int) - 1).toNat
            rw [show ((d.length : Int) + 1).toNat = d.length + 1 by omega, show ((n : Int) - 1).toNat = n - 1 by omega, ← Hin.out] at he
            rw [show ((d.length : Int) + 1).toNat = d.length + 1 by omega, show ((n : Int) - 1).toNat = n - 1 by omega]
            exact congrArg (fun s => Result.ok (Value.string s) W) he
          have hbl : body.length ≤ s.length := by rw [Hin.out, List.length_take, List.length_drop]; omega
          have Hcut2 := Lib.hid (fun w1 => cutC_any 61 body w1 (by unfold maxLen; omega))
          have hal : (aheadC 61 body).length ≤ body.length := by have := congrArg List.length (take_aheadC 61 body); rw [List.length_take] at this; omega
          have hbl2 : (behindC 61 body).length ≤ body.length := by have := congrArg List.length (drop_aheadC 61 body); rw [List.length_drop] at this; omega
          have Hc1 := Lib.hid (fun w1 => clone_any (aheadC 61 body) w1 (by omega))
          have Hc2 := Lib.hid (fun w1 => clone_any (behindC 61 body) w1 (by omega))
          have Hr := Lib.hid (fun w1 => right_any (aheadC 61 body, behindC 61 body) w1)
          have Hq2 := Lib.hid (show rBody body n = if 61 ∈ body ∧ aheadC 61 body ≠ [] then .ok (aheadC 61 body, behindC 61 body) n else .bad 2 from rfl)
          have Hrr := Lib.hid (show prRight (aheadC 61 body, behindC 61 body) = decide (aheadC 61 body ≠ []) by
            have hfree := aheadC_free 61 body
            unfold prRight
            rw [decide_eq_decide]
            exact ⟨fun h => h.1, fun h => ⟨h, hfree⟩⟩)
          unfold prVal at Hr
          simp only at Hr
          rw [Hrr.out] at Hr
          generalize aheadC 61 body = ka at *
          generalize behindC 61 body = va at *
          clear Hq0 Hend Hin he10 hgl hbig Hrr
          generalize hhas : decide (61 ∈ body) = has at *
          have Hhas := Lib.hid hhas
          clear hhas
          cases has
          · have hmem : 61 ∉ body := of_decide_eq_false Hhas.out
            have Hq := Lib.hid (show rFirst s = .bad 2 by rw [Hq1.out, Hq2.out, if_neg (fun h => hmem h.1)])
            clear hmem
            go_enter Tryd.func22, Tryd.ntmps22
            go_wp2_with fail
            refine (Hcut.out _).mono ?_
            rintro e w1 ⟨hb, rfl⟩
            have Hk1 := Lib.hid (Hk0.out.step hb)
            clear hb
            go_wp2_with fail
            refine (Hic.out _).mono ?_
            rintro e w' ⟨rfl, rfl⟩
            go_wp2_with fail
            refine (Hat.out _).mono ?_
            rintro e w2 ⟨hb, rfl⟩
            have Hk2 := Lib.hid (Hk1.out.step hb)
            clear hb
            go_wp2_with fail
            refine (Hcut2.out _).mono ?_
            rintro e w3 ⟨hb, rfl⟩
            have Hk3 := Lib.hid (Hk2.out.step hb)
            clear hb
            go_wp2_with fail
            refine (Hc1.out _).mono ?_
            rintro e w4 ⟨hb, rfl⟩
            have Hk4 := Lib.hid (Hk3.out.step hb)
            clear hb
            go_wp2_with fail
            refine (Hc2.out _).mono ?_
            rintro e w5 ⟨hb, rfl⟩
            have Hk5 := Lib.hid (Hk4.out.step hb)
            clear hb
            have hk6 := Hk5.out.step ((Below.refl _ _).alloc (Nat.le_refl _) (.cells #[.string ⟨ka.toArray⟩, .string ⟨va.toArray⟩] 25))
            have Hk6 := Lib.hid hk6
            obtain ⟨c0, c1, f0, f1⟩ := two_holds hk6.1
            clear hk6
            go_wp2
            rw [Hq.out]
            exact bodyPost_ret (v := first3 (.bad 2)) (by simp [results, Tryd.results22, go_sem, c0, c1, first3]) rfl ⟨(Hk6.out.2.setCell (by simp) _).setCell (by simp) _, rfl⟩
          · have hmem : 61 ∈ body := of_decide_eq_true Hhas.out
            by_cases hka : ka = []
            · have Hq := Lib.hid (show rFirst s = .bad 2 by rw [Hq1.out, Hq2.out, if_neg (fun h => h.2 hka)])
              rw [decide_eq_false (fun h => h hka)] at Hr
              clear hmem hka
              go_enter Tryd.func22, Tryd.ntmps22
              go_wp2_with fail
              refine (Hcut.out _).mono ?_
              rintro e w1 ⟨hb, rfl⟩
              have Hk1 := Lib.hid (Hk0.out.step hb)
              clear hb
              go_wp2_with fail
              refine (Hic.out _).mono ?_
              rintro e w' ⟨rfl, rfl⟩
              go_wp2_with fail
              refine (Hat.out _).mono ?_
              rintro e w2 ⟨hb, rfl⟩
              have Hk2 := Lib.hid (Hk1.out.step hb)
              clear hb
              go_wp2_with fail
              refine (Hcut2.out _).mono ?_
              rintro e w3 ⟨hb, rfl⟩
              have Hk3 := Lib.hid (Hk2.out.step hb)
              clear hb
              go_wp2_with fail
              refine (Hc1.out _).mono ?_
              rintro e w4 ⟨hb, rfl⟩
              have Hk4 := Lib.hid (Hk3.out.step hb)
              clear hb
              go_wp2_with fail
              refine (Hc2.out _).mono ?_
              rintro e w5 ⟨hb, rfl⟩
              have Hk5 := Lib.hid (Hk4.out.step hb)
              clear hb
              go_wp2_with fail
              refine (Hr.out _).mono ?_
              rintro e w6 ⟨hb, rfl⟩
              have hk6 := (Hk5.out.step ((Below.refl _ _).alloc (Nat.le_refl _) (.cells #[.string ⟨ka.toArray⟩, .string ⟨va.toArray⟩] 25))).step hb
              have Hk6 := Lib.hid hk6
              obtain ⟨c0, c1, f0, f1⟩ := two_holds hk6.1
              clear hk6 hb
              go_wp2
              rw [Hq.out]
              exact bodyPost_ret (v := first3 (.bad 2)) (by simp [results, Tryd.results22, go_sem, c0, c1, first3]) rfl ⟨(Hk6.out.2.setCell (by simp) _).setCell (by simp) _, rfl⟩
            · have Hq := Lib.hid (show rFirst s = .ok (ka, va) n by rw [Hq1.out, Hq2.out, if_pos ⟨hmem, hka⟩])
              rw [decide_eq_true hka] at Hr
              clear hmem hka
              go_enter Tryd.func22, Tryd.ntmps22
              go_wp2_with fail
              refine (Hcut.out _).mono ?_
              rintro e w1 ⟨hb, rfl⟩
              have Hk1 := Lib.hid (Hk0.out.step hb)
              clear hb
              go_wp2_with fail
              refine (Hic.out _).mono ?_
              rintro e w' ⟨rfl, rfl⟩
              go_wp2_with fail
              refine (Hat.out _).mono ?_
              rintro e w2 ⟨hb, rfl⟩
              have Hk2 := Lib.hid (Hk1.out.step hb)
              clear hb
              go_wp2_with fail
              refine (Hcut2.out _).mono ?_
              rintro e w3 ⟨hb, rfl⟩
              have Hk3 := Lib.hid (Hk2.out.step hb)
              clear hb
              go_wp2_with fail
              refine (Hc1.out _).mono ?_
              rintro e w4 ⟨hb, rfl⟩
              have Hk4 := Lib.hid (Hk3.out.step hb)
              clear hb
              go_wp2_with fail
              refine (Hc2.out _).mono ?_
              rintro e w5 ⟨hb, rfl⟩
              have Hk5 := Lib.hid (Hk4.out.step hb)
              clear hb
              go_wp2_with fail
              refine (Hr.out _).mono ?_
              rintro e w6 ⟨hb, rfl⟩
              obtain ⟨H6, -⟩ := boxed hb
              have hk6 := (Hk5.out.step ((Below.refl _ _).alloc (Nat.le_refl _) (.cells #[.string ⟨ka.toArray⟩, .string ⟨va.toArray⟩] 25))).step hb
              have hne : w.heap.size ≠ w5.heap.size := by have := Hk5.out.1.lt; omega
              have Hk6 := Lib.hid hk6
              obtain ⟨c0, c1, f0, f1⟩ := two_holds hk6.1
              obtain ⟨d0, d1, g0, g1⟩ := two_holds H6
              clear hk6 hb H6
              go_wp2
              rw [Hq.out]
              exact bodyPost_ret (v := first3 (.ok (ka, va) n)) (by simp [results, Tryd.results22, go_sem, c0, c1, first3, prVal]) rfl ⟨(Hk6.out.2.setCell (by simp) _).setCell (by simp) _, rfl⟩
        · have Hq := Lib.hid (show rFirst s = .bad 2 by rw [Hq0.out, if_neg hbig, if_pos (.inr (by rw [hgl]; simpa using he10))])
          have hq1 : ([s[n - 1]] == [10]) = false := by simpa using he10
          generalize s[n - 1] = z at *
          clear Hq0 Hend Hin he10 hgl hbig
          go_enter Tryd.func22, Tryd.ntmps22
          go_wp2_with fail
          refine (Hcut.out _).mono ?_
          rintro e w1 ⟨hb, rfl⟩
          have Hk1 := Lib.hid (Hk0.out.step hb)
          clear hb
          go_wp2_with fail
          refine (Hic.out _).mono ?_
          rintro e w' ⟨rfl, rfl⟩
          go_wp2_with fail
          refine (Hat.out _).mono ?_
          rintro e w2 ⟨hb, rfl⟩
          have hk2 := Hk1.out.step hb
          have Hk2 := Lib.hid hk2
          obtain ⟨c0, c1, f0, f1⟩ := two_holds hk2.1
          clear hb hk2
          go_wp2
          rw [Hq.out]
          exact bodyPost_ret (v := first3 (.bad 2)) (by simp [results, Tryd.results22, go_sem, c0, c1, first3]) rfl ⟨(Hk2.out.2.setCell (by simp) _).setCell (by simp) _, rfl⟩
    · have hic : isCountB (aheadC 32 s) = false := by
        by_cases hc : isCountB (aheadC 32 s) = true
        · exact absurd (Hlc.out.1 ⟨h32, hc⟩) hled
        · simpa using hc
      have Hq := Lib.hid (show rFirst s = .bad 2 from if_pos (by simpa using hled))
      rw [hic] at Hic
      generalize aheadC 32 s = a at *
      generalize behindC 32 s = b at *
      clear hled hic h32
      go_enter Tryd.func22, Tryd.ntmps22
      go_wp2_with fail
      refine (Hcut.out _).mono ?_
      rintro e w1 ⟨hb, rfl⟩
      have Hk1 := Lib.hid (Hk0.out.step hb)
      obtain ⟨c0, c1, f0, f1⟩ := two_holds Hk1.out.1
      clear hb
      go_wp2_with fail
      refine (Hic.out _).mono ?_
      rintro e w' ⟨rfl, rfl⟩
      go_wp2
      rw [Hq.out]
      exact bodyPost_ret (v := first3 (.bad 2)) (by simp [results, Tryd.results22, go_sem, c0, c1, first3]) rfl ⟨(Hk1.out.2.setCell (by simp) _).setCell (by simp) _, rfl⟩
  · have Hq := Lib.hid (show rFirst s = .bad 2 from if_pos (by
      by_cases h : rLed s = true
      · exact absurd (Hlc.out.2 h).1 h32
      · simpa using h))
    rw [decide_eq_false h32] at Hcut
    generalize aheadC 32 s = a at *
    generalize behindC 32 s = b at *
    clear h32
    go_enter Tryd.func22, Tryd.ntmps22
    go_wp2_with fail
    refine (Hcut.out _).mono ?_
    rintro e w1 ⟨hb, rfl⟩
    have Hk1 := Lib.hid (Hk0.out.step hb)
    obtain ⟨c0, c1, f0, f1⟩ := two_holds Hk1.out.1
    clear hb
    go_wp2
    rw [Hq.out]
    exact bodyPost_ret (v := first3 (.bad 2)) (by simp [results, Tryd.results22, go_sem, c0, c1, first3]) rfl ⟨(Hk1.out.2.setCell (by simp) _).setCell (by simp) _, rfl⟩
end Go.Proofs.YtafglickbaeoeaaDoor
