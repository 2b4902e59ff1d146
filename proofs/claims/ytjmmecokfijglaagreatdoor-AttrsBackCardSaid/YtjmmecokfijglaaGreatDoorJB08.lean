/-
  Texts of this seat's proof, joined: their order is that of the build.
-/
import Derived.Test.YtjmmecokfijglaaGreatDoorJB07
import Derived.Test.YtjmmecokfijglaaGreatDoorJB01
import Derived.Test.YtjmmecokfijglaaGreatDoorRows
import Derived.Laws.StructEq
import Derived.Deep.QuietTactic
import Derived.BigQuiet
namespace Go.Proofs.YtjmmecokfijglaaGreatDoor
open Go.ChangeShapes Go.WideShapes Go.ChangeAt Go.RowKit Go.Maps

/-- The blocks of the captured functions. -/
structure Tbl where
  g : Nat
  gn : Nat
  l : Nat
  p : Nat
  s : Nat
  u : Nat
  un : Nat
def knownD (t : Tbl) : DataW Value := (((((((((((((((((.map [] : DataW Value)).put (.string [103, 105, 100]) (.held (numField t.g)))).put (.string [103, 110, 97, 109, 101]) (.held (texField t.gn)))).put (.string [108, 105, 110, 107, 112, 97, 116, 104]) (.held (texField t.l)))).put (.string [109, 116, 105, 109, 101]) (.held timField))).put (.string [112, 97, 116, 104]) (.held (texField t.p)))).put (.string [115, 105, 122, 101]) (.held (numField t.s)))).put (.string [117, 105, 100]) (.held (numField t.u)))).put (.string [117, 110, 97, 109, 101]) (.held (texField t.un)))
def TblAt (t : Tbl) (w : World) : Prop := Holds w t.g 154 [.func (.func 73) #[] #[]] ∧ Holds w t.gn 156 [.func (.func 75) #[] #[]] ∧ Holds w t.l 156 [.func (.func 76) #[] #[]] ∧ Holds w t.p 156 [.func (.func 78) #[] #[]] ∧ Holds w t.s 154 [.func (.func 79) #[] #[]] ∧ Holds w t.u 154 [.func (.func 80) #[] #[]] ∧ Holds w t.un 156 [.func (.func 81) #[] #[]]
def TblIn (t : Tbl) (B : Nat) : Prop := B < t.g ∧ B < t.gn ∧ B < t.l ∧ B < t.p ∧ B < t.s ∧ B < t.u ∧ B < t.un
def KnInv (w W : World) (n : Nat) (D : DataW Value) (hs : List (Nat × TypeId × Value)) : Prop :=
  W.ownsMap Tryz.prog 9 heldElem w.heap.size n D ∧ Below w.heap.size w W ∧ ∀ x ∈ hs, w.heap.size < x.1 ∧ Holds W x.1 x.2.1 [x.2.2]
theorem KnInv.call {w W W' : World} {n : Nat} {D : DataW Value} {hs : List (Nat × TypeId × Value)} (h : KnInv w W n D hs) (hb : Below W.heap.size W W') : KnInv w W' n D hs :=
  ⟨h.1.kept (row := none) (grown_below hb none) (by simp), h.2.1.trans (hb.mono h.2.1.size), fun x hx => ⟨(h.2.2 x hx).1, (h.2.2 x hx).2.under hb (h.2.2 x hx).2.lt⟩⟩
theorem KnInv.add {w W W' : World} {n : Nat} {D : DataW Value} {hs : List (Nat × TypeId × Value)} (h : KnInv w W n D hs) (hb : Below W.heap.size W W') {t : TypeId} {v : Value} (hh : Holds W' W.heap.size t [v]) : KnInv w W' n D ((W.heap.size, t, v) :: hs) := by
  have h2 := h.call hb
  refine ⟨h2.1, h2.2.1, fun x hx => ?_⟩
  rcases List.mem_cons.1 hx with rfl | hx
  · exact ⟨h.1.lt, hh⟩
  · exact h2.2.2 x hx
theorem KnInv.ins {w W W' : World} {n m : Nat} {D D' : DataW Value} {hs : List (Nat × TypeId × Value)} (h : KnInv w W n D hs) (ho : W'.ownsMap Tryz.prog 9 heldElem w.heap.size m D') (hg : W.grownBy W' (some w.heap.size)) : KnInv w W' m D' hs :=
  ⟨ho, h.2.1.grown hg h.2.1.size (fun k hk => by cases hk; exact Nat.le_refl _), fun x hx => ⟨(h.2.2 x hx).1, (h.2.2 x hx).2.grown hg (fun e => by have := (h.2.2 x hx).1; injection e with e; omega)⟩⟩

set_option maxRecDepth 100000 in
set_option maxHeartbeats 1000000 in
theorem known_any (w : World) :
    Calls Tryz.prog 29 #[] w fun e w' => Below w.heap.size w w' ∧ ∃ t : Tbl, w'.ownsMap Tryz.prog 9 heldElem w.heap.size 8 (knownD t) ∧ TblAt t w' ∧ TblIn t w.heap.size ∧ e = .returned (.map (some w.heap.size)) := by
  have hmm := @run_makeMap Tryz.prog
  have I0 := Lib.hid (show KnInv w (w.alloc (.map #[] 0)) 0 (.map []) [] from ⟨World.ownsMap_made w _ _ _, (Below.refl _ _).alloc (Nat.le_refl _) _, fun x hx => by cases hx⟩)
  go_enter Tryz.func29, Tryz.ntmps29
  go_wp2_with (fail)
  refine (numberField_any 73 _).mono ?_
  rintro e w0 ⟨hb0, hh0, rfl⟩
  have J0 := Lib.hid (I0.out.add hb0 hh0)
  clear hb0 hh0
  go_wp2_with (first
    | (refine wpList_insert_own _ (by rfl) _ _ _ 79 (by rfl) 9 85 (string_keyed Tryz.underlying9) Tryz.underlying79 heldElem w.heap.size 0 _ (by rfl) J0.out.1 (by unfold maxLen; omega) _ _ (.string [103, 105, 100]) (by rfl) (by rfl) (WideMaps.keyOf_string_mk Tryz.underlying9 (s := ⟨#[103, 105, 100]⟩) (by decide)) _ [] rfl ?_; intro v0 hown0 hgrow0; have I1 := Lib.hid (J0.out.ins hown0 hgrow0); clear hown0 hgrow0)
    | fail)
  refine (textField_any 75 _).mono ?_
  rintro e w1 ⟨hb1, hh1, rfl⟩
  have J1 := Lib.hid (I1.out.add hb1 hh1)
  clear hb1 hh1
  go_wp2_with (first
    | (refine wpList_insert_own _ (by rfl) _ _ _ 79 (by rfl) 9 85 (string_keyed Tryz.underlying9) Tryz.underlying79 heldElem w.heap.size 1 _ (by rfl) J1.out.1 (by unfold maxLen; omega) _ _ (.string [103, 110, 97, 109, 101]) (by rfl) (by rfl) (WideMaps.keyOf_string_mk Tryz.underlying9 (s := ⟨#[103, 110, 97, 109, 101]⟩) (by decide)) _ [] rfl ?_; intro v1 hown1 hgrow1; have I2 := Lib.hid (J1.out.ins hown1 hgrow1); clear hown1 hgrow1)
    | fail)
  refine (textField_any 76 _).mono ?_
  rintro e w2 ⟨hb2, hh2, rfl⟩
  have J2 := Lib.hid (I2.out.add hb2 hh2)
  clear hb2 hh2
  go_wp2_with (first
    | (refine wpList_insert_own _ (by rfl) _ _ _ 79 (by rfl) 9 85 (string_keyed Tryz.underlying9) Tryz.underlying79 heldElem w.heap.size 2 _ (by rfl) J2.out.1 (by unfold maxLen; omega) _ _ (.string [108, 105, 110, 107, 112, 97, 116, 104]) (by rfl) (by rfl) (WideMaps.keyOf_string_mk Tryz.underlying9 (s := ⟨#[108, 105, 110, 107, 112, 97, 116, 104]⟩) (by decide)) _ [] rfl ?_; intro v2 hown2 hgrow2; have I3 := Lib.hid (J2.out.ins hown2 hgrow2); clear hown2 hgrow2)
    | fail)
  refine (timeField_any _).mono ?_
  rintro e w3 ⟨hb3, rfl⟩
  have J3 := Lib.hid (I3.out.call hb3)
  clear hb3
  go_wp2_with (first
    | (refine wpList_insert_own _ (by rfl) _ _ _ 79 (by rfl) 9 85 (string_keyed Tryz.underlying9) Tryz.underlying79 heldElem w.heap.size 3 _ (by rfl) J3.out.1 (by unfold maxLen; omega) _ _ (.string [109, 116, 105, 109, 101]) (by rfl) (by rfl) (WideMaps.keyOf_string_mk Tryz.underlying9 (s := ⟨#[109, 116, 105, 109, 101]⟩) (by decide)) _ [] rfl ?_; intro v3 hown3 hgrow3; have I4 := Lib.hid (J3.out.ins hown3 hgrow3); clear hown3 hgrow3)
    | fail)
  refine (textField_any 78 _).mono ?_
  rintro e w4 ⟨hb4, hh4, rfl⟩
  have J4 := Lib.hid (I4.out.add hb4 hh4)
  clear hb4 hh4
  go_wp2_with (first
    | (refine wpList_insert_own _ (by rfl) _ _ _ 79 (by rfl) 9 85 (string_keyed Tryz.underlying9) Tryz.underlying79 heldElem w.heap.size 4 _ (by rfl) J4.out.1 (by unfold maxLen; omega) _ _ (.string [112, 97, 116, 104]) (by rfl) (by rfl) (WideMaps.keyOf_string_mk Tryz.underlying9 (s := ⟨#[112, 97, 116, 104]⟩) (by decide)) _ [] rfl ?_; intro v4 hown4 hgrow4; have I5 := Lib.hid (J4.out.ins hown4 hgrow4); clear hown4 hgrow4)
    | fail)
  refine (numberField_any 79 _).mono ?_
  rintro e w5 ⟨hb5, hh5, rfl⟩
  have J5 := Lib.hid (I5.out.add hb5 hh5)
  clear hb5 hh5
  go_wp2_with (first
    | (refine wpList_insert_own _ (by rfl) _ _ _ 79 (by rfl) 9 85 (string_keyed Tryz.underlying9) Tryz.underlying79 heldElem w.heap.size 5 _ (by rfl) J5.out.1 (by unfold maxLen; omega) _ _ (.string [115, 105, 122, 101]) (by rfl) (by rfl) (WideMaps.keyOf_string_mk Tryz.underlying9 (s := ⟨#[115, 105, 122, 101]⟩) (by decide)) _ [] rfl ?_; intro v5 hown5 hgrow5; have I6 := Lib.hid (J5.out.ins hown5 hgrow5); clear hown5 hgrow5)
    | fail)
  refine (numberField_any 80 _).mono ?_
  rintro e w6 ⟨hb6, hh6, rfl⟩
  have J6 := Lib.hid (I6.out.add hb6 hh6)
  clear hb6 hh6
  go_wp2_with (first
    | (refine wpList_insert_own _ (by rfl) _ _ _ 79 (by rfl) 9 85 (string_keyed Tryz.underlying9) Tryz.underlying79 heldElem w.heap.size 6 _ (by rfl) J6.out.1 (by unfold maxLen; omega) _ _ (.string [117, 105, 100]) (by rfl) (by rfl) (WideMaps.keyOf_string_mk Tryz.underlying9 (s := ⟨#[117, 105, 100]⟩) (by decide)) _ [] rfl ?_; intro v6 hown6 hgrow6; have I7 := Lib.hid (J6.out.ins hown6 hgrow6); clear hown6 hgrow6)
    | fail)
  refine (textField_any 81 _).mono ?_
  rintro e w7 ⟨hb7, hh7, rfl⟩
  have J7 := Lib.hid (I7.out.add hb7 hh7)
  clear hb7 hh7
  go_wp2_with (first
    | (refine wpList_insert_own _ (by rfl) _ _ _ 79 (by rfl) 9 85 (string_keyed Tryz.underlying9) Tryz.underlying79 heldElem w.heap.size 7 _ (by rfl) J7.out.1 (by unfold maxLen; omega) _ _ (.string [117, 110, 97, 109, 101]) (by rfl) (by rfl) (WideMaps.keyOf_string_mk Tryz.underlying9 (s := ⟨#[117, 110, 97, 109, 101]⟩) (by decide)) _ [] rfl ?_; intro v7 hown7 hgrow7; have I8 := Lib.hid (J7.out.ins hown7 hgrow7); clear hown7 hgrow7)
    | fail)
  have hsz : (w.alloc (.map #[] 0)).heap.size = w.heap.size + 1 := by simp
  obtain ⟨h1, h2, h3⟩ := I8.out
  have k0 := h3 _ (List.mem_cons_self)
  have k1 := h3 _ (List.mem_cons_of_mem _ List.mem_cons_self)
  have k2 := h3 _ (List.mem_cons_of_mem _ (List.mem_cons_of_mem _ List.mem_cons_self))
  have k3 := h3 _ (List.mem_cons_of_mem _ (List.mem_cons_of_mem _ (List.mem_cons_of_mem _ List.mem_cons_self)))
  have k4 := h3 _ (List.mem_cons_of_mem _ (List.mem_cons_of_mem _ (List.mem_cons_of_mem _ (List.mem_cons_of_mem _ List.mem_cons_self))))
  have k5 := h3 _ (List.mem_cons_of_mem _ (List.mem_cons_of_mem _ (List.mem_cons_of_mem _ (List.mem_cons_of_mem _ (List.mem_cons_of_mem _ List.mem_cons_self)))))
  have k6 := h3 _ (List.mem_cons_of_mem _ (List.mem_cons_of_mem _ (List.mem_cons_of_mem _ (List.mem_cons_of_mem _ (List.mem_cons_of_mem _ (List.mem_cons_of_mem _ List.mem_cons_self))))))
  simp only at k0 k1 k2 k3 k4 k5 k6
  rw [hsz] at k6
  have Hr := Lib.hid (show TblAt ⟨w.heap.size + 1, v0.heap.size, v1.heap.size, v3.heap.size, v4.heap.size, v5.heap.size, v6.heap.size⟩ v7 from ⟨k6.2, k5.2, k4.2, k3.2, k2.2, k1.2, k0.2⟩)
  have Hi := Lib.hid (show TblIn ⟨w.heap.size + 1, v0.heap.size, v1.heap.size, v3.heap.size, v4.heap.size, v5.heap.size, v6.heap.size⟩ w.heap.size from ⟨k6.1, k5.1, k4.1, k3.1, k2.1, k1.1, k0.1⟩)
  have Hb := Lib.hid h2
  have Ho := Lib.hid (show v7.ownsMap Tryz.prog 9 heldElem w.heap.size 8 (knownD ⟨w.heap.size + 1, v0.heap.size, v1.heap.size, v3.heap.size, v4.heap.size, v5.heap.size, v6.heap.size⟩) from h1)
  clear h1 h2 h3 k0 k1 k2 k3 k4 k5 k6 I0 I1 I2 I3 I4 I5 I6 I7 I8 J0 J1 J2 J3 J4 J5 J6 J7
  go_ret
  exact ⟨Hb.out, _, Ho.out, Hr.out, Hi.out, rfl⟩
end Go.Proofs.YtjmmecokfijglaaGreatDoor
namespace Go.Proofs.YtjmmecokfijglaaGreatDoor
open Go.ChangeShapes Go.WideShapes Go.ChangeAt Go.RowKit

def stRight (s n : Int) : Bool := decide (-9007199254740991 ≤ s ∧ s ≤ 9007199254740991 ∧ 0 ≤ n ∧ n ≤ 999999999)
theorem stRight_true {s n : Int} (h : stRight s n = true) : -9007199254740991 ≤ s ∧ s ≤ 9007199254740991 ∧ 0 ≤ n ∧ n ≤ 999999999 := by simpa [stRight] using h
/-- The same number with the other sign. -/
def stOpp (s n : Int) : Int × Int := if n = 0 then (-s, 0) else (-s - 1, 1000000000 - n)
def stCmp (s n s' n' : Int) : Int := if s < s' then -1 else if s' < s then 1 else if n < n' then -1 else if n' < n then 1 else 0
theorem stCmp_neg (s n s' n' : Int) : stCmp s' n' s n = -stCmp s n s' n' := by unfold stCmp; split <;> split <;> (try split) <;> (try split) <;> omega

/-- So many nanoseconds later. -/
def stLater (s n d : Int) : Int × Int := (s + (n + d) / 1000000000, (n + d) % 1000000000)
def stAdd (s n d : Int) : (Int × Int) × Int := if stRight (stLater s n d).1 (stLater s n d).2 = true then (stLater s n d, 0) else ((0, 0), 6)

/-- Go's quotient and remainder by a second. -/
theorem tparts (x : Int) : ∃ q r : Int, x.tdiv 1000000000 = q ∧ x.tmod 1000000000 = r ∧ q * 1000000000 + r = x ∧ -999999999 ≤ r ∧ r ≤ 999999999 := by
  refine ⟨_, _, rfl, rfl, ?_⟩
  rcases Int.le_total 0 x with h | h
  · rw [Int.tdiv_eq_ediv_of_nonneg h, Int.tmod_eq_emod_of_nonneg h]
    omega
  · obtain ⟨y, rfl⟩ : ∃ y, x = -y := ⟨-x, by omega⟩
    rw [Int.neg_tdiv, Int.neg_tmod, Int.tdiv_eq_ediv_of_nonneg (by omega), Int.tmod_eq_emod_of_nonneg (by omega)]
    omega
theorem stLater_of {s n d q r : Int} (h : q * 1000000000 + r = n + d) (h0 : 0 ≤ r) (h1 : r ≤ 999999999) : stLater s n d = (s + q, r) := by
  unfold stLater
  rw [show (n + d) / 1000000000 = q by omega, show (n + d) % 1000000000 = r by omega]
theorem stLater_of' {s n d q r : Int} (h : q * 1000000000 + r = n + d) (h0 : r < 0) (h1 : -999999999 ≤ r) : stLater s n d = (s + (q - 1), r + 1000000000) := by
  unfold stLater
  rw [show (n + d) / 1000000000 = q - 1 by omega, show (n + d) % 1000000000 = r + 1000000000 by omega]
theorem stCmp_bd (s n s' n' : Int) : -1 ≤ stCmp s n s' n' ∧ stCmp s n s' n' ≤ 1 := by
  unfold stCmp
  split
  · omega
  · split
    · omega
    · split
      · omega
      · split <;> omega
theorem later_back {s n d : Int} (h0 : 0 ≤ n) (h1 : n ≤ 999999999) : stLater (stLater s n d).1 (stLater s n d).2 (-d) = (s, n) := by
  unfold stLater
  simp only
  refine Prod.ext ?_ ?_ <;> simp only <;> omega
theorem cmp_later {s n d : Int} (h0 : 0 ≤ n) (h1 : n ≤ 999999999) : decide (0 < stCmp (stLater s n d).1 (stLater s n d).2 s n) = decide (0 < d) := by
  rw [decide_eq_decide]
  unfold stCmp stLater
  simp only
  split
  · omega
  · split
    · omega
    · split
      · omega
      · split <;> omega
end Go.Proofs.YtjmmecokfijglaaGreatDoor
namespace Go.Proofs.YtjmmecokfijglaaGreatDoor
open Go.ChangeShapes Go.WideShapes Go.ChangeAt Go.RowKit


/-- A block of two cells, as the walk asks for it. -/
theorem two_cells {w : World} {g : Nat} {t : TypeId} {a b : Value} (h : Holds w g t [a, b]) :
    w.cell? ⟨g, 0, none⟩ = some a ∧ w.cell? ⟨g, 1, none⟩ = some b ∧ w.frozen? ⟨g, 0, none⟩ = false ∧ w.frozen? ⟨g, 1, none⟩ = false :=
  ⟨h.cell (i := 0) (by simp), h.cell (i := 1) (by simp), h.frozen 0, h.frozen 1⟩
/-- Behind a call: one box, two boxes. -/
theorem box1 {w w1 : World} {a b : Value} {t : TypeId} (hb : Below (w.alloc (.cells #[a, b] t)).heap.size (w.alloc (.cells #[a, b] t)) w1) :
    Holds w1 w.heap.size t [a, b] ∧ Below w.heap.size w w1 ∧ w.heap.size < w1.heap.size :=
  ⟨(Holds.new w t [a, b]).under hb (by simp), ((Below.refl w.heap.size w).alloc (Nat.le_refl _) _).trans (hb.mono (by simp)), by have := hb.size; simp at this; omega⟩
theorem box2 {w w1 : World} {a b c d : Value} {t : TypeId}
    (hb : Below ((w.alloc (.cells #[a, b] t)).alloc (.cells #[c, d] t)).heap.size ((w.alloc (.cells #[a, b] t)).alloc (.cells #[c, d] t)) w1) :
    Holds w1 w.heap.size t [a, b] ∧ Holds w1 (w.heap.size + 1) t [c, d] ∧ Below w.heap.size w w1 ∧ w.heap.size + 1 < w1.heap.size := by
  have h2 := Holds.new (w.alloc (.cells #[a, b] t)) t [c, d]
  rw [World.size_alloc] at h2
  exact ⟨((Holds.new w t [a, b]).behind _).under hb (by simp; omega), h2.under hb (by simp), (((Below.refl w.heap.size w).alloc (Nat.le_refl _) _).alloc (by simp) _).trans (hb.mono (by simp; omega)), by have := hb.size; simp at this; omega⟩

theorem stRight_any (s n : Int) (w : World) :
    Calls Tryz.prog 184 #[.agg #[.int .i64 s, .int .i64 n]] w fun e w' => Below w.heap.size w w' ∧ e = .returned (.bool (stRight s n)) := by
  unfold stRight
  by_cases h1 : -9007199254740991 ≤ s
  · have d1 : decide (-9007199254740991 ≤ s) = true := decide_eq_true h1
    by_cases h2 : s ≤ 9007199254740991
    · have d2 : decide (s ≤ 9007199254740991) = true := decide_eq_true h2
      by_cases h3 : 0 ≤ n
      · have d3 : decide (0 ≤ n) = true := decide_eq_true h3
        have Hq := Lib.hid (show decide (n < 1000000000) = decide (-9007199254740991 ≤ s ∧ s ≤ 9007199254740991 ∧ 0 ≤ n ∧ n ≤ 999999999) by rw [decide_eq_decide]; omega)
        clear h1 h2 h3
        go_enter Tryz.func184, Tryz.ntmps184
        go_wp2
        go_ret
        rw [← Hq.out]
        exact ⟨(Below.refl _ _).alloc (Nat.le_refl _) _, rfl⟩
      · have d3 : decide (0 ≤ n) = false := decide_eq_false h3
        have Hq := Lib.hid (show decide (-9007199254740991 ≤ s ∧ s ≤ 9007199254740991 ∧ 0 ≤ n ∧ n ≤ 999999999) = false from decide_eq_false (by omega))
        clear h1 h2 h3
        go_enter Tryz.func184, Tryz.ntmps184
        go_wp2
        go_ret
        rw [Hq.out]
        exact ⟨(Below.refl _ _).alloc (Nat.le_refl _) _, rfl⟩
    · have d2 : decide (s ≤ 9007199254740991) = false := decide_eq_false h2
      have Hq := Lib.hid (show decide (-9007199254740991 ≤ s ∧ s ≤ 9007199254740991 ∧ 0 ≤ n ∧ n ≤ 999999999) = false from decide_eq_false (by omega))
      clear h1 h2
      go_enter Tryz.func184, Tryz.ntmps184
      go_wp2
      go_ret
      rw [Hq.out]
      exact ⟨(Below.refl _ _).alloc (Nat.le_refl _) _, rfl⟩
  · have d1 : decide (-9007199254740991 ≤ s) = false := decide_eq_false h1
    have Hq := Lib.hid (show decide (-9007199254740991 ≤ s ∧ s ≤ 9007199254740991 ∧ 0 ≤ n ∧ n ≤ 999999999) = false from decide_eq_false (by omega))
    clear h1
    go_enter Tryz.func184, Tryz.ntmps184
    go_wp2
    go_ret
    rw [Hq.out]
    exact ⟨(Below.refl _ _).alloc (Nat.le_refl _) _, rfl⟩

theorem stOpp_any (s n : Int) (w : World) (hs : -9007199254740991 ≤ s ∧ s ≤ 9999999999999999) (hn : 0 ≤ n ∧ n ≤ 999999999) :
    Calls Tryz.prog 183 #[.agg #[.int .i64 s, .int .i64 n]] w fun e w' => Below w.heap.size w w' ∧ e = .returned (.agg #[.int .i64 (stOpp s n).1, .int .i64 (stOpp s n).2]) := by
  obtain ⟨hs0, hs1⟩ := hs
  obtain ⟨hn0, hn1⟩ := hn
  by_cases h : n = 0
  · have Hq := Lib.hid (show stOpp s n = (-s, 0) from if_pos h)
    subst h
    go_enter Tryz.func183, Tryz.ntmps183
    go_wp2
    rw [Hq.out]
    exact bodyPost_ret (v := .agg #[.int .i64 (-s), .int .i64 0]) (by simp [results, Tryz.results183, go_sem]) rfl ⟨((Below.refl _ _).alloc (Nat.le_refl _) _).alloc (by simp) _, rfl⟩
  · have Hq := Lib.hid (show stOpp s n = (-s - 1, 1000000000 - n) from if_neg h)
    have e1 : (n == 0) = false := by simpa using h
    clear h
    go_enter Tryz.func183, Tryz.ntmps183
    go_wp2
    rw [Hq.out]
    exact bodyPost_ret (v := .agg #[.int .i64 (-s - 1), .int .i64 (1000000000 - n)]) (by simp [results, Tryz.results183, go_sem]) rfl ⟨((Below.refl _ _).alloc (Nat.le_refl _) _).alloc (by simp) _, rfl⟩
end Go.Proofs.YtjmmecokfijglaaGreatDoor
