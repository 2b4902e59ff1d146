/-
  Texts of this seat's proof, joined: their order is that of the build.
-/
import Derived.WalkKit
import Derived.ProofKit
import Derived.OpenShut
import Derived.Lib.Hide
import Derived.Deep.QuietTactic
import Derived.BigQuiet
import Derived.Test.YtjmmecokfijglaaGreatDoorRows
namespace Go.Proofs.YtjmmecokfijglaaGreatDoor
open Go.ChangeShapes Go.WideShapes Go.ChangeAt Go.RowKit

theorem ret_int {k : IntKind} {a b : Int} (h : a = b) : Ending.returned (.int k a) = .returned (.int k b) := by rw [h]
theorem ret_bool {a b : Bool} (h : a = b) : Ending.returned (.bool a) = .returned (.bool b) := by rw [h]
theorem ret_str {a b : List UInt8} (h : a = b) : Ending.returned (.string ⟨a.toArray⟩) = .returned (.string ⟨b.toArray⟩) := by rw [h]
theorem ret_int_int {k m : IntKind} {a b c d : Int} (h : (a, c) = (b, d)) : Ending.returned (.tuple #[.int k a, .int m c]) = .returned (.tuple #[.int k b, .int m d]) := by
  cases h; rfl
theorem ret_str_int {m : IntKind} {a b : List UInt8} {c d : Int} (h : (a, c) = (b, d)) : Ending.returned (.tuple #[.string ⟨a.toArray⟩, .int m c]) = .returned (.tuple #[.string ⟨b.toArray⟩, .int m d]) := by
  cases h; rfl
theorem ret_str_bool {a b : List UInt8} {c d : Bool} (h : (a, c) = (b, d)) : Ending.returned (.tuple #[.string ⟨a.toArray⟩, .bool c]) = .returned (.tuple #[.string ⟨b.toArray⟩, .bool d]) := by
  cases h; rfl

/-- A byte's number, and that it is below 256. -/
theorem byte_lt (b : UInt8) : (b.toNat : Int) < 256 := by have := b.toNat_lt; omega

@[go_sem] theorem wrap64_byte (b : UInt8) : wrap64 (b.toNat : Int) = b.toNat := IntWalk.wrap64_in _ (by have := byte_lt b; omega)

theorem str_of (s : ByteArray) : ∃ l : List UInt8, s = ⟨l.toArray⟩ := ⟨s.data.toList, by cases s; simp⟩

@[go_sem] theorem str_getElem (l : List UInt8) (k : Nat) (h : k < (ByteArray.mk l.toArray).size) : (ByteArray.mk l.toArray)[k] = l[k]'h := rfl

@[go_sem] theorem str_extract (l : List UInt8) (a b : Nat) : (ByteArray.mk l.toArray).extract a b = ⟨((l.drop a).take (b - a)).toArray⟩ := ByteArray.extract_mk l a b

@[go_sem] theorem str_append (x y : List UInt8) : (ByteArray.mk x.toArray ++ ByteArray.mk y.toArray : ByteArray) = ⟨(x ++ y).toArray⟩ := ByteArray.mk_append_mk x y

@[simp, go_sem] theorem take_drop_len (l : List UInt8) (i : Nat) : (l.drop i).take (l.length - i) = l.drop i := List.take_of_length_le (by rw [List.length_drop]; exact Nat.le_refl _)

theorem drop_at {l : List UInt8} {k : Nat} (h : k < l.length) : l.drop k = l[k] :: l.drop (k + 1) := List.drop_eq_getElem_cons h
end Go.Proofs.YtjmmecokfijglaaGreatDoor
namespace Go.Proofs.YtjmmecokfijglaaGreatDoor
open Go.ChangeShapes Go.WideShapes Go.ChangeAt Go.RowKit

/-- Block g holds just the values cs, of element type t, none of them frozen. -/
def Holds (w : World) (g : Nat) (t : TypeId) (cs : List Value) : Prop := w.heap[g]? = some (.cells cs.toArray t (0, 0))

section
variable {w w' : World} {g : Nat} {t : TypeId} {cs : List Value}
theorem Holds.lt (h : Holds w g t cs) : g < w.heap.size := by
  rcases Nat.lt_or_ge g w.heap.size with hl | hl
  · exact hl
  · exfalso
    unfold Holds at h
    rw [Array.getElem?_eq_none hl] at h
    cases h
theorem Holds.cell (h : Holds w g t cs) {i : Nat} (hi : i < cs.length) : w.cell? ⟨g, i, none⟩ = some cs[i] := by
  rw [cell_of_row w g i cs.toArray t (0, 0) h]
  simp [hi]
theorem Holds.frozen (h : Holds w g t cs) (i : Nat) : w.frozen? ⟨g, i, none⟩ = false := by
  unfold Holds at h
  simp [World.frozen?, h]
theorem Holds.new (w : World) (t : TypeId) (cs : List Value) : Holds (w.alloc (.cells cs.toArray t)) w.heap.size t cs := heap_alloc_new w _
theorem Holds.put (h : Holds w g t cs) (i : Nat) (u : Value) : Holds (w.setCell ⟨g, i, none⟩ u) g t (cs.set i u) := by
  unfold Holds at h ⊢
  simp [World.setCell, Array.getElem?_modify, h]
theorem Holds.other (h : Holds w g t cs) {p : Addr} (hp : g ≠ p.block) (u : Value) : Holds (w.setCell p u) g t cs := (Below.heap_setCell w p u g hp).trans h
theorem Holds.behind (h : Holds w g t cs) (o : Obj) : Holds (w.alloc o) g t cs := (Below.heap_alloc w o g h.lt).trans h
theorem Holds.under {B : Nat} (h : Holds w g t cs) (hb : Below B w w') (hg : g < B) : Holds w' g t cs := (hb.block g hg).trans h
theorem Holds.grown {row : Option Nat} (h : Holds w g t cs) (hb : w.grownBy w' row) (hne : some g ≠ row) : Holds w' g t cs := (hb.block g h.lt hne).trans h
theorem Holds.drew (h : Holds w g t cs) : Holds w.drew g t cs := h
end

/-- Bytes as the cells of a block. -/
def byteCells (l : List UInt8) : List Value := l.map fun b => Value.int .u8 b.toNat

theorem byteCells_length (l : List UInt8) : (byteCells l).length = l.length := by simp [byteCells]
theorem byteCells_get (l : List UInt8) (i : Nat) (h : i < l.length) : (byteCells l)[i]'(by rw [byteCells_length]; exact h) = .int .u8 l[i].toNat := by simp [byteCells]
theorem byteCells_set (l : List UInt8) (i : Nat) (x : Int) (h0 : 0 ≤ x) (h1 : x < 256) : (byteCells l).set i (.int .u8 x) = byteCells (l.set i (UInt8.ofNat x.toNat)) := by
  unfold byteCells
  rw [List.map_set]
  congr 1
  have : ((UInt8.ofNat x.toNat).toNat : Int) = x := by
    rw [UInt8.toNat_ofNat']
    have : x.toNat % 256 = x.toNat := Nat.mod_eq_of_lt (by omega)
    omega
  rw [this]

theorem byteCells_replicate (n : Nat) : byteCells (List.replicate n 0) = List.replicate n (.int .u8 0) := by simp [byteCells]

/-- 'make([]byte, n)'. -/
theorem run_make_bytes {P : Program} (t e : TypeId) (ht : P.underlying t = some (.slice e)) (hi : (P.info? e).map (fun i => (i.zero, i.size, i.bytes)) = some (some (.int .u8 0), 1, 1))
    (n : Nat) (hn : n ≤ 281474976710656) (w : World) :
    (Instr.makeSlice t (.int .i64 (n : Int)) (.int .i64 (n : Int))).run P w = .ok (.slice (some ⟨w.heap.size, 0, none⟩) n n) (w.alloc (.cells (byteCells (List.replicate n 0)).toArray e)) := by
  obtain ⟨i0, hi, hz, hs, hb⟩ := info_parts hi
  have h := run_make (P := P) w t e i0 _ ht hi hz .i64 .i64 n n (by omega) (by omega) (by rw [hb]; omega) (by omega)
  rw [h]
  simp only [Int.toNat_natCast]
  congr 2
  rw [hs, byteCells_replicate]
  simp only [Nat.mul_one, madeCells]
  congr 1
  apply Array.ext
  · simp
  · intro i h1 h2
    simp only [List.getElem_toArray, List.getElem_replicate, Array.getElem_map]
    show ((#[Value.int .u8 0] : Array Value)[_ % 1]!) = _
    rw [Nat.mod_one]
    rfl

/-- 'string(b)' of a whole block of bytes. -/
theorem run_bytes_string {P : Program} (src e dst : TypeId) (hs : P.underlying src = some (.slice e)) (he : P.underlying e = some (.int .u8)) (hd : P.underlying dst = some .string)
    {w : World} {g : Nat} {l : List UInt8} {t : TypeId} (h : Holds w g t (byteCells l)) (n : Nat) (hn : n = l.length) (cap : Nat) :
    (convert src dst (.slice (some ⟨g, 0, none⟩) n cap)).run P w = .ok (.string ⟨l.toArray⟩) w := by
  subst hn
  have hr := run_convert_bytes_arg (P := P) w src e hs he g 0 l.length cap (l.map fun b => (b.toNat : Int)) (by simp) (fun i hi => by
    have hc := h.cell (i := i) (by rw [byteCells_length]; exact hi)
    rw [byteCells_get l i hi] at hc
    rw [Nat.zero_add, hc]
    congr 2
    simp [List.getD_eq_getElem?_getD, hi]) dst hd
  rw [hr]
  congr 2
  unfold strOfNums
  congr 1
  rw [List.map_map]
  congr 1
  rw [List.map_congr_left (g := id) (fun b _ => by simp)]
  simp

theorem byteCells_one (x : Int) (h0 : 0 ≤ x) (h1 : x < 256) : byteCells [UInt8.ofNat x.toNat] = [Value.int .u8 x] := by
  have := byteCells_set [0] 0 x h0 h1
  simpa [byteCells] using this.symm

/-- 'string([]byte{x})'. -/
theorem run_byte_string {P : Program} (src e dst : TypeId) (hs : P.underlying src = some (.slice e)) (he : P.underlying e = some (.int .u8)) (hd : P.underlying dst = some .string)
    (x : Int) (h0 : 0 ≤ x) (h1 : x < 256) (w : World) :
    (convert src dst (.slice (some ⟨w.heap.size, 0, none⟩) 1 1)).run P (w.alloc (.cells #[.int .u8 x] e)) = .ok (.string ⟨[UInt8.ofNat x.toNat].toArray⟩) (w.alloc (.cells #[.int .u8 x] e)) := by
  refine run_bytes_string (P := P) src e dst hs he hd (w := w.alloc (.cells #[.int .u8 x] e)) (g := w.heap.size) (l := [UInt8.ofNat x.toNat]) (t := e) ?_ 1 rfl 1
  rw [byteCells_one x h0 h1]
  exact Holds.new w e [.int .u8 x]
end Go.Proofs.YtjmmecokfijglaaGreatDoor
namespace Go.Proofs.YtjmmecokfijglaaGreatDoor
open Go.ChangeShapes Go.WideShapes Go.ChangeAt Go.RowKit

theorem below_drewN {B : Nat} {a w : World} (h : Below B a w) (n : Nat) : Below B a (w.drewN n) := h.trans ⟨rfl, rfl, rfl, Nat.le_refl _, fun _ _ => rfl⟩
end Go.Proofs.YtjmmecokfijglaaGreatDoor
namespace Go.Proofs.YtjmmecokfijglaaGreatDoor
open Go.ChangeShapes Go.WideShapes Go.ChangeAt Go.RowKit

theorem known1_any (b : Nat) (w : World) :
    Calls Tryz.prog 73 #[.pointer (some ⟨b, 0, none⟩)] w fun e w' => (∃ m, w' = w.drewN m) ∧ e = .returned (.tuple #[.pointer (some ⟨b, 5, none⟩), .pointer (some ⟨b, 20, none⟩)]) := by
  go_enter Tryz.func73, Tryz.ntmps73
  go_wp2_with (fail)
  go_quiet (fail)
  go_wp2
  go_ret2
  exact ⟨⟨nq, rfl⟩, rfl⟩

theorem known2_any (b : Nat) (w : World) :
    Calls Tryz.prog 75 #[.pointer (some ⟨b, 0, none⟩)] w fun e w' => (∃ m, w' = w.drewN m) ∧ e = .returned (.tuple #[.pointer (some ⟨b, 7, none⟩), .pointer (some ⟨b, 24, none⟩)]) := by
  go_enter Tryz.func75, Tryz.ntmps75
  go_wp2_with (fail)
  go_quiet (fail)
  go_wp2
  go_ret2
  exact ⟨⟨nq, rfl⟩, rfl⟩

theorem known3_any (b : Nat) (w : World) :
    Calls Tryz.prog 76 #[.pointer (some ⟨b, 0, none⟩)] w fun e w' => (∃ m, w' = w.drewN m) ∧ e = .returned (.tuple #[.pointer (some ⟨b, 1, none⟩), .pointer (some ⟨b, 16, none⟩)]) := by
  go_enter Tryz.func76, Tryz.ntmps76
  go_wp2_with (fail)
  go_quiet (fail)
  go_wp2
  go_ret2
  exact ⟨⟨nq, rfl⟩, rfl⟩

theorem known4_any (b : Nat) (w : World) :
    Calls Tryz.prog 78 #[.pointer (some ⟨b, 0, none⟩)] w fun e w' => (∃ m, w' = w.drewN m) ∧ e = .returned (.tuple #[.pointer (some ⟨b, 0, none⟩), .pointer (some ⟨b, 15, none⟩)]) := by
  go_enter Tryz.func78, Tryz.ntmps78
  go_wp2_with (fail)
  go_quiet (fail)
  go_wp2
  go_ret2
  exact ⟨⟨nq, rfl⟩, rfl⟩

theorem known5_any (b : Nat) (w : World) :
    Calls Tryz.prog 79 #[.pointer (some ⟨b, 0, none⟩)] w fun e w' => (∃ m, w' = w.drewN m) ∧ e = .returned (.tuple #[.pointer (some ⟨b, 14, none⟩), .pointer (some ⟨b, 21, none⟩)]) := by
  go_enter Tryz.func79, Tryz.ntmps79
  go_wp2_with (fail)
  go_quiet (fail)
  go_wp2
  go_ret2
  exact ⟨⟨nq, rfl⟩, rfl⟩

theorem known6_any (b : Nat) (w : World) :
    Calls Tryz.prog 80 #[.pointer (some ⟨b, 0, none⟩)] w fun e w' => (∃ m, w' = w.drewN m) ∧ e = .returned (.tuple #[.pointer (some ⟨b, 4, none⟩), .pointer (some ⟨b, 19, none⟩)]) := by
  go_enter Tryz.func80, Tryz.ntmps80
  go_wp2_with (fail)
  go_quiet (fail)
  go_wp2
  go_ret2
  exact ⟨⟨nq, rfl⟩, rfl⟩

theorem known7_any (b : Nat) (w : World) :
    Calls Tryz.prog 81 #[.pointer (some ⟨b, 0, none⟩)] w fun e w' => (∃ m, w' = w.drewN m) ∧ e = .returned (.tuple #[.pointer (some ⟨b, 6, none⟩), .pointer (some ⟨b, 23, none⟩)]) := by
  go_enter Tryz.func81, Tryz.ntmps81
  go_wp2_with (fail)
  go_quiet (fail)
  go_wp2
  go_ret2
  exact ⟨⟨nq, rfl⟩, rfl⟩

theorem atIsIn_any (v m : Int) (w : World) :
    Calls Tryz.prog 85 #[.int .i64 v, .int .i64 m] w fun e w' => w = w' ∧ e = .returned (.bool (decide (0 ≤ v ∧ v ≤ m))) := by
  by_cases h0 : 0 ≤ v
  · by_cases h1 : v ≤ m
    · rw [decide_eq_true ⟨h0, h1⟩]
      go_enter Tryz.func85, Tryz.ntmps85
      go_wp2
      go_ret
      exact ⟨rfl, rfl⟩
    · rw [decide_eq_false (fun h => h1 h.2)]
      go_enter Tryz.func85, Tryz.ntmps85
      go_wp2
      go_ret
      exact ⟨rfl, rfl⟩
  · rw [decide_eq_false (fun h => h0 h.1)]
    go_enter Tryz.func85, Tryz.ntmps85
    go_wp2
    go_ret
    exact ⟨rfl, rfl⟩
end Go.Proofs.YtjmmecokfijglaaGreatDoor
namespace Go.Proofs.YtjmmecokfijglaaGreatDoor
open Go.ChangeShapes Go.WideShapes Go.ChangeAt Go.RowKit

def sumL (f : UInt8 → Int) : List UInt8 → Int
  | [] => 0
  | b :: l => f b + sumL f l
theorem sumL_cons (f : UInt8 → Int) (b : UInt8) (l : List UInt8) : sumL f (b :: l) = f b + sumL f l := rfl
theorem sumL_append (f : UInt8 → Int) (x y : List UInt8) : sumL f (x ++ y) = sumL f x + sumL f y := by
  induction x with
  | nil => simp [sumL]
  | cons b x ih => rw [List.cons_append, sumL_cons, sumL_cons, ih]; omega
theorem sumL_snoc (f : UInt8 → Int) (l : List UInt8) (k : Nat) (h : k < l.length) : sumL f (l.take (k + 1)) = sumL f (l.take k) + f l[k] := by
  rw [List.take_succ_eq_append_getElem h, sumL_append]
  simp [sumL]

/-- A byte as a number, and as one with a sign. -/
def uns (b : UInt8) : Int := b.toNat
def sgn (b : UInt8) : Int := if 128 ≤ (b.toNat : Int) then (b.toNat : Int) - 256 else b.toNat
def val (s : Bool) : UInt8 → Int := if s then sgn else uns
theorem uns_bd (b : UInt8) : 0 ≤ uns b ∧ uns b ≤ 255 := by have := byte_lt b; unfold uns; omega
theorem sgn_bd (b : UInt8) : -128 ≤ sgn b ∧ sgn b ≤ 127 := by have := byte_lt b; unfold sgn; split <;> omega
theorem val_bd (s : Bool) (b : UInt8) : -255 ≤ val s b ∧ val s b ≤ 255 := by
  have h1 := uns_bd b
  have h2 := sgn_bd b
  cases s
  · show -255 ≤ uns b ∧ uns b ≤ 255; omega
  · show -255 ≤ sgn b ∧ sgn b ≤ 255; omega
theorem sumL_bd (s : Bool) (l : List UInt8) : -(255 * (l.length : Int)) ≤ sumL (val s) l ∧ sumL (val s) l ≤ 255 * (l.length : Int) := by
  induction l with
  | nil => simp [sumL]
  | cons b l ih => rw [sumL_cons, List.length_cons]; have := val_bd s b; omega
theorem sumL_uns (l : List UInt8) : 0 ≤ sumL uns l ∧ sumL uns l ≤ 255 * (l.length : Int) := by
  induction l with
  | nil => simp [sumL]
  | cons b l ih => rw [sumL_cons, List.length_cons]; have := uns_bd b; omega

/-- A block, its sum's bytes as blanks. -/
def blanked (l : List UInt8) : List UInt8 := l.take 148 ++ (List.replicate 8 32 ++ l.drop 156)
theorem blanked_length (l : List UInt8) (h : l.length = 512) : (blanked l).length = 512 := by simp [blanked]; omega
theorem blanked_get (l : List UInt8) (h : l.length = 512) (k : Nat) (hk : k < 512) : (blanked l)[k]'(by rw [blanked_length l h]; exact hk) = if 148 ≤ k ∧ k ≤ 155 then 32 else l[k] := by
  unfold blanked
  by_cases h1 : k < 148
  · rw [List.getElem_append_left (by simp; omega), if_neg (by omega), List.getElem_take]
  · rw [List.getElem_append_right (by simp; omega)]
    have e : (l.take 148).length = 148 := by rw [List.length_take]; omega
    by_cases h2 : k ≤ 155
    · rw [List.getElem_append_left (by simp; omega), if_pos (by omega), List.getElem_replicate]
    · rw [List.getElem_append_right (by simp; omega), if_neg (by omega), List.getElem_drop]
      congr 1
      simp; omega

def bSum (s : Bool) (l : List UInt8) : Int := sumL (val s) (blanked l)
theorem bSum_bd (s : Bool) (l : List UInt8) (h : l.length = 512) : -130560 ≤ bSum s l ∧ bSum s l ≤ 130560 := by
  have := sumL_bd s (blanked l)
  rw [blanked_length l h] at this
  unfold bSum; omega
theorem bSum_pos (l : List UInt8) (h : l.length = 512) : 0 ≤ bSum false l ∧ bSum false l ≤ 130560 := by
  have := sumL_uns (blanked l)
  rw [blanked_length l h] at this
  unfold bSum; exact ⟨this.1, by show sumL uns _ ≤ _; omega⟩

/-- The blanks count 256, so such a sum is that of all else, and 256. -/
theorem sumL_blanked (f : UInt8 → Int) (l : List UInt8) : sumL f (blanked l) = sumL f (l.take 148) + 8 * f 32 + sumL f (l.drop 156) := by
  unfold blanked
  rw [sumL_append, sumL_append]
  simp only [List.replicate, sumL_cons]
  show _ + (_ + sumL f _) = _
  simp only [sumL]
  omega

/-- The array as numbersOf fills it. -/
def filled (l : List UInt8) (k : Nat) : List UInt8 := l.take k ++ List.replicate (512 - k) 0
def blanking (l : List UInt8) (k : Nat) : List UInt8 := l.take 148 ++ (List.replicate k 32 ++ l.drop (148 + k))
theorem filled_length (l : List UInt8) (h : l.length = 512) (k : Nat) (hk : k ≤ 512) : (filled l k).length = 512 := by simp [filled]; omega
theorem blanking_length (l : List UInt8) (h : l.length = 512) (k : Nat) (hk : k ≤ 8) : (blanking l k).length = 512 := by simp [blanking]; omega
theorem filled_zero (l : List UInt8) : filled l 0 = List.replicate 512 0 := by unfold filled; rw [List.take_zero, List.nil_append, Nat.sub_zero]
theorem filled_succ (l : List UInt8) (h : l.length = 512) (k : Nat) (hk : k < 512) : (filled l k).set k l[k] = filled l (k + 1) := by
  unfold filled
  rw [List.set_append_right _ _ (by simp; omega)]
  have e : k - (l.take k).length = 0 := by rw [List.length_take]; omega
  rw [e, show 512 - k = (512 - (k + 1)) + 1 by omega, List.replicate_succ, List.set_cons_zero, List.take_succ_eq_append_getElem (by omega), List.append_assoc]
  rfl
theorem filled_full (l : List UInt8) (h : l.length = 512) : filled l 512 = l := by
  unfold filled
  rw [List.take_of_length_le (by omega)]; simp
theorem blanking_zero (l : List UInt8) : blanking l 0 = l := by simp [blanking]
theorem blanking_succ (l : List UInt8) (h : l.length = 512) (k : Nat) (hk : k < 8) : (blanking l k).set (148 + k) 32 = blanking l (k + 1) := by
  unfold blanking
  rw [List.set_append_right _ _ (by simp; omega)]
  have e : 148 + k - (l.take 148).length = k := by rw [List.length_take]; omega
  rw [e, List.set_append_right _ _ (by simp)]
  have e2 : k - (List.replicate k (32 : UInt8)).length = 0 := by simp
  rw [e2, drop_at (show 148 + k < l.length by omega), List.set_cons_zero, List.replicate_succ', List.append_assoc]
  rfl
theorem blanking_full (l : List UInt8) : blanking l 8 = blanked l := rfl
end Go.Proofs.YtjmmecokfijglaaGreatDoor
namespace Go.Proofs.YtjmmecokfijglaaGreatDoor
open Go.ChangeShapes Go.WideShapes Go.ChangeAt Go.RowKit

def isSize (n : Int) : Bool := decide (2 ≤ n) && decide (n ≤ 12)
def inRange (n : Int) : Bool := decide (-9007199254740991 ≤ n) && decide (n ≤ 9007199254740991)

/-- The document's saturating step. -/
def radd (b v d : Int) : Int := if 9007199254740991 < v then v else v * b + d

def readBinary : Int → List UInt8 → Int × Int
  | x, [] => (x, 0)
  | x, b :: l => if inRange (x * 256 + b.toNat) = true then readBinary (x * 256 + b.toNat) l else (0, 6)

theorem readBinary_cons (x : Int) (b : UInt8) (l : List UInt8) :
    readBinary x (b :: l) = if inRange (x * 256 + b.toNat) = true then readBinary (x * 256 + b.toNat) l else (0, 6) := rfl

/-- Two's complement: a number whose low eight bits are clear, joined with a byte. -/
theorem i64_or8 (x y : Int) (h0 : -9223372036854775808 ≤ x) (h1 : x ≤ 9223372036854775807) (hx : x % 256 = 0) (hy0 : 0 ≤ y) (hy : y < 256) : bits .or .i64 x y = x + y := by
  obtain ⟨b, rfl⟩ := Int.eq_ofNat_of_zero_le hy0
  have hb : b < 256 := by omega
  obtain ⟨a, ha⟩ : ∃ a : Nat, (x % 18446744073709551616) = (a : Int) := ⟨(x % 18446744073709551616).toNat, by omega⟩
  have haN : a < 18446744073709551616 := by omega
  have ha8 : a % 256 = 0 := by omega
  have hbx : (BitVec.ofInt 64 x).toNat = a := by
    rw [BitVec.toNat_ofInt]
    have : ((2 ^ 64 : Nat) : Int) = 18446744073709551616 := by decide
    rw [this, ha]; rfl
  have hby : (BitVec.ofInt 64 (b : Int)).toNat = b := by
    rw [BitVec.toNat_ofInt]
    have : ((2 ^ 64 : Nat) : Int) = 18446744073709551616 := by decide
    rw [this]; omega
  have hq : a = 2 ^ 8 * (a / 2 ^ 8) := by have := Nat.div_add_mod a 256; omega
  have hor : a ||| b = a + b := by
    rw [hq, ← Nat.two_pow_add_eq_or_of_lt (by omega) (a / 2 ^ 8)]
  show IntKind.i64.wrap ((BitVec.ofInt 64 x ||| BitVec.ofInt 64 (b : Int)).toNat : Int) = _
  rw [BitVec.toNat_or, hbx, hby, hor, IntKind.wrap_i64]
  omega

theorem shl8_or (z : Int) (b : UInt8) (h : inRange z = true) : bits .or .i64 (wrap64 (z * 256)) (b.toNat : Int) = z * 256 + b.toNat := by
  simp only [inRange, Bool.and_eq_true, decide_eq_true_eq] at h
  have hb := byte_lt b
  rw [IntWalk.wrap64_in _ (by omega), i64_or8 _ _ (by omega) (by omega) (by omega) (by omega) hb]

/-- part, number, and what is left of the field. -/
def readOctal : Int → Int → List UInt8 → Int × Int
  | _, z, [] => (z, 0)
  | q, z, b :: l =>
    if q = 0 ∧ (b.toNat : Int) = 32 then readOctal 0 z l
    else if q ≠ 2 ∧ 48 ≤ (b.toNat : Int) ∧ (b.toNat : Int) ≤ 55 then readOctal 1 (z * 8 + ((b.toNat : Int) - 48)) l
    else if (b.toNat : Int) = 0 ∨ (b.toNat : Int) = 32 then readOctal 2 z l
    else (0, 2)

theorem readOctal_cons (q z : Int) (b : UInt8) (l : List UInt8) : readOctal q z (b :: l) =
    if q = 0 ∧ (b.toNat : Int) = 32 then readOctal 0 z l
    else if q ≠ 2 ∧ 48 ≤ (b.toNat : Int) ∧ (b.toNat : Int) ≤ 55 then readOctal 1 (z * 8 + ((b.toNat : Int) - 48)) l
    else if (b.toNat : Int) = 0 ∨ (b.toNat : Int) = 32 then readOctal 2 z l
    else (0, 2) := rfl

theorem pow8_succ (k : Nat) (h : k ≤ 12) : (8 : Int) ^ (k + 1) = 8 * 8 ^ k ∧ 1 ≤ (8 : Int) ^ k ∧ (8 : Int) ^ k ≤ 68719476736 := by
  refine ⟨by rw [Int.pow_succ]; omega, ?_, ?_⟩
  · have : 0 < (8 : Nat) ^ k := Nat.pos_of_ne_zero (by simp)
    have h2 : (((8 : Nat) ^ k : Nat) : Int) = (8 : Int) ^ k := by simp
    omega
  · have h1 : (8 : Nat) ^ k ≤ 8 ^ 12 := Nat.pow_le_pow_right (by decide) h
    have h2 : (((8 : Nat) ^ k : Nat) : Int) = (8 : Int) ^ k := by simp
    have h3 : (8 : Nat) ^ 12 = 68719476736 := by decide
    omega

theorem two62 : (2 : Int) ^ 62 = 4611686018427387904 := by decide
theorem i64_or3 (z y : Int) (h0 : 0 ≤ z) (h1 : z ≤ 68719476736) (hy0 : 0 ≤ y) (hy : y < 8) : bits .or .i64 (wrap64 (z * 8)) y = z * 8 + y := by
  rw [IntWalk.wrap64_in _ (by omega)]
  refine bits_join .i64 62 (by decide) (fun n h h' => IntWalk.i64_in n ?_) 3 (z * 8) y ?_ ?_ ?_ hy0 ?_ ?_
  all_goals (try rw [two62] at *)
  all_goals omega

/-! ### The document's own answer -/
def refFold (base : Int) (f : UInt8 → Int) : Int → List UInt8 → Int
  | v, [] => v
  | v, b :: l => refFold base f (radd base v (f b)) l

theorem refFold_cons (base : Int) (f : UInt8 → Int) (v : Int) (b : UInt8) (l : List UInt8) : refFold base f v (b :: l) = refFold base f (radd base v (f b)) l := rfl

theorem radd_big (v d : Int) (h : 9007199254740991 < v) : radd 256 v d = v := if_pos h

theorem refFold_big (f : UInt8 → Int) (v : Int) (l : List UInt8) (h : 9007199254740991 < v) : refFold 256 f v l = v := by
  induction l with
  | nil => rfl
  | cons b l ih => rw [refFold_cons, radd_big _ _ h, ih]

theorem readBinary_up (l : List UInt8) : ∀ v : Int, 0 ≤ v → v ≤ 9007199254740991 →
    readBinary v l = if 9007199254740991 < refFold 256 (fun b => (b.toNat : Int)) v l then (0, 6) else (refFold 256 (fun b => (b.toNat : Int)) v l, 0) := by
  induction l with
  | nil => intro v h0 h1; rw [if_neg (by simp only [refFold]; omega)]; rfl
  | cons b l ih =>
    intro v h0 h1
    have hb := byte_lt b
    rw [readBinary_cons, refFold_cons]
    have hr : radd 256 v (b.toNat : Int) = v * 256 + b.toNat := if_neg (by omega)
    rw [hr]
    by_cases h : v * 256 + (b.toNat : Int) ≤ 9007199254740991
    · rw [if_pos (by simp [inRange]; omega), ih _ (by omega) h]
    · rw [if_neg (by simp [inRange]; omega), refFold_big _ _ _ (by omega), if_pos (by omega)]

theorem readBinary_down (l : List UInt8) : ∀ v : Int, 0 ≤ v → v + 1 ≤ 9007199254740991 →
    readBinary (-v - 1) l = if 9007199254740991 < refFold 256 (fun b => 255 - (b.toNat : Int)) v l + 1 then (0, 6) else (-refFold 256 (fun b => 255 - (b.toNat : Int)) v l - 1, 0) := by
  induction l with
  | nil => intro v h0 h1; rw [if_neg (by simp only [refFold]; omega)]; rfl
  | cons b l ih =>
    intro v h0 h1
    have hb := byte_lt b
    rw [readBinary_cons, refFold_cons]
    have hr : radd 256 v (255 - (b.toNat : Int)) = v * 256 + (255 - b.toNat) := if_neg (by omega)
    rw [hr]
    have he : (-v - 1) * 256 + (b.toNat : Int) = -(v * 256 + (255 - (b.toNat : Int))) - 1 := by omega
    rw [he]
    by_cases h : v * 256 + (255 - (b.toNat : Int)) + 1 ≤ 9007199254740991
    · rw [if_pos (by simp [inRange]; omega), ih _ (by omega) h]
    · rw [if_neg (by simp [inRange]; omega)]
      by_cases h2 : v * 256 + (255 - (b.toNat : Int)) ≤ 9007199254740991
      · have hv : v * 256 + (255 - (b.toNat : Int)) = 9007199254740991 := by omega
        rw [hv]
        cases l with
        | nil => rfl
        | cons c l =>
          have hc := byte_lt c
          rw [refFold_cons, show radd 256 9007199254740991 (255 - (c.toNat : Int)) = 9007199254740991 * 256 + (255 - (c.toNat : Int)) from if_neg (by omega),
            refFold_big _ _ _ (by omega), if_pos (by omega)]
      · rw [refFold_big _ _ _ (by omega), if_pos (by omega)]

def skip32 : List UInt8 → List UInt8
  | [] => []
  | b :: l => if (b.toNat : Int) = 32 then skip32 l else b :: l

/-- Digits of base 8, as far as they stand; the number, and what is left. -/
def digRun : Int → List UInt8 → Int × List UInt8
  | v, [] => (v, [])
  | v, b :: l => if 48 ≤ (b.toNat : Int) ∧ (b.toNat : Int) ≤ 55 then digRun (radd 8 v ((b.toNat : Int) - 48)) l else (v, b :: l)

def allBlank : List UInt8 → Bool
  | [] => true
  | b :: l => if (b.toNat : Int) ≠ 32 ∧ (b.toNat : Int) ≠ 0 then false else allBlank l

def tailOf (v : Int) (r : List UInt8) : Int × Int :=
  if allBlank r = true then (if 9007199254740991 < v then (0, 6) else (v, 0)) else (0, 2)

def refOctal (l : List UInt8) : Int × Int := tailOf (digRun 0 (skip32 l)).1 (digRun 0 (skip32 l)).2

theorem skip32_cons (b : UInt8) (l : List UInt8) : skip32 (b :: l) = if (b.toNat : Int) = 32 then skip32 l else b :: l := rfl
theorem digRun_cons (v : Int) (b : UInt8) (l : List UInt8) : digRun v (b :: l) = if 48 ≤ (b.toNat : Int) ∧ (b.toNat : Int) ≤ 55 then digRun (radd 8 v ((b.toNat : Int) - 48)) l else (v, b :: l) := rfl
theorem allBlank_cons (b : UInt8) (l : List UInt8) : allBlank (b :: l) = if (b.toNat : Int) ≠ 32 ∧ (b.toNat : Int) ≠ 0 then false else allBlank l := rfl

theorem tailOf_skip (v : Int) (b : UInt8) (l : List UInt8) (h : (b.toNat : Int) = 0 ∨ (b.toNat : Int) = 32) : tailOf v (b :: l) = tailOf v l := by
  unfold tailOf
  rw [show allBlank (b :: l) = allBlank l by rw [allBlank_cons, if_neg (by omega)]]
theorem tailOf_bad (v : Int) (b : UInt8) (l : List UInt8) (h : ¬((b.toNat : Int) = 0 ∨ (b.toNat : Int) = 32)) : tailOf v (b :: l) = (0, 2) := by
  unfold tailOf
  rw [show allBlank (b :: l) = false by rw [allBlank_cons, if_pos (by omega)]]
  rfl
theorem tailOf_nil (v : Int) (h : v ≤ 9007199254740991) : tailOf v [] = (v, 0) := by
  unfold tailOf
  rw [show allBlank [] = true from rfl, if_pos (rfl : true = true), if_neg (by omega)]

theorem readOctal_rest (z : Int) (hz : z ≤ 9007199254740991) (l : List UInt8) : readOctal 2 z l = tailOf z l := by
  induction l with
  | nil => rw [tailOf_nil _ hz]; rfl
  | cons b l ih =>
    rw [readOctal_cons, if_neg (by omega), if_neg (by omega)]
    by_cases h : (b.toNat : Int) = 0 ∨ (b.toNat : Int) = 32
    · rw [if_pos h, tailOf_skip _ _ _ h, ih]
    · rw [if_neg h, tailOf_bad _ _ _ h]

theorem readOctal_digits (l : List UInt8) : ∀ z k : Int, 0 ≤ z → z < k → k * 8 ^ l.length ≤ 68719476736 → readOctal 1 z l = tailOf (digRun z l).1 (digRun z l).2 := by
  induction l with
  | nil => intro z k h0 h1 h2; simp at h2; exact (tailOf_nil z (by omega)).symm
  | cons b l ih =>
    intro z k h0 h1 h2
    have hb := byte_lt b
    have hp : (1 : Int) ≤ 8 ^ l.length := by
      have : 0 < (8 : Nat) ^ l.length := Nat.pos_of_ne_zero (by simp)
      have h2 : (((8 : Nat) ^ l.length : Nat) : Int) = (8 : Int) ^ l.length := by simp
      omega
    have hk : k * 8 ^ (l.length + 1) = (k * 8) * 8 ^ l.length := by rw [Int.pow_succ]; simp only [Int.mul_assoc, Int.mul_comm]
    rw [List.length_cons, hk] at h2
    have hz : k * 8 ≤ 68719476736 := by
      have : k * 8 * 1 ≤ k * 8 * 8 ^ l.length := Int.mul_le_mul_of_nonneg_left hp (by omega)
      omega
    rw [readOctal_cons, if_neg (by omega), digRun_cons]
    by_cases h : 48 ≤ (b.toNat : Int) ∧ (b.toNat : Int) ≤ 55
    · rw [if_pos (by omega), if_pos h, show radd 8 z ((b.toNat : Int) - 48) = z * 8 + ((b.toNat : Int) - 48) from if_neg (by omega)]
      exact ih _ (k * 8) (by omega) (by omega) h2
    · rw [if_neg (by omega), if_neg h]
      show _ = tailOf z (b :: l)
      by_cases h' : (b.toNat : Int) = 0 ∨ (b.toNat : Int) = 32
      · rw [if_pos h', tailOf_skip _ _ _ h', readOctal_rest _ (by omega)]
      · rw [if_neg h', tailOf_bad _ _ _ h']

theorem readOctal_skip (l : List UInt8) : readOctal 0 0 l = readOctal 1 0 (skip32 l) := by
  induction l with
  | nil => rfl
  | cons b l ih =>
    rw [readOctal_cons, skip32_cons]
    by_cases h : (b.toNat : Int) = 32
    · rw [if_pos ⟨rfl, h⟩, if_pos h, ih]
    · rw [if_neg (by omega), if_neg h, readOctal_cons]
      by_cases h2 : 48 ≤ (b.toNat : Int) ∧ (b.toNat : Int) ≤ 55
      · rw [if_pos (by omega), if_neg (by omega), if_pos (by omega)]
      · rw [if_neg (by omega), if_neg (by omega : ¬((1 : Int) = 0 ∧ _)), if_neg (by omega : ¬((1 : Int) ≠ 2 ∧ _))]

theorem skip32_length (l : List UInt8) : (skip32 l).length ≤ l.length := by
  induction l with
  | nil => exact Nat.le_refl _
  | cons b l ih => rw [skip32_cons]; split <;> simp; omega

theorem readOctal_ref (l : List UInt8) (h : l.length ≤ 12) : readOctal 0 0 l = refOctal l := by
  have hl := skip32_length l
  rw [readOctal_skip]
  refine readOctal_digits _ 0 1 (by decide) (by decide) ?_
  have := (pow8_succ (skip32 l).length (by omega)).2.2
  omega

/-- A field's number, or its error's. -/
def octRead (l : List UInt8) : Int × Int :=
  if isSize l.length = true then
    match l with
    | [] => (0, 1)
    | b :: t => if (b.toNat : Int) = 128 then readBinary 0 t else if (b.toNat : Int) = 255 then readBinary (-1) t else readOctal 0 0 (b :: t)
  else (0, 1)

end Go.Proofs.YtjmmecokfijglaaGreatDoor
