/-
  Words for a block of memory that a call makes itself. No row of the program is read here.
-/
import Derived.Test.YtamenhkbmbaopaaGreatDoorBase
namespace Go.Proofs.YtamenhkbmbaopaaGreatDoor
open Go.ChangeShapes Go.WideShapes Go.ChangeAt Go.RowKit

/-- Block g holds just the values cs, of element type t, none of them frozen. -/
def Holds (w : World) (g : Nat) (t : TypeId) (cs : List Value) : Prop := w.heap[g]? = some (.cells cs.toArray t (0, 0))

section
variable {w w' : World} {g : Nat} {t : TypeId} {cs : List Value}
theorem Holds.lt (h : Holds w g t cs) : g < w.heap.size := by
  rcases Nat.lt_or_ge g w.heap.size with hl | hl
  · exact hl
  · exfalso
    unfold Holds at h
    rw [Array.getElem?_eq_none hl] at h
    cases h
theorem Holds.cell (h : Holds w g t cs) {i : Nat} (hi : i < cs.length) : w.cell? ⟨g, i, none⟩ = some cs[i] := by
  rw [cell_of_row w g i cs.toArray t (0, 0) h]
  simp [hi]
theorem Holds.frozen (h : Holds w g t cs) (i : Nat) : w.frozen? ⟨g, i, none⟩ = false := by
  unfold Holds at h
  simp [World.frozen?, h]
theorem Holds.new (w : World) (t : TypeId) (cs : List Value) : Holds (w.alloc (.cells cs.toArray t)) w.heap.size t cs := heap_alloc_new w _
theorem Holds.put (h : Holds w g t cs) (i : Nat) (u : Value) : Holds (w.setCell ⟨g, i, none⟩ u) g t (cs.set i u) := by
  unfold Holds at h ⊢
  simp [World.setCell, Array.getElem?_modify, h]
theorem Holds.other (h : Holds w g t cs) {p : Addr} (hp : g ≠ p.block) (u : Value) : Holds (w.setCell p u) g t cs := (Below.heap_setCell w p u g hp).trans h
theorem Holds.behind (h : Holds w g t cs) (o : Obj) : Holds (w.alloc o) g t cs := (Below.heap_alloc w o g h.lt).trans h
theorem Holds.under {B : Nat} (h : Holds w g t cs) (hb : Below B w w') (hg : g < B) : Holds w' g t cs := (hb.block g hg).trans h
theorem Holds.grown {row : Option Nat} (h : Holds w g t cs) (hb : w.grownBy w' row) (hne : some g ≠ row) : Holds w' g t cs := (hb.block g h.lt hne).trans h
theorem Holds.drew (h : Holds w g t cs) : Holds w.drew g t cs := h
end

/-- Bytes as the cells of a block. -/
def byteCells (l : List UInt8) : List Value := l.map fun b => Value.int .u8 b.toNat

theorem byteCells_length (l : List UInt8) : (byteCells l).length = l.length := by simp [byteCells]
theorem byteCells_get (l : List UInt8) (i : Nat) (h : i < l.length) : (byteCells l)[i]'(by rw [byteCells_length]; exact h) = .int .u8 l[i].toNat := by simp [byteCells]
theorem byteCells_set (l : List UInt8) (i : Nat) (x : Int) (h0 : 0 ≤ x) (h1 : x < 256) : (byteCells l).set i (.int .u8 x) = byteCells (l.set i (UInt8.ofNat x.toNat)) := by
  unfold byteCells
  rw [List.map_set]
  congr 1
  have : ((UInt8.ofNat x.toNat).toNat : Int) = x := by
    rw [UInt8.toNat_ofNat']
    have : x.toNat % 256 = x.toNat := Nat.mod_eq_of_lt (by omega)
    omega
  rw [this]

theorem byteCells_replicate (n : Nat) : byteCells (List.replicate n 0) = List.replicate n (.int .u8 0) := by simp [byteCells]

/-- 'make([]byte, n)'. -/
theorem run_make_bytes {P : Program} (t e : TypeId) (ht : P.underlying t = some (.slice e)) (hi : (P.info? e).map (fun i => (i.zero, i.size, i.bytes)) = some (some (.int .u8 0), 1, 1))
    (n : Nat) (hn : n ≤ 281474976710656) (w : World) :
    (Instr.makeSlice t (.int .i64 (n : Int)) (.int .i64 (n : Int))).run P w = .ok (.slice (some ⟨w.heap.size, 0, none⟩) n n) (w.alloc (.cells (byteCells (List.replicate n 0)).toArray e)) := by
  obtain ⟨i0, hi, hz, hs, hb⟩ := info_parts hi
  have h := run_make (P := P) w t e i0 _ ht hi hz .i64 .i64 n n (by omega) (by omega) (by rw [hb]; omega) (by omega)
  rw [h]
  simp only [Int.toNat_natCast]
  congr 2
  rw [hs, byteCells_replicate]
  simp only [Nat.mul_one, madeCells]
  congr 1
  apply Array.ext
  · simp
  · intro i h1 h2
    simp only [List.getElem_toArray, List.getElem_replicate, Array.getElem_map]
    show ((#[Value.int .u8 0] : Array Value)[_ % 1]!) = _
    rw [Nat.mod_one]
    rfl

/-- 'string(b)' of a whole block of bytes. -/
theorem run_bytes_string {P : Program} (src e dst : TypeId) (hs : P.underlying src = some (.slice e)) (he : P.underlying e = some (.int .u8)) (hd : P.underlying dst = some .string)
    {w : World} {g : Nat} {l : List UInt8} {t : TypeId} (h : Holds w g t (byteCells l)) (n : Nat) (hn : n = l.length) (cap : Nat) :
    (convert src dst (.slice (some ⟨g, 0, none⟩) n cap)).run P w = .ok (.string ⟨l.toArray⟩) w := by
  subst hn
  have hr := run_convert_bytes_arg (P := P) w src e hs he g 0 l.length cap (l.map fun b => (b.toNat : Int)) (by simp) (fun i hi => by
    have hc := h.cell (i := i) (by rw [byteCells_length]; exact hi)
    rw [byteCells_get l i hi] at hc
    rw [Nat.zero_add, hc]
    congr 2
    simp [List.getD_eq_getElem?_getD, hi]) dst hd
  rw [hr]
  congr 2
  unfold strOfNums
  congr 1
  rw [List.map_map]
  congr 1
  rw [List.map_congr_left (g := id) (fun b _ => by simp)]
  simp

theorem byteCells_one (x : Int) (h0 : 0 ≤ x) (h1 : x < 256) : byteCells [UInt8.ofNat x.toNat] = [Value.int .u8 x] := by
  have := byteCells_set [0] 0 x h0 h1
  simpa [byteCells] using this.symm

/-- 'string([]byte{x})'. -/
theorem run_byte_string {P : Program} (src e dst : TypeId) (hs : P.underlying src = some (.slice e)) (he : P.underlying e = some (.int .u8)) (hd : P.underlying dst = some .string)
    (x : Int) (h0 : 0 ≤ x) (h1 : x < 256) (w : World) :
    (convert src dst (.slice (some ⟨w.heap.size, 0, none⟩) 1 1)).run P (w.alloc (.cells #[.int .u8 x] e)) = .ok (.string ⟨[UInt8.ofNat x.toNat].toArray⟩) (w.alloc (.cells #[.int .u8 x] e)) := by
  refine run_bytes_string (P := P) src e dst hs he hd (w := w.alloc (.cells #[.int .u8 x] e)) (g := w.heap.size) (l := [UInt8.ofNat x.toNat]) (t := e) ?_ 1 rfl 1
  rw [byteCells_one x h0 h1]
  exact Holds.new w e [.int .u8 x]
end Go.Proofs.YtamenhkbmbaopaaGreatDoor
