/-
  Texts of this seat's proof, joined: their order is that of the build.
-/
import Derived.Shelf.SlIter.Nil
import Derived.Shelf.SortM.Plain
import Derived.Shelf.SortM.SortNone
import Derived.Ground.GgzProg
import Derived.Ground.SlgmProg
import Derived.Test.YtjmmecokfijglaaGreatDoorProg
import Derived.Test.YtjmmecokfijglaaGreatDoorJ18
import Derived.Maps.StringElems
namespace Go.Proofs
open Go.Shelf
def Tryz.keys27_ren : Go.Shelf.Ren := ⟨fun | 7 => 27 | 10 => 71 | n => n, fun | 23 => 70 | 26 => 9 | 3 => 9 | 28 => 74 | 0 => 0 | 27 => 73 | 33 => 88 | 4 => 4 | n => n, fun | n => n⟩
theorem Tryz.keys27 : Go.Proofs.SlLaysZ.n7 Tryz.prog Tryz.keys27_ren := {
  mixed := by kernel_rfl
  f7 := ⟨Tryz.f27.name, by decide, Tryz.func27.trans (congrArg some (by kernel_rfl))⟩
  f10 := ⟨Tryz.f71.name, by decide, Tryz.func71.trans (congrArg some (by kernel_rfl))⟩
  t0 := Tryz.underlying0
  a0 := Tryz.isAgg0
  z0 := Tryz.sizeOf0
  v0 := Tryz.zeroValue0
  t4 := Tryz.underlying4
  a4 := Tryz.isAgg4
  z4 := Tryz.sizeOf4
  v4 := Tryz.zeroValue4
  t23 := Tryz.underlying70
  a23 := Tryz.isAgg70
  z23 := Tryz.sizeOf70
  v23 := Tryz.zeroValue70
  t26 := Tryz.underlying9
  a26 := Tryz.isAgg9
  z26 := Tryz.sizeOf9
  v26 := Tryz.zeroValue9
  t27 := Tryz.underlying73
  a27 := Tryz.isAgg73
  z27 := Tryz.sizeOf73
  v27 := Tryz.zeroValue73
  t28 := Tryz.underlying74
  a28 := Tryz.isAgg74
  z28 := Tryz.sizeOf74
  v28 := Tryz.zeroValue74
  t33 := Tryz.underlying88
  a33 := Tryz.isAgg88
  z33 := Tryz.sizeOf88
  v33 := Tryz.zeroValue88 }
def Tryz.sorted26_ren : Go.Shelf.Ren := ⟨fun | 6 => 26 | 8 => 69 | 9 => 70 | 11 => 125 | 13 => 127 | 12 => 126 | 23 => 175 | 24 => 176 | 14 => 166 | 15 => 167 | 16 => 168 | 17 => 169 | 18 => 170 | 19 => 171 | 20 => 172 | 21 => 173 | 22 => 174 | 25 => 198 | 26 => 199 | 27 => 200 | 28 => 201 | 29 => 202 | 30 => 203 | 31 => 225 | n => n, fun | 26 => 9 | 28 => 74 | 24 => 71 | 0 => 0 | 3 => 3 | 37 => 203 | 48 => 233 | 50 => 235 | 4 => 4 | 40 => 227 | 39 => 226 | 45 => 167 | 5 => 5 | 9 => 9 | 51 => 256 | 55 => 108 | 57 => 279 | 58 => 89 | 33 => 88 | n => n, fun | n => n⟩
theorem Tryz.sorted26 : Go.Proofs.SlLaysZ.n6 Tryz.prog Tryz.sorted26_ren := {
  mixed := by kernel_rfl
  f6 := ⟨Tryz.f26.name, by decide, Tryz.func26.trans (congrArg some (by kernel_rfl))⟩
  f8 := ⟨Tryz.f69.name, by decide, Tryz.func69.trans (congrArg some (by kernel_rfl))⟩
  f11 := ⟨Tryz.f125.name, by decide, Tryz.func125.trans (congrArg some (by kernel_rfl))⟩
  t0 := Tryz.underlying0
  a0 := Tryz.isAgg0
  z0 := Tryz.sizeOf0
  v0 := Tryz.zeroValue0
  t24 := Tryz.underlying71
  a24 := Tryz.isAgg71
  z24 := Tryz.sizeOf71
  v24 := Tryz.zeroValue71
  t26 := Tryz.underlying9
  a26 := Tryz.isAgg9
  z26 := Tryz.sizeOf9
  v26 := Tryz.zeroValue9
  t28 := Tryz.underlying74
  a28 := Tryz.isAgg74
  z28 := Tryz.sizeOf74
  v28 := Tryz.zeroValue74
  i26 := by kernel_rfl }
def Tryz.sort70_ren : Go.Shelf.Ren := ⟨fun | 6 => 70 | 8 => 127 | 9 => 126 | 19 => 175 | 20 => 176 | 21 => 166 | 22 => 167 | 23 => 168 | 24 => 169 | 25 => 170 | 26 => 171 | 27 => 172 | 28 => 173 | 29 => 174 | 36 => 198 | 31 => 199 | 32 => 200 | 37 => 201 | 38 => 202 | 39 => 203 | 41 => 225 | n => n, fun | 27 => 71 | 29 => 9 | 3 => 3 | 32 => 203 | 26 => 71 | 0 => 0 | 44 => 233 | 46 => 235 | 4 => 4 | 36 => 227 | 35 => 226 | 41 => 167 | 5 => 5 | 9 => 9 | 53 => 256 | 57 => 108 | 63 => 279 | 64 => 89 | n => n, fun | n => n⟩
theorem Tryz.sort70 : Go.Proofs.SlLaysM.n6 Tryz.prog Tryz.sort70_ren := {
  mixed := by kernel_rfl
  f6 := ⟨Tryz.f70.name, by decide, Tryz.func70.trans (congrArg some (by kernel_rfl))⟩
  f8 := Tryz.func127.trans (congrArg some (by kernel_rfl))
  f9 := ⟨Tryz.f126.name, by decide, Tryz.func126.trans (congrArg some (by kernel_rfl))⟩
  f19 := Tryz.func175.trans (congrArg some (by kernel_rfl))
  f20 := Tryz.func176.trans (congrArg some (by kernel_rfl))
  f21 := ⟨Tryz.f166.name, by decide, Tryz.func166.trans (congrArg some (by kernel_rfl))⟩
  f22 := ⟨Tryz.f167.name, by decide, Tryz.func167.trans (congrArg some (by kernel_rfl))⟩
  f23 := ⟨Tryz.f168.name, by decide, Tryz.func168.trans (congrArg some (by kernel_rfl))⟩
  f24 := ⟨Tryz.f169.name, by decide, Tryz.func169.trans (congrArg some (by kernel_rfl))⟩
  f25 := ⟨Tryz.f170.name, by decide, Tryz.func170.trans (congrArg some (by kernel_rfl))⟩
  f26 := ⟨Tryz.f171.name, by decide, Tryz.func171.trans (congrArg some (by kernel_rfl))⟩
  f27 := ⟨Tryz.f172.name, by decide, Tryz.func172.trans (congrArg some (by kernel_rfl))⟩
  f28 := ⟨Tryz.f173.name, by decide, Tryz.func173.trans (congrArg some (by kernel_rfl))⟩
  f29 := ⟨Tryz.f174.name, by decide, Tryz.func174.trans (congrArg some (by kernel_rfl))⟩
  f31 := Tryz.func199.trans (congrArg some (by kernel_rfl))
  f32 := Tryz.func200.trans (congrArg some (by kernel_rfl))
  f36 := ⟨Tryz.f198.name, by decide, Tryz.func198.trans (congrArg some (by kernel_rfl))⟩
  f37 := ⟨Tryz.f201.name, by decide, Tryz.func201.trans (congrArg some (by kernel_rfl))⟩
  f38 := ⟨Tryz.f202.name, by decide, Tryz.func202.trans (congrArg some (by kernel_rfl))⟩
  f39 := ⟨Tryz.f203.name, by decide, Tryz.func203.trans (congrArg some (by kernel_rfl))⟩
  f41 := ⟨Tryz.f225.name, by decide, Tryz.func225.trans (congrArg some (by kernel_rfl))⟩
  t0 := Tryz.underlying0
  a0 := Tryz.isAgg0
  z0 := Tryz.sizeOf0
  v0 := Tryz.zeroValue0
  t3 := Tryz.underlying3
  a3 := Tryz.isAgg3
  z3 := Tryz.sizeOf3
  v3 := Tryz.zeroValue3
  t4 := Tryz.underlying4
  a4 := Tryz.isAgg4
  z4 := Tryz.sizeOf4
  v4 := Tryz.zeroValue4
  t5 := Tryz.underlying5
  a5 := Tryz.isAgg5
  z5 := Tryz.sizeOf5
  v5 := Tryz.zeroValue5
  t9 := Tryz.underlying9
  a9 := Tryz.isAgg9
  z9 := Tryz.sizeOf9
  v9 := Tryz.zeroValue9
  t26 := Tryz.underlying71
  a26 := Tryz.isAgg71
  z26 := Tryz.sizeOf71
  v26 := Tryz.zeroValue71
  t27 := Tryz.underlying71
  a27 := Tryz.isAgg71
  z27 := Tryz.sizeOf71
  v27 := Tryz.zeroValue71
  t29 := Tryz.underlying9
  a29 := Tryz.isAgg9
  z29 := Tryz.sizeOf9
  v29 := Tryz.zeroValue9
  t32 := Tryz.underlying203
  a32 := Tryz.isAgg203
  z32 := Tryz.sizeOf203
  v32 := Tryz.zeroValue203
  t35 := Tryz.underlying226
  a35 := Tryz.isAgg226
  z35 := Tryz.sizeOf226
  v35 := Tryz.zeroValue226
  t36 := Tryz.underlying227
  a36 := Tryz.isAgg227
  z36 := Tryz.sizeOf227
  v36 := Tryz.zeroValue227
  t41 := Tryz.underlying167
  a41 := Tryz.isAgg167
  z41 := Tryz.sizeOf167
  v41 := Tryz.zeroValue167
  t44 := Tryz.underlying233
  a44 := Tryz.isAgg233
  z44 := Tryz.sizeOf233
  v44 := Tryz.zeroValue233
  t46 := Tryz.underlying235
  a46 := Tryz.isAgg235
  z46 := Tryz.sizeOf235
  v46 := Tryz.zeroValue235
  t53 := Tryz.underlying256
  a53 := Tryz.isAgg256
  z53 := Tryz.sizeOf256
  v53 := Tryz.zeroValue256
  t57 := Tryz.underlying108
  a57 := Tryz.isAgg108
  z57 := Tryz.sizeOf108
  v57 := Tryz.zeroValue108
  t63 := Tryz.underlying279
  a63 := Tryz.isAgg279
  z63 := Tryz.sizeOf279
  v63 := Tryz.zeroValue279
  t64 := Tryz.underlying89
  a64 := Tryz.isAgg89
  z64 := Tryz.sizeOf89
  v64 := Tryz.zeroValue89 }
end Go.Proofs
namespace Go.Proofs
open Go.RowKit Go.Maps Go.Sort Go.Shelf

theorem Tryz.sorts26 (m : Nat) : AnyZ.SortsIn Tryz.prog Tryz.sorted26_ren Fence.wide m :=
  ⟨fun blk off cap ss W hH hblk hsz => callsIn_wide.2 (AnyM.slices_Sort_string Tryz.sort70 blk off cap ss W hH hblk hsz),
   fun p cap W => callsIn_wide.2 (AnyM.slices_Sort_string_none Tryz.sort70 p cap W)⟩

theorem Tryz.maps_Keys_27 (mb : Option Nat) (W : World) : CallsIn Fence.wide 5 Tryz.prog 27 #[.map mb] W fun e w' => e = .returned (.func (.func 71) #[] #[.pointer (some ⟨W.heap.size, 0, none⟩)]) ∧ w' = W.alloc (.cells #[.map mb] 70) :=
  AnyZ.keys_in Tryz.keys27 Fence.wide 5 trivial rfl mb W

set_option maxHeartbeats 1000000 in
theorem Tryz.slices_Sorted_keys_26_27 {H : Type} (b nn : Nat) (D0 : DataW H) (R : Value → Option (DataW H × List MemPlace)) (w : World) (hown : w.ownsMap Tryz.prog 9 R b nn D0) (hmax : Maps.size D0 ≤ maxLen) (hbytes : Maps.size D0 * 16 ≤ 140737488355328) :
    CallsIn Fence.wide 5 Tryz.prog 26 #[.func (.func 71) #[] #[.pointer (some ⟨w.heap.size, 0, none⟩)]] (w.alloc (.cells #[.map (some b)] 70)) fun e w' => ∃ (v : Value) (ss : List (List UInt8)), e = .returned v ∧ ss.Perm (strKeys D0) ∧
      w'.ownsRow (w.alloc (.cells #[.map (some b)] 70)).heap.size 9 1 v ss.length ((ss.mergeSort (fun x y => decide (x ≤ y))).map encStr) ∧ (v = .slice none 0 0 ↔ ss = []) ∧ Below (w.alloc (.cells #[.map (some b)] 70)).heap.size (w.alloc (.cells #[.map (some b)] 70)) w' := by
  have hbl := hown.lt
  have hseq : SeqGives Fence.wide 2 Tryz.prog 71 #[.pointer (some ⟨w.heap.size, 0, none⟩)] encStr (fun ss => ss.Perm (strKeys D0)) (Maps.size D0) (w.alloc (.cells #[.map (some b)] 70)) :=
    AnyZ.keys_gives (ρ := Tryz.keys27_ren) { Tryz.keys27 with } Fence.wide _ trivial rfl (by omega) w.heap.size b nn D0 _ (by simp) (by simp) (by
      obtain ⟨es, clock, hb, Ft, hs, hD⟩ := hown
      exact ⟨es, clock, (Below.heap_alloc _ _ b hbl).trans hb, Ft, hs, hD⟩)
  exact AnyZ.sorted_in Tryz.sorted26 Fence.wide 5 trivial trivial trivial trivial rfl (by omega) (Tryz.sorts26 _) (enters_of Tryz.func70 (by kernel_rfl) rfl) 71 #[.pointer (some ⟨w.heap.size, 0, none⟩)] trivial (enters_of Tryz.func71 (by kernel_rfl) rfl) _ _ hmax hbytes _ hseq

set_option maxHeartbeats 1000000 in
theorem Tryz.slices_Sorted_keys_nil_26_27 (w : World) :
    CallsIn Fence.wide 5 Tryz.prog 26 #[.func (.func 71) #[] #[.pointer (some ⟨w.heap.size, 0, none⟩)]] (w.alloc (.cells #[.map none] 70)) fun e w' => ∃ (v : Value) (ss : List (List UInt8)), e = .returned v ∧ ss = [] ∧
      w'.ownsRow (w.alloc (.cells #[.map none] 70)).heap.size 9 1 v ss.length ((ss.mergeSort (fun x y => decide (x ≤ y))).map encStr) ∧ (v = .slice none 0 0 ↔ ss = []) ∧ Below (w.alloc (.cells #[.map none] 70)).heap.size (w.alloc (.cells #[.map none] 70)) w' := by
  have hseq : SeqGives Fence.wide 2 Tryz.prog 71 #[.pointer (some ⟨w.heap.size, 0, none⟩)] encStr (fun ss : List (List UInt8) => ss = []) 0 (w.alloc (.cells #[.map none] 70)) :=
    AnyZ.keys_gives_nil (ρ := Tryz.keys27_ren) { Tryz.keys27 with } Fence.wide _ trivial rfl w.heap.size _ (by simp) (by simp)
  exact AnyZ.sorted_in Tryz.sorted26 Fence.wide 5 trivial trivial trivial trivial rfl (by omega) (Tryz.sorts26 _) (enters_of Tryz.func70 (by kernel_rfl) rfl) 71 #[.pointer (some ⟨w.heap.size, 0, none⟩)] trivial (enters_of Tryz.func71 (by kernel_rfl) rfl) _ 0 (Nat.zero_le _) (by omega) _ hseq


end Go.Proofs
namespace Go.Proofs.YtjmmecokfijglaaGreatDoor
open Go.ChangeShapes Go.WideShapes Go.ChangeAt Go.RowKit Go.Maps

theorem zero_str (w : World) : (zeroValue 9).run Tryz.prog w = .ok (.string ⟨#[]⟩) w := by kernel_rfl
/-- A text in a map that the call owns. -/
theorem run_look {w : World} {b n : Nat} {D : DataW Unit} (h : w.ownsMap Tryz.prog 9 (plainElem Tryz.prog 9) b n D) (k x : List UInt8) (hk : k.length ≤ maxLen)
    (hat : D.atKey (.string k) (.lit (.string [])) = .lit (.string x)) : (Instr.lookup 70 (.map (some b)) (.string ⟨k.toArray⟩) false).run Tryz.prog w = .ok (.string ⟨x.toArray⟩) w := by
  obtain ⟨v, ps, hrun, hv⟩ := h.lookup (t := 70) (string_keyed Tryz.underlying9) Tryz.underlying70 (zero_str w) (plainElem_string Tryz.underlying9 (by simp [ByteArray.size])) (WideMaps.keyOf_string_mk Tryz.underlying9 (s := ⟨k.toArray⟩) (by simpa [ByteArray.size] using hk))
  obtain ⟨s, rfl, hs, -⟩ := plainElem_string_inv Tryz.underlying9 hv
  have hs2 := (congrArg Prod.fst hs).symm.trans hat
  obtain ⟨y, rfl⟩ := str_of s
  simp at hs2
  rw [hrun, hs2]
/-- Texts that a call has gathered. -/
theorem row_keys {w : World} {B n : Nat} {v : Value} {ks : List (List UInt8)} (h : w.ownsRow B 9 1 v n (ks.map Go.Proofs.encStr)) :
    ∃ ad cap, v = .slice ad ks.length cap ∧ ∀ i (hi : i < ks.length), ∃ gb, ad = some ⟨gb, 0, none⟩ ∧ gb < w.heap.size ∧ w.cell? ⟨gb, i, none⟩ = some (.string ⟨ks[i].toArray⟩) := by
  have hn : n = ks.length := by have := h.1; simpa using this.symm
  subst hn
  rcases h.2 with ⟨hv, hz⟩ | ⟨g, cap, cur, hv, -, hg, -⟩
  · exact ⟨none, 0, by rw [hv, hz], fun i hi => by omega⟩
  · refine ⟨_, cap, hv, fun i hi => ⟨g, rfl, ?_, ?_⟩⟩
    · rcases Nat.lt_or_ge g w.heap.size with hl | hl
      · exact hl
      · rw [Array.getElem?_eq_none hl] at hg; cases hg
    · have hc := h.cells (g := g) (by rw [hv]; rfl) i (.string ⟨ks[i].toArray⟩) (by rw [List.getElem?_map, List.getElem?_eq_getElem hi]; rfl)
      have add_at : (⟨g, 0, none⟩ : Addr).add i = ⟨g, i, none⟩ := by unfold Addr.add; split <;> simp_all
      rw [add_at] at hc
      exact hc
theorem OwnP.base {w : World} {B C : Nat} {v : Value} {l : List Pr} (h : OwnP w B v l) (hB : C ≤ B) : OwnP w C v l := by
  refine ⟨h.1, ?_⟩
  rcases h.2 with h | ⟨g, cap, cur, hv, hg, rest⟩
  · exact .inl h
  · exact .inr ⟨g, cap, cur, hv, Nat.le_trans hB hg, rest⟩
theorem OwnP.slice {w : World} {B : Nat} {v : Value} {l : List Pr} (h : OwnP w B v l) : ∃ av cs, v = .slice av l.length cs := by
  rcases h.2 with ⟨h1, h2⟩ | ⟨g, cap, cur, hv, rest⟩
  · exact ⟨none, 0, by rw [h1, h2]⟩
  · exact ⟨_, cap, hv⟩
/-- These records as the map that Merge writes. -/
abbrev OwnM (w : World) (b n : Nat) (l : List Pr) : Prop := w.ownsMap Tryz.prog 9 (plainElem Tryz.prog 9) b n (mData (H := Unit) l)
theorem OwnM.step {w w' : World} {b n : Nat} {l : List Pr} (h : OwnM w b n l) (hb : Below w.heap.size w w') : OwnM w' b n l :=
  World.ownsMap.kept h (row := none) ⟨hb.os, hb.tape, hb.output, hb.size, fun k hk _ => hb.block k hk⟩ (by simp)
theorem OwnM.put {w : World} {b n : Nat} {M : List Pr} {x y : List UInt8} (h : w.ownsMap Tryz.prog 9 (plainElem Tryz.prog 9) b n ((mData (H := Unit) M).put (.string (ByteArray.mk x.toArray).data.toList) (.lit (.string (ByteArray.mk y.toArray).data.toList)))) : OwnM w b n (mPut M (x, y)) := by
  have h2 : w.ownsMap Tryz.prog 9 (plainElem Tryz.prog 9) b n ((mData (H := Unit) M).put (.string x) (.lit (.string y))) := h
  rw [mData_put] at h2
  exact h2
theorem mAll_take {l : List Pr} (M : List Pr) {k : Nat} (hk : k < l.length) : mAll M (l.take (k + 1)) = mPut (mAll M (l.take k)) l[k] := by
  unfold mAll
  rw [List.take_succ_eq_append_getElem hk, List.foldl_append]
  rfl
def full (p : Pr) : Bool := !p.2.isEmpty
theorem filter_take {l : List Pr} {k : Nat} (hk : k < l.length) : (l.take (k + 1)).filter full = (l.take k).filter full ++ (if full l[k] = true then [l[k]] else []) := by
  rw [List.take_succ_eq_append_getElem hk, List.filter_append]
  cases h : full l[k] <;> simp [List.filter, h]

theorem mPut_fits {M : Nat} {l : List Pr} {p : Pr} (h : ∀ q ∈ l, q.1.length ≤ M) (hp : p.1.length ≤ M) : ∀ q ∈ mPut l p, q.1.length ≤ M := by
  intro q hq
  rcases mIns_mem hq with rfl | hq
  · exact hp
  · exact h q (List.mem_filter.1 hq).1
theorem mAll_fits {M : Nat} (g : List Pr) : ∀ l : List Pr, (∀ q ∈ l, q.1.length ≤ M) → (∀ q ∈ g, q.1.length ≤ M) → ∀ q ∈ mAll l g, q.1.length ≤ M := by
  induction g with
  | nil => exact fun l h _ => h
  | cons p g ih => exact fun l h hg => ih _ (mPut_fits h (hg p List.mem_cons_self)) (fun q hq => hg q (List.mem_cons_of_mem _ hq))

set_option maxRecDepth 100000 in
set_option maxHeartbeats 1000000 in
theorem merge_any (g l : List Pr) (ag al : Option Addr) (cg cl : Nat) (w : World) (hg : PairsIn w (.slice ag g.length cg) g) (hl : PairsIn w (.slice al l.length cl) l)
    (hfg : prFits 140737488355328 g) (hfl : prFits 140737488355328 l) (hlen : g.length + l.length ≤ 4398046511104) :
    Calls Tryz.prog 10 #[.slice ag g.length cg, .slice al l.length cl] w fun e w' => Below w.heap.size w w' ∧ ∃ v, e = .returned v ∧ OwnP w' w.heap.size v (mMerge g l) := by
  have Hg := Lib.hid (show ∀ k (hk : k < g.length), ∃ b o, ag = some ⟨b, o, none⟩ ∧ b < w.heap.size ∧ w.cell? ⟨b, o + k * 2, none⟩ = some (.string ⟨g[k].1.toArray⟩) ∧ w.cell? ⟨b, o + k * 2 + 1, none⟩ = some (.string ⟨g[k].2.toArray⟩) by
    intro k hk
    obtain ⟨ad, cap, hv, h⟩ := hg
    cases hv
    rcases h with rfl | ⟨b, o, ha, hb, hp⟩
    · simp at hk
    · exact ⟨b, o, ha, hb, hp k hk⟩)
  have Hl := Lib.hid (show ∀ k (hk : k < l.length), ∃ b o, al = some ⟨b, o, none⟩ ∧ b < w.heap.size ∧ w.cell? ⟨b, o + k * 2, none⟩ = some (.string ⟨l[k].1.toArray⟩) ∧ w.cell? ⟨b, o + k * 2 + 1, none⟩ = some (.string ⟨l[k].2.toArray⟩) by
    intro k hk
    obtain ⟨ad, cap, hv, h⟩ := hl
    cases hv
    rcases h with rfl | ⟨b, o, ha, hb, hp⟩
    · simp at hk
    · exact ⟨b, o, ha, hb, hp k hk⟩)
  have Hfg := Lib.hid hfg
  have Hfg0 := Lib.hid hfg
  have Hfl := Lib.hid hfl
  have Hlen := Lib.hid hlen
  generalize hR : mMerge g l = R
  have HR := Lib.hid hR
  clear hg hl hfg hfl hlen hR
  have hmm := @run_makeMap Tryz.prog
  go_enter Tryz.func10, Tryz.ntmps10
  go_wp2
  go_loopw [16] (fun i wr => ∃ k : Nat, i = .int .i64 k ∧ k ≤ g.length ∧ OwnM wr w.heap.size k (mAll [] (g.take k)) ∧ Below w.heap.size w wr) (fun i _ => g.length - (intOf i).toNat)
  case atStart => exact ⟨0, rfl, Nat.zero_le _, World.ownsMap_made w _ _ _, (Below.refl _ _).alloc (Nat.le_refl _) _⟩
  case round =>
    obtain ⟨k, rfl, hk, hown, hb⟩ := hrel
    have Hown := Lib.hid hown
    have Hb := Lib.hid hb
    clear hown hb
    by_cases hlt : k < g.length
    · obtain ⟨b, o, rfl, hb0, c1, c2⟩ := Hg.out k hlt
      rw [← Hb.out.cell (p := ⟨b, o + k * 2, none⟩) hb0] at c1
      rw [← Hb.out.cell (p := ⟨b, o + k * 2 + 1, none⟩) hb0] at c2
      have Hst := Lib.hid (mAll_take [] hlt)
      have hpf := Hfg.out _ (List.getElem_mem hlt)
      have Hlim := Lib.hid (show k < maxLen by have := Hlen.out; unfold maxLen; omega)
      generalize g[k] = p at *
      obtain ⟨x, y⟩ := p
      simp only at c1 c2 hpf
      have Hkey := Lib.hid (WideMaps.keyOf_string_mk Tryz.underlying9 (s := ⟨x.toArray⟩) (by simp only [ByteArray.size, List.size_toArray]; unfold maxLen; omega))
      have Hval := Lib.hid (plainElem_string (H := Unit) Tryz.underlying9 (s := ⟨y.toArray⟩) (by simp only [ByteArray.size, List.size_toArray]; unfold maxLen; omega))
      clear hpf
      generalize mAll [] (g.take k) = M at *
      have hkb : (k : Int) ≤ 4398046511104 := by have := Hlen.out; omega
      go_wp2_with (first
        | (at_mapUpdate; refine wpList_mapUpdate_own _ rfl _ _ _ 70 rfl 9 9 (string_keyed Tryz.underlying9) Tryz.underlying70 _ w.heap.size k _ rfl (World.ownsMap.alloc Hown.out _) Hlim.out _ _ _ rfl rfl Hkey.out _ [] Hval.out ?_; intro w1 hown1 hgrow1)
        | go_in)
      go_roundw
      case rel => exact ⟨k + 1, by go_num, by omega, by rw [Hst.out]; exact OwnM.put hown1, (Hb.out.alloc Hb.out.size _).grown hgrow1 (by have := Hb.out.size; simp; omega) (fun j hj => by cases hj; exact Nat.le_refl _)⟩
      case measure => simp [intOf]; omega
    · have hkn : k = g.length := by omega
      subst hkn
      rw [List.take_length] at Hown
      clear Hg Hfg
      generalize hG : mAll [] g = G at *
      have HG := Lib.hid hG
      clear hG hlt
      go_wp2
      go_loopw [28] (fun i wr => ∃ k : Nat, i = .int .i64 k ∧ k ≤ l.length ∧ OwnM wr w.heap.size (g.length + k) (mAll G (l.take k)) ∧ Below w.heap.size w wr) (fun i _ => l.length - (intOf i).toNat)
      case atStart => exact ⟨0, rfl, Nat.zero_le _, Hown.out, Hb.out⟩
      case round =>
        obtain ⟨k, rfl, hk, hown, hb⟩ := hrel
        clear Hown Hb
        have Hown := Lib.hid hown
        have Hb := Lib.hid hb
        clear hown hb
        by_cases hlt : k < l.length
        · obtain ⟨b, o, rfl, hb0, c1, c2⟩ := Hl.out k hlt
          rw [← Hb.out.cell (p := ⟨b, o + k * 2, none⟩) hb0] at c1
          rw [← Hb.out.cell (p := ⟨b, o + k * 2 + 1, none⟩) hb0] at c2
          have Hst := Lib.hid (mAll_take G hlt)
          have hpf := Hfl.out _ (List.getElem_mem hlt)
          have Hlim := Lib.hid (show g.length + k < maxLen by have := Hlen.out; unfold maxLen; omega)
          generalize l[k] = p at *
          obtain ⟨x, y⟩ := p
          simp only at c1 c2 hpf
          have Hkey := Lib.hid (WideMaps.keyOf_string_mk Tryz.underlying9 (s := ⟨x.toArray⟩) (by simp only [ByteArray.size, List.size_toArray]; unfold maxLen; omega))
          have Hval := Lib.hid (plainElem_string (H := Unit) Tryz.underlying9 (s := ⟨y.toArray⟩) (by simp only [ByteArray.size, List.size_toArray]; unfold maxLen; omega))
          clear hpf
          generalize mAll G (l.take k) = M at *
          have hkb : (k : Int) ≤ 4398046511104 := by have := Hlen.out; omega
          go_wp2_with (first
            | (at_mapUpdate; refine wpList_mapUpdate_own _ rfl _ _ _ 70 rfl 9 9 (string_keyed Tryz.underlying9) Tryz.underlying70 _ w.heap.size (g.length + k) _ rfl (World.ownsMap.alloc Hown.out _) Hlim.out _ _ _ rfl rfl Hkey.out _ [] Hval.out ?_; intro w1 hown1 hgrow1)
            | go_in)
          go_roundw
          case rel => exact ⟨k + 1, by go_num, by omega, by rw [Hst.out]; exact OwnM.put hown1, (Hb.out.alloc Hb.out.size _).grown hgrow1 (by have := Hb.out.size; simp; omega) (fun j hj => by cases hj; exact Nat.le_refl _)⟩
          case measure => simp [intOf]; omega
        · have hkn : k = l.length := by omega
          subst hkn
          rw [List.take_length] at Hown
          have HR2 := Lib.hid (show (mAll G l).filter full = R by rw [← HG.out]; exact HR.out)
          have Hris := Lib.hid (show Rising (mAll G l) by rw [← HG.out]; exact mAll_rising l _ (mAll_rising g [] List.Pairwise.nil))
          have Hfit := Lib.hid (show ∀ q ∈ mAll G l, q.1.length ≤ 140737488355328 by
            rw [← HG.out]
            exact mAll_fits l _ (mAll_fits g [] (by simp) (fun q hq => by have := Hfg0.out q hq; omega)) (fun q hq => by have := Hfl.out q hq; omega))
          generalize mAll G l = M at *
          clear Hl Hfl HR HG hlt
          have Hsz := Lib.hid (show M.length ≤ 4398046511104 by have h1 := Hown.out.size_le; rw [mData_size] at h1; have := Hlen.out; omega)
          have Hkeys := Lib.hid (callsIn_wide.1 (Tryz.maps_Keys_27 (some w.heap.size) wr))
          go_wp2_with fail
          refine Hkeys.out.mono ?_
          rintro e w1 ⟨rfl, rfl⟩
          have Hsort := Lib.hid (callsIn_wide.1 (Tryz.slices_Sorted_keys_26_27 w.heap.size (g.length + l.length) (mData (H := Unit) M) (plainElem Tryz.prog 9) wr Hown.out (by rw [mData_size]; have := Hsz.out; unfold maxLen; omega) (by rw [mData_size]; have := Hsz.out; omega)))
          clear Hkeys
          go_wp2_with fail
          refine Hsort.out.mono ?_
          rintro e wk ⟨v, ss, rfl, hperm, hrow, -, hbk⟩
          clear Hsort
          rw [mData_keys] at hperm
          rw [sorted_keys Hris.out hperm] at hrow
          have Hbk := Lib.hid (((Below.refl _ _).alloc (Nat.le_refl _) (.cells #[.map (some w.heap.size)] 70) : Below wr.heap.size wr _).trans (hbk.mono (by simp)))
          obtain ⟨ad, cap, rfl, hkeys⟩ := row_keys hrow
          have Hkeys := Lib.hid hkeys
          rw [List.length_map]
          have Hown2 := Lib.hid (Hown.out.step Hbk.out)
          have Hb2 := Lib.hid (Hb.out.trans (Hbk.out.mono Hb.out.size))
          clear hperm hrow hbk hkeys Hown Hb Hbk
          obtain ⟨i0, hi, hz0, hz1, hz2⟩ := info_parts zero_pair
          go_wp2
          go_loopw [10, 42] (fun s i wx => ∃ (k : Nat) (F : List Pr) (av : Option Addr) (cs : Nat), s = .slice av F.length cs ∧ i = .int .i64 k ∧ k ≤ M.length ∧ F = (M.take k).filter full ∧ OwnP wx wk.heap.size (.slice av F.length cs) F ∧ Below wk.heap.size wk wx) (fun _ i _ => M.length - (intOf i).toNat)
          case atStart => exact ⟨0, [], _, _, rfl, rfl, Nat.zero_le _, rfl, World.ownsRow_nil _ _ _ _, Below.refl _ _⟩
          case round =>
            obtain ⟨k, F, av, cs, rfl, rfl, hk, hF, hownp, hbx⟩ := hrel
            have Hownp := Lib.hid hownp
            have Hbx := Lib.hid hbx
            have HF := Lib.hid hF
            clear hownp hbx hF
            by_cases hlt : k < M.length
            · obtain ⟨gb, rfl, hgb, hc⟩ := Hkeys.out k (by simpa using hlt)
              rw [← Hbx.out.cell (p := ⟨gb, k, none⟩) hgb, List.getElem_map] at hc
              have Hst := Lib.hid (show (M.take (k + 1)).filter full = F ++ (if full M[k] = true then [M[k]] else []) by rw [filter_take hlt, ← HF.out])
              have Hlook := Lib.hid (fun z => mData_at (H := Unit) Hris.out (List.getElem_mem hlt) z)
              have hpf := Hfit.out _ (List.getElem_mem hlt)
              have hfl : F.length < 4398046511104 := by
                have h1 := List.length_filter_le full (M.take k)
                rw [List.length_take, ← HF.out] at h1
                have := Hsz.out
                omega
              have Hfl := Lib.hid hfl
              have hkb : (k : Int) ≤ 4398046511104 := by have := Hsz.out; omega
              clear hfl
              generalize M[k] = p at *
              obtain ⟨x, y⟩ := p
              simp only at hc hpf
              have hmax : x.length ≤ maxLen := by unfold maxLen; omega
              have hlk := run_look (OwnM.step Hown2.out Hbx.out) x y hmax (Hlook.out _)
              clear hpf hmax Hlook
              cases y with
              | nil =>
                go_wp2
                go_roundw
                case rel => exact ⟨k + 1, F, av, cs, rfl, by go_num, by omega, by rw [Hst.out]; simp [full], Hownp.out, Hbx.out⟩
                case measure => simp [intOf]; omega
              | cons y0 y =>
                generalize hyy : y0 :: y = yy at *
                have Hyy := Lib.hid (show full (x, yy) = true by rw [← hyy]; rfl)
                have hne : (yy == []) = false := by rw [← hyy]; rfl
                clear hyy
                have hownp := Hownp.out
                go_wp2_with (first | (at_builtin; refine wpList_append_own _ rfl _ _ 22 rfl wk.heap.size 27 i0 (.agg #[.string ⟨#[]⟩, .string ⟨#[]⟩]) 2 32 Tryz.underlying22 hi hz0 hz1 hz2 rfl (by decide) _ _ _ rfl (World.ownsRow.alloc hownp _) ⟨wr.heap.size, 0, none⟩ 1 1 [.string ⟨x.toArray⟩, .string ⟨yy.toArray⟩] rfl rfl ?c1 ?c2 ?c3 ?c4 ?c5 ?_) | go_in)
                case c1 => exact fun j u hj => cell_two_new wr _ _ 27 j u hj
                case c2 => intro u hu; simp only [List.mem_cons, List.mem_nil_iff, or_false] at hu; rcases hu with rfl | rfl <;> rfl
                case c3 => have := Hfl.out; unfold maxLen; omega
                case c4 => have := Hfl.out; omega
                case c5 => have := Hbx.out.size; simp; omega
                intro v' w2 hown2 hgrow hnil
                have hown3 : OwnP w2 wk.heap.size v' (F ++ [(x, yy)]) := by
                  show w2.ownsRow wk.heap.size _ 2 v' (F ++ [(x, yy)]).length (pairCells (F ++ [(x, yy)]))
                  rw [pairCells_append, List.length_append]
                  exact hown2
                have hb3 : Below wk.heap.size wk w2 := (Hbx.out.alloc Hbx.out.size _).grown hgrow (by have := Hbx.out.size; simp; omega) (fun k hk => (hownp.lt k hk).1)
                obtain ⟨av2, cs2, rfl⟩ := hown3.slice
                have Hown3 := Lib.hid hown3
                have Hb3 := Lib.hid hb3
                clear hown2 hgrow hown3 hb3 hownp hnil
                go_wp2
                go_roundw
                case rel => exact ⟨k + 1, _, av2, cs2, rfl, by go_num, by omega, by rw [Hst.out, if_pos Hyy.out], Hown3.out, Hb3.out⟩
                case measure => simp [intOf]; omega
            · have hkn : k = M.length := by omega
              subst hkn
              have hFR : F = R := by rw [HF.out, List.take_length]; exact HR2.out
              subst hFR
              go_wp2
              go_ret
              exact ⟨Hb2.out.trans (Hbx.out.mono Hb2.out.size), _, rfl, Hownp.out.base Hb2.out.size⟩
end Go.Proofs.YtjmmecokfijglaaGreatDoor
