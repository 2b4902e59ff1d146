/-
  Texts of this seat's proof, joined: their order is that of the build.
-/
import Derived.Test.YtjmmecokfijglaaGreatDoorRows
import Derived.Test.YtjmmecokfijglaaGreatDoorJB04
import Derived.Test.YtjmmecokfijglaaGreatDoorJB03
import Derived.Test.YtjmmecokfijglaaGreatDoorJB01
import Derived.Deep.QuietTactic
import Derived.BigQuiet
import Derived.Deep.CutBlock
import Derived.Deep.DeepCutAuto
import Derived.Laws.AppendOwn
import Derived.Test.YtjmmecokfijglaaGreatDoorJB02
import Derived.BigRegion
namespace Go.Proofs.YtjmmecokfijglaaGreatDoor
open Go.ChangeShapes Go.WideShapes Go.ChangeAt Go.RowKit


/-- The library's variable holds some number. -/
def MaxSet (w : World) : Prop := ∃ m : Int, w.cell? ⟨0, 0, none⟩ = some (.int .i64 m)
theorem MaxSet.lt {w : World} (h : MaxSet w) : 0 < w.heap.size := by
  obtain ⟨m, hm⟩ := h
  rcases Nat.lt_or_ge 0 w.heap.size with hl | hl
  · exact hl
  · exfalso
    unfold World.cell? at hm
    rw [Array.getElem?_eq_none hl] at hm
    cases hm
theorem MaxSet.below {w w' : World} (h : MaxSet w) (hb : Below w.heap.size w w') : MaxSet w' := by
  obtain ⟨m, hm⟩ := h
  exact ⟨m, by rw [hb.cell (p := ⟨0, 0, none⟩) (MaxSet.lt ⟨m, hm⟩)]; exact hm⟩

theorem MaxSet.of_shaped {w : World} (h : w.ShapedOpen Tryz.prog) : MaxSet w := Tryz.laysM144.s1_3 w h

theorem tRead_any (l : List UInt8) (w : World) (hl : l.length < 4294967281) (hm : MaxSet w) :
    Calls Tryz.prog 99 #[.string ⟨l.toArray⟩] w fun e w' => Below w.heap.size w w' ∧ e = .returned (.string ⟨(txtRead l).toArray⟩) := by
  obtain ⟨m, hm⟩ := hm
  have Hc := Lib.hid (Tryz.strings_Cut ⟨l.toArray⟩ ⟨[0].toArray⟩ m w hl hm)
  have Hq := Lib.hid (cut_nul l)
  clear hm
  go_enter Tryz.func99, Tryz.ntmps99
  go_wp2_with fail
  refine Hc.out.mono ?_
  rintro e w1 ⟨rfl, n, rfl⟩
  go_wp2
  go_ret
  rw [← Hq.out]
  exact ⟨⟨rfl, rfl, rfl, Nat.le_refl _, fun _ _ => rfl⟩, rfl⟩

theorem tJoin_any (p b : List UInt8) (w : World) (hl : p.length + b.length ≤ 4294967281) :
    Calls Tryz.prog 100 #[.string ⟨p.toArray⟩, .string ⟨b.toArray⟩] w fun e w' => w = w' ∧ e = .returned (.string ⟨(if p = [] then b else p ++ 47 :: b).toArray⟩) := by
  rcases p with _ | ⟨c, p⟩
  · go_enter Tryz.func100, Tryz.ntmps100
    go_wp2
    go_ret
    exact ⟨rfl, rfl⟩
  · have hl2 : p.length + b.length ≤ 4294967280 := by simp at hl; omega
    clear hl
    rw [if_neg (by simp)]
    go_enter Tryz.func100, Tryz.ntmps100
    go_wp2
    go_ret
    exact ⟨rfl, by simp⟩

end Go.Proofs.YtjmmecokfijglaaGreatDoor
namespace Go.Proofs.YtjmmecokfijglaaGreatDoor
open Go.ChangeShapes Go.WideShapes Go.ChangeAt Go.RowKit

/-- What txtPart says, as three results. -/
def part3 (o : Option (List UInt8 × List UInt8)) : Value :=
  .tuple #[.string ⟨(match o with | some (p, _) => p | none => []).toArray⟩, .string ⟨(match o with | some (_, b) => b | none => []).toArray⟩, .bool o.isSome]

theorem tPart_any (l : List UInt8) (w : World) (hl : l.length ≤ 9223372036854775807) :
    Calls Tryz.prog 37 #[.string ⟨l.toArray⟩] w fun e w' => Below w.heap.size w w' ∧ e = .returned (part3 (txtPart l)) := by
  by_cases h1 : l.length ≤ 100
  · have Hq := Lib.hid (show txtPart l = some ([], l) by unfold txtPart; rw [if_pos h1])
    go_enter Tryz.func37, Tryz.ntmps37
    go_wp2
    go_ret3
    rw [Hq.out]
    exact ⟨Below.refl _ _, rfl⟩
  · have h2 : 100 < l.length := by omega
    obtain ⟨k1, k2, k3, k4⟩ := lastIndex_part l h2
    have Hc := Lib.hid (Tryz.strings_LastIndex ⟨(l.take (min (l.length - 1) 156)).toArray⟩ ⟨[47].toArray⟩ (by simp [ByteArray.size]; omega) w)
    have hdat : Lib.lastIndex (⟨(l.take (min (l.length - 1) 156)).toArray⟩ : ByteArray).data.toList (⟨[47].toArray⟩ : ByteArray).data.toList = Lib.lastIndex (l.take (min (l.length - 1) 156)) [47] := by simp
    rw [hdat] at Hc
    clear hdat
    generalize Lib.lastIndex (l.take (min (l.length - 1) 156)) [47] = s at *
    have Hu := Lib.hid (show txtPart l = if lastPart l l.length < 0 then none else some (l.take (lastPart l l.length).toNat, l.drop ((lastPart l l.length).toNat + 1)) by unfold txtPart; rw [if_neg h1])
    have K1 := Lib.hid k1
    have K2 := Lib.hid k2
    clear k1 k2 h1
    by_cases hok : 1 ≤ s ∧ (l.length : Int) - s - 1 ≤ 100
    · obtain ⟨i, rfl⟩ : ∃ i : Nat, s = i := ⟨s.toNat, by omega⟩
      have Hq := Lib.hid (show txtPart l = some (l.take i, l.drop (i + 1)) by
        rw [Hu.out, K1.out hok, if_neg (by omega), Int.toNat_natCast])
      clear Hu K1 K2
      obtain ⟨o1, o2⟩ := hok
      have b1 : (i : Int) + 1 ≤ l.length := by omega
      go_enter Tryz.func37, Tryz.ntmps37
      go_wp2_with fail
      rw [show (min ((l.length : Int) - 1) 156).toNat = min (l.length - 1) 156 by omega]
      refine Hc.out.mono ?_
      rintro e w' ⟨rfl, rfl⟩
      go_wp2
      go_quiet (fail)
      go_wp2
      go_ret3
      rw [Hq.out]
      exact ⟨below_drewN (Below.refl _ _) _, by simp [part3]⟩
    · have hlt := K2.out hok
      have Hq := Lib.hid (show txtPart l = none by rw [Hu.out, if_pos hlt])
      clear Hu K1 K2 hlt
      by_cases o1 : s < 1
      · clear hok
        go_enter Tryz.func37, Tryz.ntmps37
        go_wp2_with fail
        rw [show (min ((l.length : Int) - 1) 156).toNat = min (l.length - 1) 156 by omega]
        refine Hc.out.mono ?_
        rintro e w' ⟨rfl, rfl⟩
        go_wp2
        go_ret3
        rw [Hq.out]
        exact ⟨Below.refl _ _, rfl⟩
      · have o2 : 100 < (l.length : Int) - s - 1 := by omega
        clear hok
        go_enter Tryz.func37, Tryz.ntmps37
        go_wp2_with fail
        rw [show (min ((l.length : Int) - 1) 156).toNat = min (l.length - 1) 156 by omega]
        refine Hc.out.mono ?_
        rintro e w' ⟨rfl, rfl⟩
        go_wp2
        go_ret3
        rw [Hq.out]
        exact ⟨Below.refl _ _, rfl⟩
end Go.Proofs.YtjmmecokfijglaaGreatDoor
namespace Go.Proofs.YtjmmecokfijglaaGreatDoor
open Go.ChangeShapes Go.WideShapes Go.ChangeAt Go.RowKit

theorem below_setRow {B g : Nat} {w0 w : World} (hb : Below B w0 w) (hBg : B ≤ g) (cs : Array Value) : Below B w0 (w.setRow g cs) :=
  hb.trans ⟨rfl, rfl, rfl, by simp, fun i hi => setRow_other w g i cs (by omega)⟩
end Go.Proofs.YtjmmecokfijglaaGreatDoor
namespace Go.Proofs.YtjmmecokfijglaaGreatDoor
open Go.ChangeShapes Go.WideShapes Go.ChangeAt Go.RowKit

theorem isSize_any (n : Int) (w : World) :
    Calls Tryz.prog 90 #[.int .i64 n] w fun e w' => e = .returned (.bool (isSize n)) ∧ w = w' := by
  unfold isSize
  go_enter Tryz.func90, Tryz.ntmps90
  by_cases h1 : 2 ≤ n <;> by_cases h2 : n ≤ 12
  all_goals go_wp2
  all_goals go_ret
  all_goals simp [*]

theorem inRange_any (n : Int) (w : World) :
    Calls Tryz.prog 191 #[.int .i64 n] w fun e w' => e = .returned (.bool (inRange n)) ∧ w = w' := by
  unfold inRange
  go_enter Tryz.func191, Tryz.ntmps191
  by_cases h1 : -9007199254740991 ≤ n <;> by_cases h2 : n ≤ 9007199254740991
  all_goals go_wp2
  all_goals go_ret
  all_goals simp [*]

theorem readBinary_any (x : Int) (l : List UInt8) (w : World) (hx : inRange x = true) (hl : l.length ≤ 12) :
    Calls Tryz.prog 150 #[.int .i64 x, .string ⟨l.toArray⟩] w fun e w' => e = .returned (.tuple #[.int .i64 (readBinary x l).1, .int .i64 (readBinary x l).2]) ∧ w = w' := by
  go_enter Tryz.func150, Tryz.ntmps150
  go_wp2
  go_loop [0, 6, 9] (fun y _ i => ∃ k : Nat, k ≤ l.length ∧ i = .int .i64 k ∧ ∃ z : Int, y = .int .i64 z ∧ inRange z = true ∧ readBinary z (l.drop k) = readBinary x l) (fun _ _ i => l.length - (intOf i).toNat)
  case atStart => exact ⟨0, Nat.zero_le _, rfl, x, rfl, hx, rfl⟩
  case round =>
    obtain ⟨k, hk, rfl, z, rfl, hz, hs⟩ := hrel
    have Hs := Lib.hid hs
    clear hs
    have Hz := Lib.hid hz
    clear hz
    by_cases hlt : k < l.length
    · have hd := Lib.hid (drop_at hlt)
      go_wp2_with fail
      rw [shl8_or z l[k] Hz.out]
      by_cases hr : inRange (z * 256 + l[k].toNat) = true
      · refine (inRange_any _ _).mono ?_
        rw [hr]
        rintro e w' ⟨rfl, rfl⟩
        have Hr := Lib.hid hr
        clear hr
        go_wp2
        go_round
        case rel => 
          refine ⟨k + 1, by omega, by go_num, _, rfl, Hr.out, ?_⟩
          rw [← Hs.out, hd.out, readBinary_cons, if_pos Hr.out]
        case measure => simp [intOf]; omega
      · have hr' : inRange (z * 256 + l[k].toNat) = false := by simpa using hr
        refine (inRange_any _ _).mono ?_
        rw [hr']
        rintro e w' ⟨rfl, rfl⟩
        go_wp2
        go_ret2
        have : readBinary x l = (0, 6) := by rw [← Hs.out, hd.out, readBinary_cons, if_neg hr]
        rw [this]
        exact ⟨rfl, rfl⟩
    · go_wp2
      go_ret2
      have : readBinary x l = (z, 0) := by rw [← Hs.out, List.drop_of_length_le (by omega)]; rfl
      rw [this]
      exact ⟨rfl, rfl⟩

theorem readOctal_any (l : List UInt8) (w : World) (hl : l.length ≤ 12) :
    Calls Tryz.prog 151 #[.string ⟨l.toArray⟩] w fun e w' => e = .returned (.tuple #[.int .i64 (readOctal 0 0 l).1, .int .i64 (readOctal 0 0 l).2]) ∧ w = w' := by
  go_enter Tryz.func151, Tryz.ntmps151
  go_wp2
  go_step3
  go_wp2
  go_step3
  go_wp2
  go_loop [4, 5, 6, 7] (fun p y i _ => ∃ k : Nat, k ≤ l.length ∧ i = .int .i64 k ∧ ∃ q z : Int, p = .int .i64 q ∧ (q = 0 ∨ q = 1 ∨ q = 2) ∧ y = .int .i64 z ∧ 0 ≤ z ∧ z < 8 ^ k ∧ readOctal q z (l.drop k) = readOctal 0 0 l) (fun _ _ i _ => l.length - (intOf i).toNat)
  case atStart => exact ⟨0, Nat.zero_le _, rfl, 0, 0, rfl, .inl rfl, rfl, by decide, by decide, rfl⟩
  case round =>
    obtain ⟨k, hk, rfl, q, z, rfl, hq, rfl, hz0, hz1, hs⟩ := hrel
    have Hs := Lib.hid hs
    clear hs
    have Hp := Lib.hid (pow8_succ k (by omega))
    by_cases hlt : k < l.length
    · have hd := Lib.hid (drop_at hlt)
      go_wp2
      all_goals (try simp only [beq_iff_eq, beq_eq_false_iff_ne, bne_iff_ne, bne_eq_false_iff_eq, ne_eq] at *)
      all_goals (have hp := Hp.out; have hb := byte_lt l[k]; have hor := i64_or3 z ((l[k].toNat : Int) - 48))
      all_goals first
        | (go_ret2
           have : readOctal 0 0 l = (0, 2) := by
             rw [← Hs.out, hd.out, readOctal_cons]
             repeat (first | rw [if_pos (by omega)] | rw [if_neg (by omega)])
           rw [this]
           exact ⟨rfl, rfl⟩)
        | (refine ⟨⟨k + 1, by omega, by go_num, _, _, rfl, ?_, rfl, ?_, ?_, ?_⟩, ?_⟩
           all_goals first
             | omega
             | (rw [hor (by omega) (by omega) (by omega) (by omega)]; omega)
             | (simp [intOf]; omega)
             | (rw [← Hs.out, hd.out, readOctal_cons]
                (try rw [hor (by omega) (by omega) (by omega) (by omega)])
                repeat (first | rw [if_pos (by omega)] | rw [if_neg (by omega)])))
    · go_wp2
      go_ret2
      have : readOctal 0 0 l = (z, 0) := by rw [← Hs.out, List.drop_of_length_le (by omega)]; rfl
      rw [this]
      exact ⟨rfl, rfl⟩

end Go.Proofs.YtjmmecokfijglaaGreatDoor
namespace Go.Proofs.YtjmmecokfijglaaGreatDoor
open Go.ChangeShapes Go.WideShapes Go.ChangeAt Go.RowKit

theorem info_u8 : (Tryz.prog.info? 5).map (fun i => (i.zero, i.size, i.bytes)) = some (some (.int .u8 0), 1, 1) := by kernel_rfl

set_option maxRecDepth 100000 in
theorem octal_any (v : Int) (n : Nat) (w : World) (h2 : 2 ≤ n) (h12 : n ≤ 12) (hv : 0 ≤ v) (hs : v / 2 ^ (3 * (n - 1)) = 0) (hm : v ≤ 9223372036854775807) :
    Calls Tryz.prog 41 #[.int .i64 v, .int .i64 n] w fun e w' => Below w.heap.size w w' ∧ e = .returned (.tuple #[.string ⟨(octStr v n).toArray⟩, .bool true]) := by
  have hmk := run_make_bytes (P := Tryz.prog) 55 5 Tryz.underlying55 info_u8 n (by omega)
  have Hz := Lib.hid (show isSize (n : Int) = true by simp [isSize]; omega)
  go_enter Tryz.func41, Tryz.ntmps41
  go_wp2_with fail
  refine (isSize_any _ w).mono ?_
  rw [Hz.out]
  rintro e w' ⟨rfl, rfl⟩
  have e1 : (v / 2 ^ (3 * (n - 1)) != 0) = false := by simp [hs]
  clear hs
  go_wp2
  go_loopw [7, 27] (fun _ i wr => ∃ k : Nat, k ≤ n - 1 ∧ i = .int .i64 k ∧ Holds wr w.heap.size 5 (byteCells (octPart v n k)) ∧ Below w.heap.size w wr) (fun _ i _ => n - 1 - (intOf i).toNat)
  case atStart => exact ⟨0, Nat.zero_le _, rfl, by rw [octPart_zero]; exact Holds.new _ _ _, (Below.refl _ _).alloc (Nat.le_refl _) _⟩
  case round =>
    obtain ⟨k, hk, rfl, hh, hb⟩ := hrel
    have Hh := Lib.hid hh
    have Hb := Lib.hid hb
    clear hh hb
    by_cases hlt : k < n - 1
    · have hc : wr.cell? ⟨w.heap.size, k, none⟩ = some (.int .u8 ((octPart v n k)[k]'(by rw [octPart_length]; omega)).toNat) := by
        rw [Hh.out.cell (i := k) (by rw [byteCells_length, octPart_length]; omega), byteCells_get]
      have hf : wr.frozen? ⟨w.heap.size, k, none⟩ = false := Hh.out.frozen k
      have hand := i64_and7 (v / 2 ^ (3 * (n - 2 - k)))
      go_wp2
      have hp := Hh.out.put k (.int .u8 (48 + v / 2 ^ (3 * (n - 2 - k)) % 8))
      rw [byteCells_set _ _ _ (by omega) (by omega)] at hp
      change Holds _ _ _ (byteCells ((octPart v n k).set k (octDig v n k))) at hp
      rw [octPart_succ] at hp
      refine ⟨⟨k + 1, by omega, by go_num, hp, Hb.out.setCell (Nat.le_refl _) _⟩, ?_⟩
      simp [intOf]; omega
    · have Hl := Lib.hid (show octPart v n k = octStr v n by rw [show k = n - 1 by omega, octPart_full v n (by omega)])
      have hconv := run_bytes_string (P := Tryz.prog) 55 5 9 Tryz.underlying55 Tryz.underlying5 Tryz.underlying9 (show Holds wr w.heap.size 5 (byteCells (octStr v n)) by rw [← Hl.out]; exact Hh.out) n (by simp [octStr]; omega) n
      go_wp2
      go_ret2
      exact ⟨Hb.out, rfl⟩

theorem octal_no (v n : Int) (w : World) (hn : -9223372036854775808 ≤ n ∧ n ≤ 9223372036854775807) (h : octalOf v n = none) :
    Calls Tryz.prog 41 #[.int .i64 v, .int .i64 n] w fun e w' => w = w' ∧ e = .returned (.tuple #[.string ⟨([] : List UInt8).toArray⟩, .bool false]) := by
  by_cases hz : isSize n = true
  · have Hz := Lib.hid hz
    obtain ⟨m, rfl⟩ : ∃ m : Nat, n = m := ⟨n.toNat, by simp [isSize] at hz; omega⟩
    have h2 : 2 ≤ m ∧ m ≤ 12 := by simp [isSize] at hz; omega
    clear hz
    by_cases hv : 0 ≤ v
    · have e1 : (v / 2 ^ (3 * (m - 1)) != 0) = true := by
        rw [bne_iff_ne]; intro h0
        unfold octalOf at h
        rw [if_pos ⟨Hz.out, hv, by simpa using h0⟩] at h
        cases h
      clear h
      go_enter Tryz.func41, Tryz.ntmps41
      go_wp2_with fail
      refine (isSize_any _ w).mono ?_
      rw [Hz.out]
      rintro e w' ⟨rfl, rfl⟩
      go_wp2
      go_ret2
      exact ⟨rfl, rfl⟩
    · clear h
      go_enter Tryz.func41, Tryz.ntmps41
      go_wp2_with fail
      refine (isSize_any _ w).mono ?_
      rw [Hz.out]
      rintro e w' ⟨rfl, rfl⟩
      go_wp2
      go_ret2
      exact ⟨rfl, rfl⟩
  · have Hz := Lib.hid (show isSize n = false by simpa using hz)
    clear hz h
    go_enter Tryz.func41, Tryz.ntmps41
    go_wp2_with fail
    refine (isSize_any _ w).mono ?_
    rw [Hz.out]
    rintro e w' ⟨rfl, rfl⟩
    go_wp2
    go_ret2
    exact ⟨rfl, rfl⟩

/-- octal.Octal, whatever it is handed. -/
theorem octal_all (v n : Int) (w : World) (hv : -9223372036854775808 ≤ v ∧ v ≤ 9223372036854775807) (hn : -9223372036854775808 ≤ n ∧ n ≤ 9223372036854775807) :
    Calls Tryz.prog 41 #[.int .i64 v, .int .i64 n] w fun e w' => Below w.heap.size w w' ∧ e = .returned (.tuple #[.string ⟨((octalOf v n).getD []).toArray⟩, .bool (octalOf v n).isSome]) := by
  by_cases h : isSize n = true ∧ 0 ≤ v ∧ v / 2 ^ (3 * (n.toNat - 1)) = 0
  · have hz := h.1
    obtain ⟨m, rfl⟩ : ∃ m : Nat, n = m := ⟨n.toNat, by simp [isSize] at hz; omega⟩
    have h2 : 2 ≤ m ∧ m ≤ 12 := by simp [isSize] at hz; omega
    have hq : octalOf v m = some (octStr v m) := by unfold octalOf; rw [if_pos h]; rfl
    rw [hq]
    exact octal_any v m w h2.1 h2.2 h.2.1 (by simpa using h.2.2) hv.2
  · have hq : octalOf v n = none := by unfold octalOf; rw [if_neg h]
    rw [hq]
    exact (octal_no v n w hn hq).mono fun e w' ⟨h1, h2⟩ => ⟨h1 ▸ Below.refl _ _, h2⟩
end Go.Proofs.YtjmmecokfijglaaGreatDoor
namespace Go.Proofs.YtjmmecokfijglaaGreatDoor
open Go.ChangeShapes Go.WideShapes Go.ChangeAt Go.RowKit

section
variable {P : Program}
/-- A struct or array put together, its cells known. -/
theorem wpList_build_is {ops : Array Oper} {rest : List Oper} {o : Oper} {a : Act} {w : World} {Q : Exit → Act → World → Prop} (hg : o.guard = none) (t : TypeId) (parts : Array (Nat × Operand)) (ho : o.op = .build t parts)
    (vs : List (Nat × Value)) (cs : Array Value) (hf : P.built t vs = some cs) (he : (parts.map fun (i, x) => (i, a.eval x)).toList = vs)
    (h : wpList P ops Q rest (a.put o.dst (.agg cs)) w) : wpList P ops Q (o :: rest) a w := by
  subst he
  refine wpList_build hg t parts ho (by rw [hf]; rfl) ?_
  rw [hf]
  exact h
end
def tabParts : List (Nat × Value) := [(0, .agg #[.int .i64 0, .int .i64 100]), (1, .agg #[.int .i64 100, .int .i64 8]), (2, .agg #[.int .i64 108, .int .i64 8]), (3, .agg #[.int .i64 116, .int .i64 8]), (4, .agg #[.int .i64 124, .int .i64 12]), (5, .agg #[.int .i64 136, .int .i64 12]), (6, .agg #[.int .i64 148, .int .i64 8]), (7, .agg #[.int .i64 156, .int .i64 1]), (8, .agg #[.int .i64 157, .int .i64 100]), (9, .agg #[.int .i64 257, .int .i64 8]), (10, .agg #[.int .i64 265, .int .i64 32]), (11, .agg #[.int .i64 297, .int .i64 32]), (12, .agg #[.int .i64 329, .int .i64 8]), (13, .agg #[.int .i64 337, .int .i64 8]), (14, .agg #[.int .i64 345, .int .i64 155])]
theorem built_tab : Tryz.prog.built 164 tabParts = some #[.int .i64 0, .int .i64 100, .int .i64 100, .int .i64 8, .int .i64 108, .int .i64 8, .int .i64 116, .int .i64 8, .int .i64 124, .int .i64 12, .int .i64 136, .int .i64 12, .int .i64 148, .int .i64 8, .int .i64 156, .int .i64 1, .int .i64 157, .int .i64 100, .int .i64 257, .int .i64 8, .int .i64 265, .int .i64 32, .int .i64 297, .int .i64 32, .int .i64 329, .int .i64 8, .int .i64 337, .int .i64 8, .int .i64 345, .int .i64 155] := by kernel_rfl
theorem info_tab : (Tryz.prog.info? 164).map (·.size) = some 30 := by kernel_rfl

set_option maxRecDepth 100000 in
theorem placeOf_any (f : Nat) (w : World) (h : f < 15) :
    Calls Tryz.prog 42 #[.int .i64 f] w fun e w' => Below w.heap.size w w' ∧ e = .returned (.agg #[.int .i64 (plS f), .int .i64 (plN f)]) := by
  have h1 := tab_start f h
  have h2 := tab_size f h
  have hbt := built_tab
  change _ = some tabCells.toArray at hbt
  have Hbt := Lib.hid hbt
  have Hl := Lib.hid (show tabCells.toArray.size = 30 from rfl)
  have Hone := Lib.hid (show tabCells.toArray.all (·.oneCell') = true by simp [tabCells, Value.oneCell'])
  have Hs1 := Lib.hid (show (Tryz.prog.info? 164).map (·.size) = some tabCells.toArray.size from info_tab)
  clear hbt
  have Hst := Lib.hid (show ((w.alloc (.cells #[.int .i64 0, .int .i64 0] 114)).alloc (.cells #[.int .i64 0, .int .i64 0, .int .i64 0, .int .i64 0, .int .i64 0, .int .i64 0, .int .i64 0, .int .i64 0, .int .i64 0, .int .i64 0, .int .i64 0, .int .i64 0, .int .i64 0, .int .i64 0, .int .i64 0, .int .i64 0, .int .i64 0, .int .i64 0, .int .i64 0, .int .i64 0, .int .i64 0, .int .i64 0, .int .i64 0, .int .i64 0, .int .i64 0, .int .i64 0, .int .i64 0, .int .i64 0, .int .i64 0, .int .i64 0] 164)).heap[w.heap.size + 1]? = some (.cells #[.int .i64 0, .int .i64 0, .int .i64 0, .int .i64 0, .int .i64 0, .int .i64 0, .int .i64 0, .int .i64 0, .int .i64 0, .int .i64 0, .int .i64 0, .int .i64 0, .int .i64 0, .int .i64 0, .int .i64 0, .int .i64 0, .int .i64 0, .int .i64 0, .int .i64 0, .int .i64 0, .int .i64 0, .int .i64 0, .int .i64 0, .int .i64 0, .int .i64 0, .int .i64 0, .int .i64 0, .int .i64 0, .int .i64 0, .int .i64 0] 164 (0, 0)) by have := heap_alloc_last (w.alloc (.cells #[.int .i64 0, .int .i64 0] 114)) (.cells #[.int .i64 0, .int .i64 0, .int .i64 0, .int .i64 0, .int .i64 0, .int .i64 0, .int .i64 0, .int .i64 0, .int .i64 0, .int .i64 0, .int .i64 0, .int .i64 0, .int .i64 0, .int .i64 0, .int .i64 0, .int .i64 0, .int .i64 0, .int .i64 0, .int .i64 0, .int .i64 0, .int .i64 0, .int .i64 0, .int .i64 0, .int .i64 0, .int .i64 0, .int .i64 0, .int .i64 0, .int .i64 0, .int .i64 0, .int .i64 0] 164); rw [World.size_alloc] at this; exact this)
  generalize tabCells = T at *
  obtain ⟨w1, hw⟩ : ∃ w1, (((w.alloc (.cells #[.int .i64 0, .int .i64 0] 114)).alloc (.cells #[.int .i64 0, .int .i64 0, .int .i64 0, .int .i64 0, .int .i64 0, .int .i64 0, .int .i64 0, .int .i64 0, .int .i64 0, .int .i64 0, .int .i64 0, .int .i64 0, .int .i64 0, .int .i64 0, .int .i64 0, .int .i64 0, .int .i64 0, .int .i64 0, .int .i64 0, .int .i64 0, .int .i64 0, .int .i64 0, .int .i64 0, .int .i64 0, .int .i64 0, .int .i64 0, .int .i64 0, .int .i64 0, .int .i64 0, .int .i64 0] 164)).setRow (w.heap.size + 1) T.toArray) = w1 := ⟨_, rfl⟩
  have Hw := Lib.hid hw
  have H1 : Holds w1 (w.heap.size + 1) 164 T := by rw [← hw]; exact setRow_heap _ _ _ _ _ _ Hst.out
  have H0 : Holds w1 w.heap.size 114 [.int .i64 0, .int .i64 0] := by
    rw [← hw]
    unfold Holds
    rw [setRow_other _ _ _ _ (by omega)]
    exact (Holds.new w _ _).behind _
  have hb : Below w.heap.size w w1 := by
    rw [← hw]
    exact below_setRow (((Below.refl _ _).alloc (Nat.le_refl _) _).alloc (by simp) _) (by omega) _
  have hsz : w.heap.size + 1 < w1.heap.size := H1.lt
  have hsz0 : w.heap.size < w1.heap.size := by omega
  have hl : T.length = 30 := by have := Hl.out; simpa using this
  have c1 : w1.cell? ⟨w.heap.size + 1, f * 2, none⟩ = some (.int .i64 (plS f)) := by
    rw [H1.cell (i := f * 2) (by omega), ← h1, List.getElem?_eq_getElem (by omega)]
  have c2 : w1.cell? ⟨w.heap.size + 1, f * 2 + 1, none⟩ = some (.int .i64 (plN f)) := by
    rw [H1.cell (i := f * 2 + 1) (by omega), ← h2, List.getElem?_eq_getElem (by omega)]
  have z0 : w1.cell? ⟨w.heap.size, 0, none⟩ = some (.int .i64 0) := H0.cell (i := 0) (by simp)
  have z1 : w1.cell? ⟨w.heap.size, 1, none⟩ = some (.int .i64 0) := H0.cell (i := 1) (by simp)
  have z2 : w1.frozen? ⟨w.heap.size, 0, none⟩ = false := H0.frozen 0
  have z3 : w1.frozen? ⟨w.heap.size, 1, none⟩ = false := H0.frozen 1
  have Hb := Lib.hid hb
  clear hw H1 H0 hb hl h1 h2
  go_enter Tryz.func42, Tryz.ntmps42
  go_wp2_with (first
    | (refine wpList_build_is (by rfl) 164 _ (by rfl) tabParts _ Hbt.out ?_ ?_; kernel_rfl)
    | (refine wpList_store_row (by rfl) 164 _ _ (by rfl) (w.heap.size + 1) T.toArray (by rfl) (by rfl) 164 #[.int .i64 0, .int .i64 0, .int .i64 0, .int .i64 0, .int .i64 0, .int .i64 0, .int .i64 0, .int .i64 0, .int .i64 0, .int .i64 0, .int .i64 0, .int .i64 0, .int .i64 0, .int .i64 0, .int .i64 0, .int .i64 0, .int .i64 0, .int .i64 0, .int .i64 0, .int .i64 0, .int .i64 0, .int .i64 0, .int .i64 0, .int .i64 0, .int .i64 0, .int .i64 0, .int .i64 0, .int .i64 0, .int .i64 0, .int .i64 0] Hst.out Hs1.out (by exact Hl.out.symm) Hone.out ?_; rw [Hw.out])
    | fail)
  exact bodyPost_ret (v := .agg #[.int .i64 (plS f), .int .i64 (plN f)]) (by simp [results, Tryz.results42, go_sem, z0, z1]) rfl ⟨(Hb.out.setCell (by simp) _).setCell (by simp) _, rfl⟩

set_option maxRecDepth 100000 in
theorem cut_any (l : List UInt8) (f : Nat) (w : World) (hl : l.length = 512) (h : f < 15) :
    Calls Tryz.prog 47 #[.string ⟨l.toArray⟩, .int .i64 f] w fun e w' => Below w.heap.size w w' ∧ e = .returned (.string ⟨(fld l f).toArray⟩) := by
  have hb := pl_bd f h
  have Hp := Lib.hid (placeOf_any f w h)
  have Hq := Lib.hid (show fld l f = (l.drop (plS f)).take (plS f + plN f - plS f) by unfold fld fldAt; rw [Nat.add_sub_cancel_left])
  have hsl : ∀ W : World, (Instr.slice 9 (.string ⟨l.toArray⟩) (some (.int .i64 (plS f))) (some (.int .i64 ((plS f : Int) + plN f))) none).run Tryz.prog W = .ok (.string ⟨(fld l f).toArray⟩) W := by
    intro W
    rw [run_slice_string W _ _ _ _ _ _ Tryz.underlying9 (by omega) (by omega) (by simp [ByteArray.size]; omega)]
    have he := str_extract l (plS f) (plS f + plN f)
    rw [← Hq.out] at he
    have e1 : ((plS f : Int)).toNat = plS f := by omega
    have e2 : ((plS f : Int) + plN f).toNat = plS f + plN f := by omega
    rw [e1, e2]
    exact congrArg (fun s => Result.ok (Value.string s) W) he
  clear Hq
  generalize fld l f = r at *
  generalize plS f = s at *
  generalize plN f = n at *
  obtain ⟨b1, b2, b3⟩ := hb
  go_enter Tryz.func47, Tryz.ntmps47
  go_wp2_with fail
  refine Hp.out.mono ?_
  rintro e w1 ⟨hb1, rfl⟩
  have Hb1 := Lib.hid hb1
  clear hb1
  go_wp2
  go_ret
  exact ⟨Hb1.out.alloc Hb1.out.size _, rfl⟩
end Go.Proofs.YtjmmecokfijglaaGreatDoor
namespace Go.Proofs.YtjmmecokfijglaaGreatDoor
open Go.ChangeShapes Go.WideShapes Go.ChangeAt Go.RowKit

theorem words_any (hb : Nat) (w : World) :
    Calls Tryz.prog 39 #[.pointer (some ⟨hb, 0, none⟩)] w fun e w' => Below w.heap.size w w' ∧ (Holds w' w.heap.size 105 (wordCells hb) ∧ e = .returned (.slice (some ⟨w.heap.size, 0, none⟩) 3 3)) := by
  go_enter Tryz.func39, Tryz.ntmps39
  go_wp2_with fail
  go_region
  all_goals
    go_wp2
    go_ret
    exact ⟨below_drewN ((Below.refl _ _).alloc (Nat.le_refl _) _) _, Holds.new w _ _, rfl⟩

theorem numbers_any (hb : Nat) (w : World) :
    Calls Tryz.prog 40 #[.pointer (some ⟨hb, 0, none⟩)] w fun e w' => Below w.heap.size w w' ∧ (Holds w' w.heap.size 110 (numCells hb) ∧ e = .returned (.slice (some ⟨w.heap.size, 0, none⟩) 7 7)) := by
  go_enter Tryz.func40, Tryz.ntmps40
  go_wp2_with fail
  go_region
  all_goals
    go_wp2
    go_ret
    exact ⟨below_drewN ((Below.refl _ _).alloc (Nat.le_refl _) _) _, Holds.new w _ _, rfl⟩
end Go.Proofs.YtjmmecokfijglaaGreatDoor
