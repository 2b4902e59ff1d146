/-
  A head that came in as an argument.
-/
import Derived.Test.YtlloaalaldomkaaDoorRows
import Derived.Test.YtlloaalaldomkaaDoorHdP
import Derived.Test.YtlloaalaldomkaaDoorTxt
import Derived.Lib.SmallJoins
import Derived.Deep.Modes
import Derived.ChangeSame
import Derived.ChangeArms
import Derived.WideKeyArgs
namespace Go.Proofs.YtlloaalaldomkaaDoor
open Go.ChangeShapes Go.WideShapes Go.ChangeAt Go.RowKit Go.Joins Go.Deep Go.WideElems
open Go.ChangeMaps (open_string shut_string)

/-- A head of the size that a machine can hold. -/
def Hd.fine (h : Hd) : Prop := (0 ≤ h.kind ∧ h.kind < 256) ∧ h.okN ∧ (h.name.length ≤ 9223372036854775807 ∧ h.link.length ≤ 9223372036854775807 ∧ h.uname.length ≤ 9223372036854775807 ∧ h.gname.length ≤ 9223372036854775807)

theorem byte_bd {n : Int} (h : (Lit.int .u8 n).wf = true) : 0 ≤ n ∧ n < 256 := by have := bounds_u8 h; omega
theorem i64_bd {n : Int} (h : (Lit.int .i64 n).wf = true) : -9223372036854775808 ≤ n ∧ n ≤ 9223372036854775807 := by have := bounds_i64 h; omega

section
variable {H : Type} {enc : TypeId × Value → H} {w : World} {base : Nat} {spare : Nat → Bool} {held : Bool}
set_option maxRecDepth 100000 in

theorem open_head {r : Reach} {b0 : Nat} {v : Value} {d : DataW H} {p : List MemPlace} (hv : Value.okWide Tryd.prog w r b0 23 v) (h : DataW.Trod enc Tryd.prog w base spare held 23 v d p) :
    ∃ hd : Hd, v = hd.val ∧ p = [] ∧ hd.fine := by
  have hs := Tryd.underlying23
  obtain ⟨cs, rfl, hsz⟩ := okWide_struct hs hv
  obtain ⟨l⟩ := cs
  have hC : Tryd.prog.cellsOf 23 = 13 := by kernel_rfl
  match l, hsz.trans hC with
  | [c0, c1, c2, c3, c4, c5, c6, c7, c8, c9, c10, c11, c12], _ =>
    obtain ⟨fuel, hf⟩ := h
    obtain ⟨xs, n, _, hx, _, hlen, hg⟩ := DataW.trod_struct hs hf
    match xs, hlen with
    | [y0, y1, y2, y3, y4, y5, y6, y7, y8, y9, y10, y11, y12], _ =>
      have cS : Tryd.prog.cellsOf 9 = 1 := by kernel_rfl
      have cI : Tryd.prog.cellsOf 3 = 1 := by kernel_rfl
      have cU : Tryd.prog.cellsOf 5 = 1 := by kernel_rfl
      have g0 : DataW.trod enc Tryd.prog w base spare held n 9 [c0] = some y0 := by simpa [cS, Value.cells] using hg 0 _ rfl
      have g1 : DataW.trod enc Tryd.prog w base spare held n 9 [c1] = some y1 := by simpa [cS, Value.cells] using hg 1 _ rfl
      have g2 : DataW.trod enc Tryd.prog w base spare held n 5 [c2] = some y2 := by simpa [cU, Value.cells] using hg 2 _ rfl
      have g3 : DataW.trod enc Tryd.prog w base spare held n 3 [c3] = some y3 := by simpa [cI, Value.cells] using hg 3 _ rfl
      have g4 : DataW.trod enc Tryd.prog w base spare held n 3 [c4] = some y4 := by simpa [cI, Value.cells] using hg 4 _ rfl
      have g5 : DataW.trod enc Tryd.prog w base spare held n 3 [c5] = some y5 := by simpa [cI, Value.cells] using hg 5 _ rfl
      have g6 : DataW.trod enc Tryd.prog w base spare held n 3 [c6] = some y6 := by simpa [cI, Value.cells] using hg 6 _ rfl
      have g7 : DataW.trod enc Tryd.prog w base spare held n 3 [c7] = some y7 := by simpa [cI, Value.cells] using hg 7 _ rfl
      have g8 : DataW.trod enc Tryd.prog w base spare held n 9 [c8] = some y8 := by simpa [cS, Value.cells] using hg 8 _ rfl
      have g9 : DataW.trod enc Tryd.prog w base spare held n 9 [c9] = some y9 := by simpa [cS, Value.cells] using hg 9 _ rfl
      have g10 : DataW.trod enc Tryd.prog w base spare held n 3 [c10] = some y10 := by simpa [cI, Value.cells] using hg 10 _ rfl
      have g11 : DataW.trod enc Tryd.prog w base spare held n 3 [c11] = some y11 := by simpa [cI, Value.cells] using hg 11 _ rfl
      have g12 : DataW.trod enc Tryd.prog w base spare held n 3 [c12] = some y12 := by simpa [cI, Value.cells] using hg 12 _ rfl
      obtain ⟨s0, e0, rfl, w0⟩ := DataW.trod_string Tryd.underlying9 g0
      obtain ⟨s1, e1, rfl, w1⟩ := DataW.trod_string Tryd.underlying9 g1
      obtain ⟨a2, e2, rfl, w2⟩ := DataW.trod_int Tryd.underlying5 g2
      obtain ⟨a3, e3, rfl, w3⟩ := DataW.trod_int Tryd.underlying3 g3
      obtain ⟨a4, e4, rfl, w4⟩ := DataW.trod_int Tryd.underlying3 g4
      obtain ⟨a5, e5, rfl, w5⟩ := DataW.trod_int Tryd.underlying3 g5
      obtain ⟨a6, e6, rfl, w6⟩ := DataW.trod_int Tryd.underlying3 g6
      obtain ⟨a7, e7, rfl, w7⟩ := DataW.trod_int Tryd.underlying3 g7
      obtain ⟨s8, e8, rfl, w8⟩ := DataW.trod_string Tryd.underlying9 g8
      obtain ⟨s9, e9, rfl, w9⟩ := DataW.trod_string Tryd.underlying9 g9
      obtain ⟨a10, e10, rfl, w10⟩ := DataW.trod_int Tryd.underlying3 g10
      obtain ⟨a11, e11, rfl, w11⟩ := DataW.trod_int Tryd.underlying3 g11
      obtain ⟨a12, e12, rfl, w12⟩ := DataW.trod_int Tryd.underlying3 g12
      obtain ⟨l0, rfl⟩ := str_of s0
      obtain ⟨l1, rfl⟩ := str_of s1
      obtain ⟨l8, rfl⟩ := str_of s8
      obtain ⟨l9, rfl⟩ := str_of s9
      simp only [List.cons.injEq, and_true] at e0 e1 e2 e3 e4 e5 e6 e7 e8 e9 e10 e11 e12
      subst e0 e1 e2 e3 e4 e5 e6 e7 e8 e9 e10 e11 e12
      refine ⟨⟨l0, l1, a2, a3, a4, a5, a6, a7, l8, l9, a10, a11, a12⟩, rfl, ?_, ?_⟩
      · simp only [Prod.mk.injEq] at hx
        simpa using hx.2
      · have hb := byte_bd w2
        have h3 := i64_bd w3
        have h4 := i64_bd w4
        have h5 := i64_bd w5
        have h6 := i64_bd w6
        have h7 := i64_bd w7
        have h10 := i64_bd w10
        have h11 := i64_bd w11
        have q0 : l0.length ≤ 9223372036854775807 := w0
        have q1 : l1.length ≤ 9223372036854775807 := w1
        have q8 : l8.length ≤ 9223372036854775807 := w8
        have q9 : l9.length ≤ 9223372036854775807 := w9
        refine ⟨hb, ?_, q0, q1, q8, q9⟩
        intro k hk
        rcases lt7 hk with rfl | rfl | rfl | rfl | rfl | rfl | rfl
        · exact h3
        · exact h4
        · exact h5
        · exact h6
        · exact h7
        · exact h10
        · exact h11
theorem shut_head {w' : World} {sp : Nat → Bool} {v : Value} {d : DataW H} (h : DataW.Trod enc Tryd.prog w base (fun _ => true) true 23 v d []) : DataW.Trod enc Tryd.prog w' base sp true 23 v d [] :=
  Trod_stays (by kernel_rfl) (by kernel_rfl) (of_decide_eq_true (by kernel_rfl)) h (fun p hp => by cases hp) (fun p hp => by cases hp)
end
end Go.Proofs.YtlloaalaldomkaaDoor
