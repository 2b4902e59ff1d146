/-
  A head equals itself.
-/
import Derived.Test.YtlloaalaldomkaaDoorHdM
namespace Go.Proofs.YtlloaalaldomkaaDoor
open Go.ChangeShapes Go.WideShapes Go.ChangeAt Go.RowKit

set_option maxRecDepth 100000 in
theorem head_equal (h : Hd) (W : World) : (Op.equalIn 10000 23 (.agg h.cells.toArray) (.agg h.cells.toArray)).run Tryd.prog W = .ok true W := by
  rw [show (10000 : Nat) = 9999 + 1 from rfl, run_equalIn_agg (P := Tryd.prog) W 9999 23 _ _ (by kernel_rfl) (by kernel_rfl)]
  unfold Program.fieldsOf
  rw [Tryd.underlying23]
  simp [Op.eqFields, Hd.cells, go_sem]


theorem head_eql (h : Hd) (W : World) : (binOp .eql 23 (.agg h.cells.toArray) (.agg h.cells.toArray)).run Tryd.prog W = .ok (.bool true) W := by
  rw [run_eql_struct, head_equal]; rfl
theorem head_neq (h : Hd) (W : World) : (binOp .neq 23 (.agg h.cells.toArray) (.agg h.cells.toArray)).run Tryd.prog W = .ok (.bool false) W := by
  rw [run_neq_struct, head_equal]; rfl
theorem posix_fits (h : Hd) : hdFits h.posix = hdFits h := rfl
theorem posix_build (h : Hd) : hdBuild h.posix = hdBuild h := by
  unfold hdBuild
  show (match txtPart h.name with | some (p, b) => sealOf (hdRaw h.posix p b) | none => []) = _
  have : ∀ p b, hdRaw h.posix p b = hdRaw h p b := fun p b => by
    unfold hdRaw
    show over (over (nl h.posix (wl h.posix _ 3) 7) 156 [UInt8.ofNat (hdKind (hdKind h.kind)).toNat]) 257 hdMark = _
    rw [hdKind_twice]
    rfl
  simp only [this]
  rfl
end Go.Proofs.YtlloaalaldomkaaDoor
