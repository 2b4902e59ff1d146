/-
  No cell of these rows narrows 'for every input' (looked for: loops, veiled, ifaces, maps, wideKeys, modest, calm, conditions, laid).
  DERIVED. THE GIVEN ROWS OF THIS SEAT. 3 by the template 'for every input the law returns true; each argument reads behind the call as it read before'; 0 by the template 'total and deterministic' (their statements: YtoigmmmpplghjaaTotals.lean).
  GIVEN WITH THE SEED: the statements are not yours to turn. If you find one false, say at which input.
  Laid BY PROGRAM, IN A SANDBOX (cutbox-rows.mjs): the forced cells as the released guide's own fill.sh prints them over the translation 665c05bc0a9ef554… (all of the seat's roots in one cut). By AI agents, Wed Nov 11 2026. No macro, syntax, notation, axiom, sorry.
-/
import Derived.Test.YtoigmmmpplghjaaChecked
import GoSem.Claim
import GoSem.ClaimJoined
import GoSem.ClaimMapViews
import Derived.JoinedTies
import Derived.KernelRfl
namespace Go.Proofs.Ytoigmmmpplghjaa
/- THE CELL 'sum', in the pinned program and in every row, IS THE sha256 OF THE DUMP (.gsa) THAT YtoigmmmpplghjaaProg.lean LOADS. Nothing in Lean hashes anything: it is a label: what it is worth is what the hold of that sum in a sandbox is worth. -/
noncomputable def Try.pinned : Pinned := { name := "ytoigmmmpplghjaa", sum := "665c05bc0a9ef5547f37803eced5285f3af6652aa51c343495f8e66a8579c194", checked := Try.checked }
namespace Rows
def none {H : Type} : Left H := { results := [], args := [] }

/-- 'boulterlaw09.SpanCounts': WHATEVER THE INPUT: true; the input reads as it did. -/
def spanCountsSpec : ChangeSpec := { name := "spanCounts", fn := fun _ => fun
  | [d1, d2] => { results := [.lit (.bool true)], args := [d1, d2] }
  | _ => none }
def spanCountsRow : OpenClaim := { program := "ytoigmmmpplghjaa", sum := "665c05bc0a9ef5547f37803eced5285f3af6652aa51c343495f8e66a8579c194", func := "boulter/boulterlaw09.SpanCounts", spec := "spanCounts", inPlace := ["internal/abi.NoEscape", "internal/bytealg.MakeNoZero"], apart := false }
def SpanCountsSaid : Prop := spanCountsRow.holds Try.pinned (OpenSpec.ofChange spanCountsSpec)

/-- ITS FALSE NEIGHBOUR: 'it returns false'. Refute it at one input. -/
def spanCountsWrong : ChangeSpec := { name := "spanCounts", fn := fun _ => fun
  | [d1, d2] => { results := [.lit (.bool false)], args := [d1, d2] }
  | _ => none }
def SpanCountsWrongFalsely : Prop := spanCountsRow.holds Try.pinned (OpenSpec.ofChange spanCountsWrong)

/-- 'boulterlaw09.SpanPads': WHATEVER THE INPUT: true; the input reads as it did. -/
def spanPadsSpec : ChangeSpec := { name := "spanPads", fn := fun _ => fun
  | [d] => { results := [.lit (.bool true)], args := [d] }
  | _ => none }
def spanPadsRow : OpenClaim := { program := "ytoigmmmpplghjaa", sum := "665c05bc0a9ef5547f37803eced5285f3af6652aa51c343495f8e66a8579c194", func := "boulter/boulterlaw09.SpanPads", spec := "spanPads", inPlace := ["internal/abi.NoEscape", "internal/bytealg.MakeNoZero"], apart := false }
def SpanPadsSaid : Prop := spanPadsRow.holds Try.pinned (OpenSpec.ofChange spanPadsSpec)

/-- ITS FALSE NEIGHBOUR: 'it returns false'. Refute it at one input. -/
def spanPadsWrong : ChangeSpec := { name := "spanPads", fn := fun _ => fun
  | [d] => { results := [.lit (.bool false)], args := [d] }
  | _ => none }
def SpanPadsWrongFalsely : Prop := spanPadsRow.holds Try.pinned (OpenSpec.ofChange spanPadsWrong)

/-- 'boulterlaw09.SpanUnpads': WHATEVER THE INPUT: true; the input reads as it did. -/
def spanUnpadsSpec : ChangeSpec := { name := "spanUnpads", fn := fun _ => fun
  | [d1, d2] => { results := [.lit (.bool true)], args := [d1, d2] }
  | _ => none }
def spanUnpadsRow : OpenClaim := { program := "ytoigmmmpplghjaa", sum := "665c05bc0a9ef5547f37803eced5285f3af6652aa51c343495f8e66a8579c194", func := "boulter/boulterlaw09.SpanUnpads", spec := "spanUnpads", inPlace := ["internal/abi.NoEscape", "internal/bytealg.MakeNoZero"], apart := false }
def SpanUnpadsSaid : Prop := spanUnpadsRow.holds Try.pinned (OpenSpec.ofChange spanUnpadsSpec)

/-- ITS FALSE NEIGHBOUR: 'it returns false'. Refute it at one input. -/
def spanUnpadsWrong : ChangeSpec := { name := "spanUnpads", fn := fun _ => fun
  | [d1, d2] => { results := [.lit (.bool false)], args := [d1, d2] }
  | _ => none }
def SpanUnpadsWrongFalsely : Prop := spanUnpadsRow.holds Try.pinned (OpenSpec.ofChange spanUnpadsWrong)

/- THE SECOND FORM. 'bulk': how many values and letters a reading holds, each counted each time it is reached (what is shared counts as often as it is met; a slice's spare places count too). A statement '..UptoSaid' is the law's where the arguments, and the package variables that the reading takes, are together of bulk at most 1048576: NARROWER than '..Said'. Prove '..Said' where nothing that the law and all that it calls make is longer than what came in: it says more and counts as full. Else prove '..UptoSaid'. A law counts once. -/
mutual
def uptoBulk {H : Type} : DataW H → Nat
  | .lit (.string bytes) => bytes.length + 1
  | .lit _ => 1
  | .nil => 1
  | .ptr d => uptoBulk d + 1
  | .slice elems spare => uptoBulkAll elems + uptoBulkAll spare + 1
  | .agg parts => uptoBulkAll parts + 1
  | .iface _ d => uptoBulk d + 1
  | .map entries => uptoBulkEntries entries + 1
  | .held _ => 1
def uptoBulkAll {H : Type} : List (DataW H) → Nat
  | [] => 0
  | d :: r => uptoBulk d + uptoBulkAll r
def uptoBulkEntries {H : Type} : List (Lit × DataW H) → Nat
  | [] => 0
  | x :: r => uptoBulkEntry x + uptoBulkEntries r
def uptoBulkEntry {H : Type} : Lit × DataW H → Nat
  | (.string bytes, d) => bytes.length + uptoBulk d + 1
  | (_, d) => uptoBulk d + 1
 end
def uptoSmall : (H : Type) → List (DataW H) → Bool := fun _ ds => decide (uptoBulkAll ds ≤ 1048576)
def OpenSpec.upto (s : _root_.Go.ChangeSpec) : _root_.Go.OpenSpec := { _root_.Go.OpenSpec.ofChange s with cond := some uptoSmall }

/-- 'boulterlaw09.SpanCounts', WHERE WHAT IT READS IS OF BULK AT MOST 1048576: true; the input reads as it did. -/
def spanCountsUptoRow : OpenClaim := { program := "ytoigmmmpplghjaa", sum := "665c05bc0a9ef5547f37803eced5285f3af6652aa51c343495f8e66a8579c194", func := "boulter/boulterlaw09.SpanCounts", spec := "spanCounts", inPlace := ["internal/abi.NoEscape", "internal/bytealg.MakeNoZero"], apart := false, narrowed := true }
def SpanCountsUptoSaid : Prop := spanCountsUptoRow.holds Try.pinned (OpenSpec.upto spanCountsSpec)

/-- 'boulterlaw09.SpanPads', WHERE WHAT IT READS IS OF BULK AT MOST 1048576: true; the input reads as it did. -/
def spanPadsUptoRow : OpenClaim := { program := "ytoigmmmpplghjaa", sum := "665c05bc0a9ef5547f37803eced5285f3af6652aa51c343495f8e66a8579c194", func := "boulter/boulterlaw09.SpanPads", spec := "spanPads", inPlace := ["internal/abi.NoEscape", "internal/bytealg.MakeNoZero"], apart := false, narrowed := true }
def SpanPadsUptoSaid : Prop := spanPadsUptoRow.holds Try.pinned (OpenSpec.upto spanPadsSpec)

/-- 'boulterlaw09.SpanUnpads', WHERE WHAT IT READS IS OF BULK AT MOST 1048576: true; the input reads as it did. -/
def spanUnpadsUptoRow : OpenClaim := { program := "ytoigmmmpplghjaa", sum := "665c05bc0a9ef5547f37803eced5285f3af6652aa51c343495f8e66a8579c194", func := "boulter/boulterlaw09.SpanUnpads", spec := "spanUnpads", inPlace := ["internal/abi.NoEscape", "internal/bytealg.MakeNoZero"], apart := false, narrowed := true }
def SpanUnpadsUptoSaid : Prop := spanUnpadsUptoRow.holds Try.pinned (OpenSpec.upto spanUnpadsSpec)

end Rows
end Go.Proofs.Ytoigmmmpplghjaa
