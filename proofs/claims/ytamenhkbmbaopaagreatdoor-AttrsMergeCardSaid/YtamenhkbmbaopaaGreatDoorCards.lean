/-
  DERIVED. GIVEN WITH THE SEED: THE CARDS: each row of YtamenhkbmbaopaaGreatDoorRows.lean that lists a variable, with what it lists TIED to the program's text (the seventh form; the later family's looks); each row that meets fmt, with fmt's text TOLD by the authors' own Lean function (tested against real Go, not proved from fmt's source: count such statements apart). THE CARD IS WHAT COUNTS. Prove the row's statement (the work); the ties are given (YtamenhkbmbaopaaGreatDoorTie.lean); close each card by the builder's one call (the guide's Derived/Test/ToyasCard.lean, 'card_holds'). Laid BY PROGRAM, IN A SANDBOX (cutbox-door.mjs). By AI agents, Wed Nov 11 2026. No macro, syntax, notation, axiom, sorry.
-/
import Derived.Test.YtamenhkbmbaopaaGreatDoorRows
import GoSem.ClaimSeven
namespace Go.Proofs.YtamenhkbmbaopaaGreatDoor
namespace Rows

/-- THE TIED CARD OF 'boulterlaw07.AttrsMerge'. -/
def attrsMergeCard : Claim7 := { stood := { row := attrsMergeRow, standIns := [], harness := (true, "569df37a35c3ac72816c3220dcf50c89f95a38a8e0043a853e55e19d4bd27632"), looks := false }, kinds := [], alts := [], laidByText := true, laidKinds := [.data, .data, .data, .data, .pinned], laidTests := true, laidLooks := .later }
def AttrsMergeCardSaid : Prop := Claim7.holds Tryz.pinned (.plain (OpenSpec.ofChange attrsMergeSpec)) attrsMergeCard

/-- THE TIED CARD OF 'boulterlaw07.AttrsApply'. -/
def attrsApplyCard : Claim7 := { stood := { row := attrsApplyRow, standIns := [], harness := (true, "569df37a35c3ac72816c3220dcf50c89f95a38a8e0043a853e55e19d4bd27632"), looks := false }, kinds := [], alts := [], laidByText := true, laidKinds := [.data, .data, .data, .data, .pinned], laidTests := true, laidLooks := .later }
def AttrsApplyCardSaid : Prop := Claim7.holds Tryz.pinned (.plain (OpenSpec.ofChange attrsApplySpec)) attrsApplyCard

/-- THE TIED CARD OF 'boulterlaw07.AttrsBack'. -/
def attrsBackCard : Claim7 := { stood := { row := attrsBackRow, standIns := [], harness := (true, "569df37a35c3ac72816c3220dcf50c89f95a38a8e0043a853e55e19d4bd27632"), looks := false }, kinds := [], alts := [], laidByText := true, laidKinds := [.data, .data, .data, .data, .pinned], laidTests := true, laidLooks := .later }
def AttrsBackCardSaid : Prop := Claim7.holds Tryz.pinned (.plain (OpenSpec.ofChange attrsBackSpec)) attrsBackCard

/-- THE SECOND FORM's CARD OF 'boulterlaw07.AttrsMerge'. -/
def attrsMergeUptoCard : Claim7 := { stood := { row := attrsMergeUptoRow, standIns := [], harness := (true, "569df37a35c3ac72816c3220dcf50c89f95a38a8e0043a853e55e19d4bd27632"), looks := false }, kinds := [], alts := [], laidByText := true, laidKinds := [.data, .data, .data, .data, .pinned], laidTests := true, laidLooks := .later }
def AttrsMergeUptoCardSaid : Prop := Claim7.holds Tryz.pinned (.plain (OpenSpec.upto attrsMergeSpec)) attrsMergeUptoCard

/-- THE SECOND FORM's CARD OF 'boulterlaw07.AttrsApply'. -/
def attrsApplyUptoCard : Claim7 := { stood := { row := attrsApplyUptoRow, standIns := [], harness := (true, "569df37a35c3ac72816c3220dcf50c89f95a38a8e0043a853e55e19d4bd27632"), looks := false }, kinds := [], alts := [], laidByText := true, laidKinds := [.data, .data, .data, .data, .pinned], laidTests := true, laidLooks := .later }
def AttrsApplyUptoCardSaid : Prop := Claim7.holds Tryz.pinned (.plain (OpenSpec.upto attrsApplySpec)) attrsApplyUptoCard

/-- THE SECOND FORM's CARD OF 'boulterlaw07.AttrsBack'. -/
def attrsBackUptoCard : Claim7 := { stood := { row := attrsBackUptoRow, standIns := [], harness := (true, "569df37a35c3ac72816c3220dcf50c89f95a38a8e0043a853e55e19d4bd27632"), looks := false }, kinds := [], alts := [], laidByText := true, laidKinds := [.data, .data, .data, .data, .pinned], laidTests := true, laidLooks := .later }
def AttrsBackUptoCardSaid : Prop := Claim7.holds Tryz.pinned (.plain (OpenSpec.upto attrsBackSpec)) attrsBackUptoCard
end Rows
end Go.Proofs.YtamenhkbmbaopaaGreatDoor
