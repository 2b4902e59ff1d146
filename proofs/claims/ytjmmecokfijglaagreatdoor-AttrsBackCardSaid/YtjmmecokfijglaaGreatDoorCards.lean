/-
  DERIVED. GIVEN WITH THE SEED: THE CARDS: each row of YtjmmecokfijglaaGreatDoorRows.lean that lists a variable, with what it lists TIED to the program's text (the seventh form; the later family's looks); each row that meets fmt, with fmt's text TOLD by the authors' own Lean function (tested against real Go, not proved from fmt's source: count such statements apart). THE CARD IS WHAT COUNTS. Prove the row's statement (the work); the ties are given (YtjmmecokfijglaaGreatDoorTie.lean); close each card by the builder's one call (the guide's Derived/Test/ToyasCard.lean, 'card_holds'). Laid BY PROGRAM, IN A SANDBOX (cutbox-door.mjs). By AI agents, Wed Nov 11 2026. No macro, syntax, notation, axiom, sorry.
-/
import Derived.Test.YtjmmecokfijglaaGreatDoorRows
import GoSem.ClaimSeven
namespace Go.Proofs.YtjmmecokfijglaaGreatDoor
namespace Rows

/-- THE TIED CARD OF 'boulterlaw07.AttrsMerge'. -/
def attrsMergeCard : Claim7 := { stood := { row := attrsMergeRow, standIns := [], harness := (true, "a421a81a18dfbd66cc852871e7ab78106d40718fbffc25c40b4f3692a4d2f2da"), looks := true }, kinds := [], alts := [], laidByText := true, laidKinds := [.data, .data, .data, .data, .pinned], laidTests := true, laidLooks := .later }
def AttrsMergeCardSaid : Prop := Claim7.holds Tryz.pinned (.plain (OpenSpec.ofChange attrsMergeSpec)) attrsMergeCard

/-- THE TIED CARD OF 'boulterlaw07.AttrsApply'. -/
def attrsApplyCard : Claim7 := { stood := { row := attrsApplyRow, standIns := [], harness := (true, "a421a81a18dfbd66cc852871e7ab78106d40718fbffc25c40b4f3692a4d2f2da"), looks := true }, kinds := [], alts := [], laidByText := true, laidKinds := [.data, .data, .data, .data, .pinned], laidTests := true, laidLooks := .later }
def AttrsApplyCardSaid : Prop := Claim7.holds Tryz.pinned (.plain (OpenSpec.ofChange attrsApplySpec)) attrsApplyCard

/-- THE TIED CARD OF 'boulterlaw07.AttrsBack'. -/
def attrsBackCard : Claim7 := { stood := { row := attrsBackRow, standIns := [], harness := (true, "a421a81a18dfbd66cc852871e7ab78106d40718fbffc25c40b4f3692a4d2f2da"), looks := true }, kinds := [], alts := [], laidByText := true, laidKinds := [.data, .data, .data, .data, .pinned], laidTests := true, laidLooks := .later }
def AttrsBackCardSaid : Prop := Claim7.holds Tryz.pinned (.plain (OpenSpec.ofChange attrsBackSpec)) attrsBackCard

/-- THE TIED CARD OF 'boulterlaw10.ReaderParts'. -/
def readerPartsCard : Claim7 := { stood := { row := readerPartsRow, standIns := [], harness := (true, "a421a81a18dfbd66cc852871e7ab78106d40718fbffc25c40b4f3692a4d2f2da"), looks := true }, kinds := [], alts := [], laidByText := true, laidKinds := [.data, .data, .data, .data, .sentinel, .sentinel, .pinned], laidTests := true, laidLooks := .later }
def ReaderPartsCardSaid : Prop := Claim7.holds Tryz.pinned (.plain (OpenSpec.ofChange readerPartsSpec)) readerPartsCard

/-- THE TIED CARD OF 'boulterlaw10.ReaderChunks'. -/
def readerChunksCard : Claim7 := { stood := { row := readerChunksRow, standIns := [], harness := (true, "a421a81a18dfbd66cc852871e7ab78106d40718fbffc25c40b4f3692a4d2f2da"), looks := true }, kinds := [], alts := [], laidByText := true, laidKinds := [.data, .data, .data, .data, .sentinel, .sentinel, .pinned], laidTests := true, laidLooks := .later }
def ReaderChunksCardSaid : Prop := Claim7.holds Tryz.pinned (.plain (OpenSpec.ofChange readerChunksSpec)) readerChunksCard

/-- THE SECOND FORM's CARD OF 'boulterlaw07.AttrsMerge'. -/
def attrsMergeUptoCard : Claim7 := { stood := { row := attrsMergeUptoRow, standIns := [], harness := (true, "a421a81a18dfbd66cc852871e7ab78106d40718fbffc25c40b4f3692a4d2f2da"), looks := true }, kinds := [], alts := [], laidByText := true, laidKinds := [.data, .data, .data, .data, .pinned], laidTests := true, laidLooks := .later }
def AttrsMergeUptoCardSaid : Prop := Claim7.holds Tryz.pinned (.plain (OpenSpec.upto attrsMergeSpec)) attrsMergeUptoCard

/-- THE SECOND FORM's CARD OF 'boulterlaw07.AttrsApply'. -/
def attrsApplyUptoCard : Claim7 := { stood := { row := attrsApplyUptoRow, standIns := [], harness := (true, "a421a81a18dfbd66cc852871e7ab78106d40718fbffc25c40b4f3692a4d2f2da"), looks := true }, kinds := [], alts := [], laidByText := true, laidKinds := [.data, .data, .data, .data, .pinned], laidTests := true, laidLooks := .later }
def AttrsApplyUptoCardSaid : Prop := Claim7.holds Tryz.pinned (.plain (OpenSpec.upto attrsApplySpec)) attrsApplyUptoCard

/-- THE SECOND FORM's CARD OF 'boulterlaw07.AttrsBack'. -/
def attrsBackUptoCard : Claim7 := { stood := { row := attrsBackUptoRow, standIns := [], harness := (true, "a421a81a18dfbd66cc852871e7ab78106d40718fbffc25c40b4f3692a4d2f2da"), looks := true }, kinds := [], alts := [], laidByText := true, laidKinds := [.data, .data, .data, .data, .pinned], laidTests := true, laidLooks := .later }
def AttrsBackUptoCardSaid : Prop := Claim7.holds Tryz.pinned (.plain (OpenSpec.upto attrsBackSpec)) attrsBackUptoCard

/-- THE SECOND FORM's CARD OF 'boulterlaw10.ReaderParts'. -/
def readerPartsUptoCard : Claim7 := { stood := { row := readerPartsUptoRow, standIns := [], harness := (true, "a421a81a18dfbd66cc852871e7ab78106d40718fbffc25c40b4f3692a4d2f2da"), looks := true }, kinds := [], alts := [], laidByText := true, laidKinds := [.data, .data, .data, .data, .sentinel, .sentinel, .pinned], laidTests := true, laidLooks := .later }
def ReaderPartsUptoCardSaid : Prop := Claim7.holds Tryz.pinned (.plain (OpenSpec.upto readerPartsSpec)) readerPartsUptoCard

/-- THE SECOND FORM's CARD OF 'boulterlaw10.ReaderChunks'. -/
def readerChunksUptoCard : Claim7 := { stood := { row := readerChunksUptoRow, standIns := [], harness := (true, "a421a81a18dfbd66cc852871e7ab78106d40718fbffc25c40b4f3692a4d2f2da"), looks := true }, kinds := [], alts := [], laidByText := true, laidKinds := [.data, .data, .data, .data, .sentinel, .sentinel, .pinned], laidTests := true, laidLooks := .later }
def ReaderChunksUptoCardSaid : Prop := Claim7.holds Tryz.pinned (.plain (OpenSpec.upto readerChunksSpec)) readerChunksUptoCard
end Rows
end Go.Proofs.YtjmmecokfijglaaGreatDoor
