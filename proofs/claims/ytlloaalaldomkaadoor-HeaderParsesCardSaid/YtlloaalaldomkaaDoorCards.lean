/-
  DERIVED. GIVEN WITH THE SEED: THE CARDS: each row of YtlloaalaldomkaaDoorRows.lean that lists a variable, with what it lists TIED to the program's text (the seventh form; the later family's looks); each row that meets fmt, with fmt's text TOLD by the authors' own Lean function (tested against real Go, not proved from fmt's source: count such statements apart). THE CARD IS WHAT COUNTS. Prove the row's statement (the work); the ties are given (YtlloaalaldomkaaDoorTie.lean); close each card by the builder's one call (the guide's Derived/Test/ToyasCard.lean, 'card_holds'). Laid BY PROGRAM, IN A SANDBOX (cutbox-door.mjs). By AI agents, Wed Nov 11 2026. No macro, syntax, notation, axiom, sorry.
-/
import Derived.Test.YtlloaalaldomkaaDoorRows
import GoSem.ClaimSeven
namespace Go.Proofs.YtlloaalaldomkaaDoor
namespace Rows

/-- THE TIED CARD OF 'boulterlaw05.HeaderParses'. -/
def headerParsesCard : Claim7 := { stood := { row := headerParsesRow, standIns := [], harness := (true, "717cf8ab0b6f2c825e4416ab452b93c0ac76e245826cf266bedaf020421804ef"), looks := false }, kinds := [], alts := [], laidByText := true, laidKinds := [.data, .pinned], laidTests := true, laidLooks := .later }
def HeaderParsesCardSaid : Prop := Claim7.holds Tryd.pinned (.plain (OpenSpec.ofChange headerParsesSpec)) headerParsesCard

/-- THE TIED CARD OF 'boulterlaw05.HeaderBuilds'. -/
def headerBuildsCard : Claim7 := { stood := { row := headerBuildsRow, standIns := [], harness := (true, "717cf8ab0b6f2c825e4416ab452b93c0ac76e245826cf266bedaf020421804ef"), looks := false }, kinds := [], alts := [], laidByText := true, laidKinds := [.data, .pinned], laidTests := true, laidLooks := .later }
def HeaderBuildsCardSaid : Prop := Claim7.holds Tryd.pinned (.plain (OpenSpec.ofChange headerBuildsSpec)) headerBuildsCard

/-- THE TIED CARD OF 'boulterlaw05.HeaderOld'. -/
def headerOldCard : Claim7 := { stood := { row := headerOldRow, standIns := [], harness := (true, "717cf8ab0b6f2c825e4416ab452b93c0ac76e245826cf266bedaf020421804ef"), looks := false }, kinds := [], alts := [], laidByText := true, laidKinds := [.data, .pinned], laidTests := true, laidLooks := .later }
def HeaderOldCardSaid : Prop := Claim7.holds Tryd.pinned (.plain (OpenSpec.ofChange headerOldSpec)) headerOldCard

/-- THE SECOND FORM's CARD OF 'boulterlaw05.HeaderParses'. -/
def headerParsesUptoCard : Claim7 := { stood := { row := headerParsesUptoRow, standIns := [], harness := (true, "717cf8ab0b6f2c825e4416ab452b93c0ac76e245826cf266bedaf020421804ef"), looks := false }, kinds := [], alts := [], laidByText := true, laidKinds := [.data, .pinned], laidTests := true, laidLooks := .later }
def HeaderParsesUptoCardSaid : Prop := Claim7.holds Tryd.pinned (.plain (OpenSpec.upto headerParsesSpec)) headerParsesUptoCard

/-- THE SECOND FORM's CARD OF 'boulterlaw05.HeaderBuilds'. -/
def headerBuildsUptoCard : Claim7 := { stood := { row := headerBuildsUptoRow, standIns := [], harness := (true, "717cf8ab0b6f2c825e4416ab452b93c0ac76e245826cf266bedaf020421804ef"), looks := false }, kinds := [], alts := [], laidByText := true, laidKinds := [.data, .pinned], laidTests := true, laidLooks := .later }
def HeaderBuildsUptoCardSaid : Prop := Claim7.holds Tryd.pinned (.plain (OpenSpec.upto headerBuildsSpec)) headerBuildsUptoCard

/-- THE SECOND FORM's CARD OF 'boulterlaw05.HeaderOld'. -/
def headerOldUptoCard : Claim7 := { stood := { row := headerOldUptoRow, standIns := [], harness := (true, "717cf8ab0b6f2c825e4416ab452b93c0ac76e245826cf266bedaf020421804ef"), looks := false }, kinds := [], alts := [], laidByText := true, laidKinds := [.data, .pinned], laidTests := true, laidLooks := .later }
def HeaderOldUptoCardSaid : Prop := Claim7.holds Tryd.pinned (.plain (OpenSpec.upto headerOldSpec)) headerOldUptoCard
end Rows
end Go.Proofs.YtlloaalaldomkaaDoor
