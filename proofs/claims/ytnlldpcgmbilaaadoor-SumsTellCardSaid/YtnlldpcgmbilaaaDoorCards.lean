/-
  DERIVED. GIVEN WITH THE SEED: THE CARDS: each row of YtnlldpcgmbilaaaDoorRows.lean that lists a variable, with what it lists TIED to the program's text (the seventh form; the later family's looks); each row that meets fmt, with fmt's text TOLD by the authors' own Lean function (tested against real Go, not proved from fmt's source: count such statements apart). THE CARD IS WHAT COUNTS. Prove the row's statement (the work); the ties are given (YtnlldpcgmbilaaaDoorTie.lean); close each card by the builder's one call (the guide's Derived/Test/ToyasCard.lean, 'card_holds'). Laid BY PROGRAM, IN A SANDBOX (cutbox-door.mjs). By AI agents, Wed Nov 11 2026. No macro, syntax, notation, axiom, sorry.
-/
import Derived.Test.YtnlldpcgmbilaaaDoorRows
import GoSem.ClaimSeven
namespace Go.Proofs.YtnlldpcgmbilaaaDoor
namespace Rows

/-- THE TIED CARD OF 'boulterlaw03.SumsTell'. -/
def sumsTellCard : Claim7 := { stood := { row := sumsTellRow, standIns := [], harness := (true, "9b44be65e81c649fee9ff417e719a1ad7e3410e43ca380d8d6e2369969593a01"), looks := false }, kinds := [], alts := [], laidByText := true, laidKinds := [.data, .pinned], laidTests := true, laidLooks := .later }
def SumsTellCardSaid : Prop := Claim7.holds Tryd.pinned (.plain (OpenSpec.ofChange sumsTellSpec)) sumsTellCard

/-- THE TIED CARD OF 'boulterlaw03.SumsSeal'. -/
def sumsSealCard : Claim7 := { stood := { row := sumsSealRow, standIns := [], harness := (true, "9b44be65e81c649fee9ff417e719a1ad7e3410e43ca380d8d6e2369969593a01"), looks := false }, kinds := [], alts := [], laidByText := true, laidKinds := [.data, .pinned], laidTests := true, laidLooks := .later }
def SumsSealCardSaid : Prop := Claim7.holds Tryd.pinned (.plain (OpenSpec.ofChange sumsSealSpec)) sumsSealCard

/-- THE TIED CARD OF 'boulterlaw03.SumsSpoilt'. -/
def sumsSpoiltCard : Claim7 := { stood := { row := sumsSpoiltRow, standIns := [], harness := (true, "9b44be65e81c649fee9ff417e719a1ad7e3410e43ca380d8d6e2369969593a01"), looks := false }, kinds := [], alts := [], laidByText := true, laidKinds := [.data, .pinned], laidTests := true, laidLooks := .later }
def SumsSpoiltCardSaid : Prop := Claim7.holds Tryd.pinned (.plain (OpenSpec.ofChange sumsSpoiltSpec)) sumsSpoiltCard

/-- THE SECOND FORM's CARD OF 'boulterlaw03.SumsTell'. -/
def sumsTellUptoCard : Claim7 := { stood := { row := sumsTellUptoRow, standIns := [], harness := (true, "9b44be65e81c649fee9ff417e719a1ad7e3410e43ca380d8d6e2369969593a01"), looks := false }, kinds := [], alts := [], laidByText := true, laidKinds := [.data, .pinned], laidTests := true, laidLooks := .later }
def SumsTellUptoCardSaid : Prop := Claim7.holds Tryd.pinned (.plain (OpenSpec.upto sumsTellSpec)) sumsTellUptoCard

/-- THE SECOND FORM's CARD OF 'boulterlaw03.SumsSeal'. -/
def sumsSealUptoCard : Claim7 := { stood := { row := sumsSealUptoRow, standIns := [], harness := (true, "9b44be65e81c649fee9ff417e719a1ad7e3410e43ca380d8d6e2369969593a01"), looks := false }, kinds := [], alts := [], laidByText := true, laidKinds := [.data, .pinned], laidTests := true, laidLooks := .later }
def SumsSealUptoCardSaid : Prop := Claim7.holds Tryd.pinned (.plain (OpenSpec.upto sumsSealSpec)) sumsSealUptoCard

/-- THE SECOND FORM's CARD OF 'boulterlaw03.SumsSpoilt'. -/
def sumsSpoiltUptoCard : Claim7 := { stood := { row := sumsSpoiltUptoRow, standIns := [], harness := (true, "9b44be65e81c649fee9ff417e719a1ad7e3410e43ca380d8d6e2369969593a01"), looks := false }, kinds := [], alts := [], laidByText := true, laidKinds := [.data, .pinned], laidTests := true, laidLooks := .later }
def SumsSpoiltUptoCardSaid : Prop := Claim7.holds Tryd.pinned (.plain (OpenSpec.upto sumsSpoiltSpec)) sumsSpoiltUptoCard
end Rows
end Go.Proofs.YtnlldpcgmbilaaaDoor
