/-
  DERIVED. GIVEN WITH THE SEED: THE CARDS: each row of YtdpddkpfllioiaaDoorRows.lean that lists a variable, with what it lists TIED to the program's text (the seventh form; the later family's looks); each row that meets fmt, with fmt's text TOLD by the authors' own Lean function (tested against real Go, not proved from fmt's source: count such statements apart). THE CARD IS WHAT COUNTS. Prove the row's statement (the work); the ties are given (YtdpddkpfllioiaaDoorTie.lean); close each card by the builder's one call (the guide's Derived/Test/ToyasCard.lean, 'card_holds'). Laid BY PROGRAM, IN A SANDBOX (cutbox-door.mjs). By AI agents, Wed Nov 11 2026. No macro, syntax, notation, axiom, sorry.
-/
import Derived.Test.YtdpddkpfllioiaaDoorRows
import GoSem.ClaimSeven
namespace Go.Proofs.YtdpddkpfllioiaaDoor
namespace Rows

/-- THE TIED CARD OF 'spunyarnlaw06.TuplePuts'. -/
def tuplePutsCard : Claim7 := { stood := { row := tuplePutsRow, standIns := [], harness := (true, "2b3ab6fdd23673cb197ffcf6e679223a8f267f955a5354e2c3c9aac283868c49"), looks := false }, kinds := [], alts := [], laidByText := true, laidKinds := [.data, .data], laidTests := true, laidLooks := .later }
def TuplePutsCardSaid : Prop := Claim7.holds Tryd.pinned (.plain (OpenSpec.ofChange tuplePutsSpec)) tuplePutsCard

/-- THE TIED CARD OF 'spunyarnlaw06.TupleGets'. -/
def tupleGetsCard : Claim7 := { stood := { row := tupleGetsRow, standIns := [], harness := (true, "2b3ab6fdd23673cb197ffcf6e679223a8f267f955a5354e2c3c9aac283868c49"), looks := false }, kinds := [], alts := [], laidByText := true, laidKinds := [.data, .data], laidTests := true, laidLooks := .later }
def TupleGetsCardSaid : Prop := Claim7.holds Tryd.pinned (.plain (OpenSpec.ofChange tupleGetsSpec)) tupleGetsCard

/-- THE TIED CARD OF 'spunyarnlaw06.TupleParses'. -/
def tupleParsesCard : Claim7 := { stood := { row := tupleParsesRow, standIns := [], harness := (true, "2b3ab6fdd23673cb197ffcf6e679223a8f267f955a5354e2c3c9aac283868c49"), looks := false }, kinds := [], alts := [], laidByText := true, laidKinds := [.data, .data], laidTests := true, laidLooks := .later }
def TupleParsesCardSaid : Prop := Claim7.holds Tryd.pinned (.plain (OpenSpec.ofChange tupleParsesSpec)) tupleParsesCard

/-- THE TIED CARD OF 'spunyarnlaw06.TupleOrder'. -/
def tupleOrderCard : Claim7 := { stood := { row := tupleOrderRow, standIns := [], harness := (true, "2b3ab6fdd23673cb197ffcf6e679223a8f267f955a5354e2c3c9aac283868c49"), looks := false }, kinds := [], alts := [], laidByText := true, laidKinds := [.data, .data], laidTests := true, laidLooks := .later }
def TupleOrderCardSaid : Prop := Claim7.holds Tryd.pinned (.plain (OpenSpec.ofChange tupleOrderSpec)) tupleOrderCard

/-- THE SECOND FORM's CARD OF 'spunyarnlaw06.TuplePuts'. -/
def tuplePutsUptoCard : Claim7 := { stood := { row := tuplePutsUptoRow, standIns := [], harness := (true, "2b3ab6fdd23673cb197ffcf6e679223a8f267f955a5354e2c3c9aac283868c49"), looks := false }, kinds := [], alts := [], laidByText := true, laidKinds := [.data, .data], laidTests := true, laidLooks := .later }
def TuplePutsUptoCardSaid : Prop := Claim7.holds Tryd.pinned (.plain (OpenSpec.upto tuplePutsSpec)) tuplePutsUptoCard

/-- THE SECOND FORM's CARD OF 'spunyarnlaw06.TupleGets'. -/
def tupleGetsUptoCard : Claim7 := { stood := { row := tupleGetsUptoRow, standIns := [], harness := (true, "2b3ab6fdd23673cb197ffcf6e679223a8f267f955a5354e2c3c9aac283868c49"), looks := false }, kinds := [], alts := [], laidByText := true, laidKinds := [.data, .data], laidTests := true, laidLooks := .later }
def TupleGetsUptoCardSaid : Prop := Claim7.holds Tryd.pinned (.plain (OpenSpec.upto tupleGetsSpec)) tupleGetsUptoCard

/-- THE SECOND FORM's CARD OF 'spunyarnlaw06.TupleParses'. -/
def tupleParsesUptoCard : Claim7 := { stood := { row := tupleParsesUptoRow, standIns := [], harness := (true, "2b3ab6fdd23673cb197ffcf6e679223a8f267f955a5354e2c3c9aac283868c49"), looks := false }, kinds := [], alts := [], laidByText := true, laidKinds := [.data, .data], laidTests := true, laidLooks := .later }
def TupleParsesUptoCardSaid : Prop := Claim7.holds Tryd.pinned (.plain (OpenSpec.upto tupleParsesSpec)) tupleParsesUptoCard

/-- THE SECOND FORM's CARD OF 'spunyarnlaw06.TupleOrder'. -/
def tupleOrderUptoCard : Claim7 := { stood := { row := tupleOrderUptoRow, standIns := [], harness := (true, "2b3ab6fdd23673cb197ffcf6e679223a8f267f955a5354e2c3c9aac283868c49"), looks := false }, kinds := [], alts := [], laidByText := true, laidKinds := [.data, .data], laidTests := true, laidLooks := .later }
def TupleOrderUptoCardSaid : Prop := Claim7.holds Tryd.pinned (.plain (OpenSpec.upto tupleOrderSpec)) tupleOrderUptoCard
end Rows
end Go.Proofs.YtdpddkpfllioiaaDoor
