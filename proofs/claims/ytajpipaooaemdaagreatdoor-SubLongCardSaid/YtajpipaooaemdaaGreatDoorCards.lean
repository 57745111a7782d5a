/-
  DERIVED. GIVEN WITH THE SEED: THE CARDS: each row of YtajpipaooaemdaaGreatDoorRows.lean that lists a variable, with what it lists TIED to the program's text (the seventh form; the later family's looks); each row that meets fmt, with fmt's text TOLD by the authors' own Lean function (tested against real Go, not proved from fmt's source: count such statements apart). THE CARD IS WHAT COUNTS. Prove the row's statement (the work); the ties are given (YtajpipaooaemdaaGreatDoorTie.lean); close each card by the builder's one call (the guide's Derived/Test/ToyasCard.lean, 'card_holds'). Laid BY PROGRAM, IN A SANDBOX (cutbox-door.mjs). By AI agents, Wed Nov 11 2026. No macro, syntax, notation, axiom, sorry.
-/
import Derived.Test.YtajpipaooaemdaaGreatDoorRows
import GoSem.ClaimSeven
namespace Go.Proofs.YtajpipaooaemdaaGreatDoor
namespace Rows

/-- THE TIED CARD OF 'spunyarnlaw18.SubIs'. -/
def subIsCard : Claim7 := { stood := { row := subIsRow, standIns := [], harness := (true, "cb62487e556d031f165417bc2170b7952e382358db3d565c5e36226cc4c20bca"), looks := false }, kinds := [], alts := [], laidByText := true, laidKinds := [.data, .data, .data], laidTests := true, laidLooks := .later }
def SubIsCardSaid : Prop := Claim7.holds Tryz.pinned (.plain (OpenSpec.ofChange subIsSpec)) subIsCard

/-- THE TIED CARD OF 'spunyarnlaw18.SubUnder'. -/
def subUnderCard : Claim7 := { stood := { row := subUnderRow, standIns := [], harness := (true, "cb62487e556d031f165417bc2170b7952e382358db3d565c5e36226cc4c20bca"), looks := false }, kinds := [], alts := [], laidByText := true, laidKinds := [.data, .data, .data], laidTests := true, laidLooks := .later }
def SubUnderCardSaid : Prop := Claim7.holds Tryz.pinned (.plain (OpenSpec.ofChange subUnderSpec)) subUnderCard

/-- THE TIED CARD OF 'spunyarnlaw18.SubLong'. -/
def subLongCard : Claim7 := { stood := { row := subLongRow, standIns := [], harness := (true, "cb62487e556d031f165417bc2170b7952e382358db3d565c5e36226cc4c20bca"), looks := false }, kinds := [], alts := [], laidByText := true, laidKinds := [.data, .data, .data], laidTests := true, laidLooks := .later }
def SubLongCardSaid : Prop := Claim7.holds Tryz.pinned (.plain (OpenSpec.ofChange subLongSpec)) subLongCard

/-- THE SECOND FORM's CARD OF 'spunyarnlaw18.SubIs'. -/
def subIsUptoCard : Claim7 := { stood := { row := subIsUptoRow, standIns := [], harness := (true, "cb62487e556d031f165417bc2170b7952e382358db3d565c5e36226cc4c20bca"), looks := false }, kinds := [], alts := [], laidByText := true, laidKinds := [.data, .data, .data], laidTests := true, laidLooks := .later }
def SubIsUptoCardSaid : Prop := Claim7.holds Tryz.pinned (.plain (OpenSpec.upto subIsSpec)) subIsUptoCard

/-- THE SECOND FORM's CARD OF 'spunyarnlaw18.SubUnder'. -/
def subUnderUptoCard : Claim7 := { stood := { row := subUnderUptoRow, standIns := [], harness := (true, "cb62487e556d031f165417bc2170b7952e382358db3d565c5e36226cc4c20bca"), looks := false }, kinds := [], alts := [], laidByText := true, laidKinds := [.data, .data, .data], laidTests := true, laidLooks := .later }
def SubUnderUptoCardSaid : Prop := Claim7.holds Tryz.pinned (.plain (OpenSpec.upto subUnderSpec)) subUnderUptoCard

/-- THE SECOND FORM's CARD OF 'spunyarnlaw18.SubLong'. -/
def subLongUptoCard : Claim7 := { stood := { row := subLongUptoRow, standIns := [], harness := (true, "cb62487e556d031f165417bc2170b7952e382358db3d565c5e36226cc4c20bca"), looks := false }, kinds := [], alts := [], laidByText := true, laidKinds := [.data, .data, .data], laidTests := true, laidLooks := .later }
def SubLongUptoCardSaid : Prop := Claim7.holds Tryz.pinned (.plain (OpenSpec.upto subLongSpec)) subLongUptoCard
end Rows
end Go.Proofs.YtajpipaooaemdaaGreatDoor
