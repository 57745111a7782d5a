/-
  DERIVED. GIVEN WITH THE SEED: THE CARDS: each row of YtknkpmkpcfiefaaDoorRows.lean that lists a variable, with what it lists TIED to the program's text (the seventh form; the later family's looks); each row that meets fmt, with fmt's text TOLD by the authors' own Lean function (tested against real Go, not proved from fmt's source: count such statements apart). THE CARD IS WHAT COUNTS. Prove the row's statement (the work); the ties are given (YtknkpmkpcfiefaaDoorTie.lean); close each card by the builder's one call (the guide's Derived/Test/ToyasCard.lean, 'card_holds'). Laid BY PROGRAM, IN A SANDBOX (cutbox-door.mjs). By AI agents, Wed Nov 11 2026. No macro, syntax, notation, axiom, sorry.
-/
import Derived.Test.YtknkpmkpcfiefaaDoorRows
import GoSem.ClaimSeven
namespace Go.Proofs.YtknkpmkpcfiefaaDoor
namespace Rows

/-- THE TIED CARD OF 'spunyarnlaw05.FieldPuts'. -/
def fieldPutsCard : Claim7 := { stood := { row := fieldPutsRow, standIns := [], harness := (true, "b778a074f516ebbd7e24bb470e7fb8df3ea2dfa58039f347fea5aac0215431aa"), looks := false }, kinds := [], alts := [], laidByText := true, laidKinds := [.data], laidTests := true, laidLooks := .later }
def FieldPutsCardSaid : Prop := Claim7.holds Tryd.pinned (.plain (OpenSpec.ofChange fieldPutsSpec)) fieldPutsCard

/-- THE TIED CARD OF 'spunyarnlaw05.FieldTakes'. -/
def fieldTakesCard : Claim7 := { stood := { row := fieldTakesRow, standIns := [], harness := (true, "b778a074f516ebbd7e24bb470e7fb8df3ea2dfa58039f347fea5aac0215431aa"), looks := false }, kinds := [], alts := [], laidByText := true, laidKinds := [.data], laidTests := true, laidLooks := .later }
def FieldTakesCardSaid : Prop := Claim7.holds Tryd.pinned (.plain (OpenSpec.ofChange fieldTakesSpec)) fieldTakesCard

/-- THE TIED CARD OF 'spunyarnlaw05.FieldOrder'. -/
def fieldOrderCard : Claim7 := { stood := { row := fieldOrderRow, standIns := [], harness := (true, "b778a074f516ebbd7e24bb470e7fb8df3ea2dfa58039f347fea5aac0215431aa"), looks := false }, kinds := [], alts := [], laidByText := true, laidKinds := [.data], laidTests := true, laidLooks := .later }
def FieldOrderCardSaid : Prop := Claim7.holds Tryd.pinned (.plain (OpenSpec.ofChange fieldOrderSpec)) fieldOrderCard

/-- THE SECOND FORM's CARD OF 'spunyarnlaw05.FieldPuts'. -/
def fieldPutsUptoCard : Claim7 := { stood := { row := fieldPutsUptoRow, standIns := [], harness := (true, "b778a074f516ebbd7e24bb470e7fb8df3ea2dfa58039f347fea5aac0215431aa"), looks := false }, kinds := [], alts := [], laidByText := true, laidKinds := [.data], laidTests := true, laidLooks := .later }
def FieldPutsUptoCardSaid : Prop := Claim7.holds Tryd.pinned (.plain (OpenSpec.upto fieldPutsSpec)) fieldPutsUptoCard

/-- THE SECOND FORM's CARD OF 'spunyarnlaw05.FieldTakes'. -/
def fieldTakesUptoCard : Claim7 := { stood := { row := fieldTakesUptoRow, standIns := [], harness := (true, "b778a074f516ebbd7e24bb470e7fb8df3ea2dfa58039f347fea5aac0215431aa"), looks := false }, kinds := [], alts := [], laidByText := true, laidKinds := [.data], laidTests := true, laidLooks := .later }
def FieldTakesUptoCardSaid : Prop := Claim7.holds Tryd.pinned (.plain (OpenSpec.upto fieldTakesSpec)) fieldTakesUptoCard

/-- THE SECOND FORM's CARD OF 'spunyarnlaw05.FieldOrder'. -/
def fieldOrderUptoCard : Claim7 := { stood := { row := fieldOrderUptoRow, standIns := [], harness := (true, "b778a074f516ebbd7e24bb470e7fb8df3ea2dfa58039f347fea5aac0215431aa"), looks := false }, kinds := [], alts := [], laidByText := true, laidKinds := [.data], laidTests := true, laidLooks := .later }
def FieldOrderUptoCardSaid : Prop := Claim7.holds Tryd.pinned (.plain (OpenSpec.upto fieldOrderSpec)) fieldOrderUptoCard
end Rows
end Go.Proofs.YtknkpmkpcfiefaaDoor
