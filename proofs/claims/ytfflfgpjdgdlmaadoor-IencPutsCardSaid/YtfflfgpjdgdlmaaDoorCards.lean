/-
  DERIVED. GIVEN WITH THE SEED: THE CARDS: each row of YtfflfgpjdgdlmaaDoorRows.lean that lists a variable, with what it lists TIED to the program's text (the seventh form; the later family's looks); each row that meets fmt, with fmt's text TOLD by the authors' own Lean function (tested against real Go, not proved from fmt's source: count such statements apart). THE CARD IS WHAT COUNTS. Prove the row's statement (the work); the ties are given (YtfflfgpjdgdlmaaDoorTie.lean); close each card by the builder's one call (the guide's Derived/Test/ToyasCard.lean, 'card_holds'). Laid BY PROGRAM, IN A SANDBOX (cutbox-door.mjs). By AI agents, Wed Nov 11 2026. No macro, syntax, notation, axiom, sorry.
-/
import Derived.Test.YtfflfgpjdgdlmaaDoorRows
import GoSem.ClaimSeven
namespace Go.Proofs.YtfflfgpjdgdlmaaDoor
namespace Rows

/-- THE TIED CARD OF 'spunyarnlaw03.IencPuts'. -/
def iencPutsCard : Claim7 := { stood := { row := iencPutsRow, standIns := [], harness := (true, "89f9ad1b27713b4643e85a6d0e0885f1984f7c3f7dceb5852882c2efd8f18885"), looks := false }, kinds := [], alts := [], laidByText := true, laidKinds := [.data], laidTests := true, laidLooks := .later }
def IencPutsCardSaid : Prop := Claim7.holds Tryd.pinned (.plain (OpenSpec.ofChange iencPutsSpec)) iencPutsCard

/-- THE TIED CARD OF 'spunyarnlaw03.IencTakes'. -/
def iencTakesCard : Claim7 := { stood := { row := iencTakesRow, standIns := [], harness := (true, "89f9ad1b27713b4643e85a6d0e0885f1984f7c3f7dceb5852882c2efd8f18885"), looks := false }, kinds := [], alts := [], laidByText := true, laidKinds := [.data], laidTests := true, laidLooks := .later }
def IencTakesCardSaid : Prop := Claim7.holds Tryd.pinned (.plain (OpenSpec.ofChange iencTakesSpec)) iencTakesCard

/-- THE TIED CARD OF 'spunyarnlaw03.IencOrder'. -/
def iencOrderCard : Claim7 := { stood := { row := iencOrderRow, standIns := [], harness := (true, "89f9ad1b27713b4643e85a6d0e0885f1984f7c3f7dceb5852882c2efd8f18885"), looks := false }, kinds := [], alts := [], laidByText := true, laidKinds := [.data], laidTests := true, laidLooks := .later }
def IencOrderCardSaid : Prop := Claim7.holds Tryd.pinned (.plain (OpenSpec.ofChange iencOrderSpec)) iencOrderCard

/-- THE SECOND FORM's CARD OF 'spunyarnlaw03.IencPuts'. -/
def iencPutsUptoCard : Claim7 := { stood := { row := iencPutsUptoRow, standIns := [], harness := (true, "89f9ad1b27713b4643e85a6d0e0885f1984f7c3f7dceb5852882c2efd8f18885"), looks := false }, kinds := [], alts := [], laidByText := true, laidKinds := [.data], laidTests := true, laidLooks := .later }
def IencPutsUptoCardSaid : Prop := Claim7.holds Tryd.pinned (.plain (OpenSpec.upto iencPutsSpec)) iencPutsUptoCard

/-- THE SECOND FORM's CARD OF 'spunyarnlaw03.IencTakes'. -/
def iencTakesUptoCard : Claim7 := { stood := { row := iencTakesUptoRow, standIns := [], harness := (true, "89f9ad1b27713b4643e85a6d0e0885f1984f7c3f7dceb5852882c2efd8f18885"), looks := false }, kinds := [], alts := [], laidByText := true, laidKinds := [.data], laidTests := true, laidLooks := .later }
def IencTakesUptoCardSaid : Prop := Claim7.holds Tryd.pinned (.plain (OpenSpec.upto iencTakesSpec)) iencTakesUptoCard

/-- THE SECOND FORM's CARD OF 'spunyarnlaw03.IencOrder'. -/
def iencOrderUptoCard : Claim7 := { stood := { row := iencOrderUptoRow, standIns := [], harness := (true, "89f9ad1b27713b4643e85a6d0e0885f1984f7c3f7dceb5852882c2efd8f18885"), looks := false }, kinds := [], alts := [], laidByText := true, laidKinds := [.data], laidTests := true, laidLooks := .later }
def IencOrderUptoCardSaid : Prop := Claim7.holds Tryd.pinned (.plain (OpenSpec.upto iencOrderSpec)) iencOrderUptoCard
end Rows
end Go.Proofs.YtfflfgpjdgdlmaaDoor
