/-
  DERIVED. GIVEN WITH THE SEED: THE CARDS: each row of YtcbgieoiefbeiaaGreatDoorRows.lean that lists a variable, with what it lists TIED to the program's text (the seventh form; the later family's looks); each row that meets fmt, with fmt's text TOLD by the authors' own Lean function (tested against real Go, not proved from fmt's source: count such statements apart). THE CARD IS WHAT COUNTS. Prove the row's statement (the work); the ties are given (YtcbgieoiefbeiaaGreatDoorTie.lean); close each card by the builder's one call (the guide's Derived/Test/ToyasCard.lean, 'card_holds'). Laid BY PROGRAM, IN A SANDBOX (cutbox-door.mjs). By AI agents, Wed Nov 11 2026. No macro, syntax, notation, axiom, sorry.
-/
import Derived.Test.YtcbgieoiefbeiaaGreatDoorRows
import GoSem.ClaimSeven
namespace Go.Proofs.YtcbgieoiefbeiaaGreatDoor
namespace Rows

/-- THE TIED CARD OF 'spunyarnlaw16.DelIs'. -/
def delIsCard : Claim7 := { stood := { row := delIsRow, standIns := [], harness := (true, "45dc5c5e51f60dbf3bf4dc263d8b0d18af1cd0065af8af44b22d24b656108d2e"), looks := false }, kinds := [], alts := [], laidByText := true, laidKinds := [.data, .data, .data], laidTests := true, laidLooks := .later }
def DelIsCardSaid : Prop := Claim7.holds Tryz.pinned (.plain (OpenSpec.ofChange delIsSpec)) delIsCard

/-- THE TIED CARD OF 'spunyarnlaw16.DelMade'. -/
def delMadeCard : Claim7 := { stood := { row := delMadeRow, standIns := [], harness := (true, "45dc5c5e51f60dbf3bf4dc263d8b0d18af1cd0065af8af44b22d24b656108d2e"), looks := false }, kinds := [], alts := [], laidByText := true, laidKinds := [.data, .data, .data], laidTests := true, laidLooks := .later }
def DelMadeCardSaid : Prop := Claim7.holds Tryz.pinned (.plain (OpenSpec.ofChange delMadeSpec)) delMadeCard

/-- THE TIED CARD OF 'spunyarnlaw16.DelOwn'. -/
def delOwnCard : Claim7 := { stood := { row := delOwnRow, standIns := [], harness := (true, "45dc5c5e51f60dbf3bf4dc263d8b0d18af1cd0065af8af44b22d24b656108d2e"), looks := false }, kinds := [], alts := [], laidByText := true, laidKinds := [.data, .data, .data], laidTests := true, laidLooks := .later }
def DelOwnCardSaid : Prop := Claim7.holds Tryz.pinned (.plain (OpenSpec.ofChange delOwnSpec)) delOwnCard

/-- THE TIED CARD OF 'spunyarnlaw16.DelBack'. -/
def delBackCard : Claim7 := { stood := { row := delBackRow, standIns := [], harness := (true, "45dc5c5e51f60dbf3bf4dc263d8b0d18af1cd0065af8af44b22d24b656108d2e"), looks := false }, kinds := [], alts := [], laidByText := true, laidKinds := [.data, .data, .data], laidTests := true, laidLooks := .later }
def DelBackCardSaid : Prop := Claim7.holds Tryz.pinned (.plain (OpenSpec.ofChange delBackSpec)) delBackCard

/-- THE TIED CARD OF 'spunyarnlaw16.DelLeft'. -/
def delLeftCard : Claim7 := { stood := { row := delLeftRow, standIns := [], harness := (true, "45dc5c5e51f60dbf3bf4dc263d8b0d18af1cd0065af8af44b22d24b656108d2e"), looks := false }, kinds := [], alts := [], laidByText := true, laidKinds := [.data, .data, .data], laidTests := true, laidLooks := .later }
def DelLeftCardSaid : Prop := Claim7.holds Tryz.pinned (.plain (OpenSpec.ofChange delLeftSpec)) delLeftCard

/-- THE SECOND FORM's CARD OF 'spunyarnlaw16.DelIs'. -/
def delIsUptoCard : Claim7 := { stood := { row := delIsUptoRow, standIns := [], harness := (true, "45dc5c5e51f60dbf3bf4dc263d8b0d18af1cd0065af8af44b22d24b656108d2e"), looks := false }, kinds := [], alts := [], laidByText := true, laidKinds := [.data, .data, .data], laidTests := true, laidLooks := .later }
def DelIsUptoCardSaid : Prop := Claim7.holds Tryz.pinned (.plain (OpenSpec.upto delIsSpec)) delIsUptoCard

/-- THE SECOND FORM's CARD OF 'spunyarnlaw16.DelMade'. -/
def delMadeUptoCard : Claim7 := { stood := { row := delMadeUptoRow, standIns := [], harness := (true, "45dc5c5e51f60dbf3bf4dc263d8b0d18af1cd0065af8af44b22d24b656108d2e"), looks := false }, kinds := [], alts := [], laidByText := true, laidKinds := [.data, .data, .data], laidTests := true, laidLooks := .later }
def DelMadeUptoCardSaid : Prop := Claim7.holds Tryz.pinned (.plain (OpenSpec.upto delMadeSpec)) delMadeUptoCard

/-- THE SECOND FORM's CARD OF 'spunyarnlaw16.DelOwn'. -/
def delOwnUptoCard : Claim7 := { stood := { row := delOwnUptoRow, standIns := [], harness := (true, "45dc5c5e51f60dbf3bf4dc263d8b0d18af1cd0065af8af44b22d24b656108d2e"), looks := false }, kinds := [], alts := [], laidByText := true, laidKinds := [.data, .data, .data], laidTests := true, laidLooks := .later }
def DelOwnUptoCardSaid : Prop := Claim7.holds Tryz.pinned (.plain (OpenSpec.upto delOwnSpec)) delOwnUptoCard

/-- THE SECOND FORM's CARD OF 'spunyarnlaw16.DelBack'. -/
def delBackUptoCard : Claim7 := { stood := { row := delBackUptoRow, standIns := [], harness := (true, "45dc5c5e51f60dbf3bf4dc263d8b0d18af1cd0065af8af44b22d24b656108d2e"), looks := false }, kinds := [], alts := [], laidByText := true, laidKinds := [.data, .data, .data], laidTests := true, laidLooks := .later }
def DelBackUptoCardSaid : Prop := Claim7.holds Tryz.pinned (.plain (OpenSpec.upto delBackSpec)) delBackUptoCard

/-- THE SECOND FORM's CARD OF 'spunyarnlaw16.DelLeft'. -/
def delLeftUptoCard : Claim7 := { stood := { row := delLeftUptoRow, standIns := [], harness := (true, "45dc5c5e51f60dbf3bf4dc263d8b0d18af1cd0065af8af44b22d24b656108d2e"), looks := false }, kinds := [], alts := [], laidByText := true, laidKinds := [.data, .data, .data], laidTests := true, laidLooks := .later }
def DelLeftUptoCardSaid : Prop := Claim7.holds Tryz.pinned (.plain (OpenSpec.upto delLeftSpec)) delLeftUptoCard
end Rows
end Go.Proofs.YtcbgieoiefbeiaaGreatDoor
