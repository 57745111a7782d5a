/-
  DERIVED. GIVEN WITH THE SEED: THE CARDS: each row of YtikmcmoegigfhaaGreatDoorRows.lean that lists a variable, with what it lists TIED to the program's text (the seventh form; the later family's looks); each row that meets fmt, with fmt's text TOLD by the authors' own Lean function (tested against real Go, not proved from fmt's source: count such statements apart). THE CARD IS WHAT COUNTS. Prove the row's statement (the work); the ties are given (YtikmcmoegigfhaaGreatDoorTie.lean); close each card by the builder's one call (the guide's Derived/Test/ToyasCard.lean, 'card_holds'). Laid BY PROGRAM, IN A SANDBOX (cutbox-door.mjs). By AI agents, Wed Nov 11 2026. No macro, syntax, notation, axiom, sorry.
-/
import Derived.Test.YtikmcmoegigfhaaGreatDoorRows
import GoSem.ClaimSeven
namespace Go.Proofs.YtikmcmoegigfhaaGreatDoor
namespace Rows

/-- THE TIED CARD OF 'spunyarnlaw15.PutIs'. -/
def putIsCard : Claim7 := { stood := { row := putIsRow, standIns := [], harness := (true, "75be630c5ddec8b23212bff9391a1b5987e0346e193601dfbb65854428ce1ad7"), looks := false }, kinds := [], alts := [], laidByText := true, laidKinds := [.data, .data, .data], laidTests := true, laidLooks := .later }
def PutIsCardSaid : Prop := Claim7.holds Tryz.pinned (.plain (OpenSpec.ofChange putIsSpec)) putIsCard

/-- THE TIED CARD OF 'spunyarnlaw15.PutMade'. -/
def putMadeCard : Claim7 := { stood := { row := putMadeRow, standIns := [], harness := (true, "75be630c5ddec8b23212bff9391a1b5987e0346e193601dfbb65854428ce1ad7"), looks := false }, kinds := [], alts := [], laidByText := true, laidKinds := [.data, .data, .data], laidTests := true, laidLooks := .later }
def PutMadeCardSaid : Prop := Claim7.holds Tryz.pinned (.plain (OpenSpec.ofChange putMadeSpec)) putMadeCard

/-- THE TIED CARD OF 'spunyarnlaw15.PutOwn'. -/
def putOwnCard : Claim7 := { stood := { row := putOwnRow, standIns := [], harness := (true, "75be630c5ddec8b23212bff9391a1b5987e0346e193601dfbb65854428ce1ad7"), looks := false }, kinds := [], alts := [], laidByText := true, laidKinds := [.data, .data, .data], laidTests := true, laidLooks := .later }
def PutOwnCardSaid : Prop := Claim7.holds Tryz.pinned (.plain (OpenSpec.ofChange putOwnSpec)) putOwnCard

/-- THE TIED CARD OF 'spunyarnlaw15.PutOrder'. -/
def putOrderCard : Claim7 := { stood := { row := putOrderRow, standIns := [], harness := (true, "75be630c5ddec8b23212bff9391a1b5987e0346e193601dfbb65854428ce1ad7"), looks := false }, kinds := [], alts := [], laidByText := true, laidKinds := [.data, .data, .data], laidTests := true, laidLooks := .later }
def PutOrderCardSaid : Prop := Claim7.holds Tryz.pinned (.plain (OpenSpec.ofChange putOrderSpec)) putOrderCard

/-- THE SECOND FORM's CARD OF 'spunyarnlaw15.PutIs'. -/
def putIsUptoCard : Claim7 := { stood := { row := putIsUptoRow, standIns := [], harness := (true, "75be630c5ddec8b23212bff9391a1b5987e0346e193601dfbb65854428ce1ad7"), looks := false }, kinds := [], alts := [], laidByText := true, laidKinds := [.data, .data, .data], laidTests := true, laidLooks := .later }
def PutIsUptoCardSaid : Prop := Claim7.holds Tryz.pinned (.plain (OpenSpec.upto putIsSpec)) putIsUptoCard

/-- THE SECOND FORM's CARD OF 'spunyarnlaw15.PutMade'. -/
def putMadeUptoCard : Claim7 := { stood := { row := putMadeUptoRow, standIns := [], harness := (true, "75be630c5ddec8b23212bff9391a1b5987e0346e193601dfbb65854428ce1ad7"), looks := false }, kinds := [], alts := [], laidByText := true, laidKinds := [.data, .data, .data], laidTests := true, laidLooks := .later }
def PutMadeUptoCardSaid : Prop := Claim7.holds Tryz.pinned (.plain (OpenSpec.upto putMadeSpec)) putMadeUptoCard

/-- THE SECOND FORM's CARD OF 'spunyarnlaw15.PutOwn'. -/
def putOwnUptoCard : Claim7 := { stood := { row := putOwnUptoRow, standIns := [], harness := (true, "75be630c5ddec8b23212bff9391a1b5987e0346e193601dfbb65854428ce1ad7"), looks := false }, kinds := [], alts := [], laidByText := true, laidKinds := [.data, .data, .data], laidTests := true, laidLooks := .later }
def PutOwnUptoCardSaid : Prop := Claim7.holds Tryz.pinned (.plain (OpenSpec.upto putOwnSpec)) putOwnUptoCard

/-- THE SECOND FORM's CARD OF 'spunyarnlaw15.PutOrder'. -/
def putOrderUptoCard : Claim7 := { stood := { row := putOrderUptoRow, standIns := [], harness := (true, "75be630c5ddec8b23212bff9391a1b5987e0346e193601dfbb65854428ce1ad7"), looks := false }, kinds := [], alts := [], laidByText := true, laidKinds := [.data, .data, .data], laidTests := true, laidLooks := .later }
def PutOrderUptoCardSaid : Prop := Claim7.holds Tryz.pinned (.plain (OpenSpec.upto putOrderSpec)) putOrderUptoCard
end Rows
end Go.Proofs.YtikmcmoegigfhaaGreatDoor
