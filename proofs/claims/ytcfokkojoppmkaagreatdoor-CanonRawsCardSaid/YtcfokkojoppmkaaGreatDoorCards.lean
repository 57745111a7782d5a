/-
  DERIVED. GIVEN WITH THE SEED: THE CARDS: each row of YtcfokkojoppmkaaGreatDoorRows.lean that lists a variable, with what it lists TIED to the program's text (the seventh form; the later family's looks); each row that meets fmt, with fmt's text TOLD by the authors' own Lean function (tested against real Go, not proved from fmt's source: count such statements apart). THE CARD IS WHAT COUNTS. Prove the row's statement (the work); the ties are given (YtcfokkojoppmkaaGreatDoorTie.lean); close each card by the builder's one call (the guide's Derived/Test/ToyasCard.lean, 'card_holds'). Laid BY PROGRAM, IN A SANDBOX (cutbox-door.mjs). By AI agents, Wed Nov 11 2026. No macro, syntax, notation, axiom, sorry.
-/
import Derived.Test.YtcfokkojoppmkaaGreatDoorRows
import GoSem.ClaimSeven
namespace Go.Proofs.YtcfokkojoppmkaaGreatDoor
namespace Rows

/-- THE TIED CARD OF 'spunyarnlaw13.CanonBuilds'. -/
def canonBuildsCard : Claim7 := { stood := { row := canonBuildsRow, standIns := [], harness := (true, "281ae2a35b432030a91bb9f0989de22ebbc80cdc3f87d698b06056c371a5fa8b"), looks := false }, kinds := [], alts := [], laidByText := true, laidKinds := [.data, .data, .data], laidTests := true, laidLooks := .later }
def CanonBuildsCardSaid : Prop := Claim7.holds Tryz.pinned (.plain (OpenSpec.ofChange canonBuildsSpec)) canonBuildsCard

/-- THE TIED CARD OF 'spunyarnlaw13.CanonPoints'. -/
def canonPointsCard : Claim7 := { stood := { row := canonPointsRow, standIns := [], harness := (true, "281ae2a35b432030a91bb9f0989de22ebbc80cdc3f87d698b06056c371a5fa8b"), looks := false }, kinds := [], alts := [], laidByText := true, laidKinds := [.data, .data, .data], laidTests := true, laidLooks := .later }
def CanonPointsCardSaid : Prop := Claim7.holds Tryz.pinned (.plain (OpenSpec.ofChange canonPointsSpec)) canonPointsCard

/-- THE TIED CARD OF 'spunyarnlaw13.CanonBounds'. -/
def canonBoundsCard : Claim7 := { stood := { row := canonBoundsRow, standIns := [], harness := (true, "281ae2a35b432030a91bb9f0989de22ebbc80cdc3f87d698b06056c371a5fa8b"), looks := false }, kinds := [], alts := [], laidByText := true, laidKinds := [.data, .data, .data], laidTests := true, laidLooks := .later }
def CanonBoundsCardSaid : Prop := Claim7.holds Tryz.pinned (.plain (OpenSpec.ofChange canonBoundsSpec)) canonBoundsCard

/-- THE TIED CARD OF 'spunyarnlaw13.CanonRaws'. -/
def canonRawsCard : Claim7 := { stood := { row := canonRawsRow, standIns := [], harness := (true, "281ae2a35b432030a91bb9f0989de22ebbc80cdc3f87d698b06056c371a5fa8b"), looks := false }, kinds := [], alts := [], laidByText := true, laidKinds := [.data, .data, .data], laidTests := true, laidLooks := .later }
def CanonRawsCardSaid : Prop := Claim7.holds Tryz.pinned (.plain (OpenSpec.ofChange canonRawsSpec)) canonRawsCard

/-- THE TIED CARD OF 'spunyarnlaw13.CanonFine'. -/
def canonFineCard : Claim7 := { stood := { row := canonFineRow, standIns := [], harness := (true, "281ae2a35b432030a91bb9f0989de22ebbc80cdc3f87d698b06056c371a5fa8b"), looks := false }, kinds := [], alts := [], laidByText := true, laidKinds := [.data, .data, .data], laidTests := true, laidLooks := .later }
def CanonFineCardSaid : Prop := Claim7.holds Tryz.pinned (.plain (OpenSpec.ofChange canonFineSpec)) canonFineCard

/-- THE TIED CARD OF 'spunyarnlaw13.CanonLong'. -/
def canonLongCard : Claim7 := { stood := { row := canonLongRow, standIns := [], harness := (true, "281ae2a35b432030a91bb9f0989de22ebbc80cdc3f87d698b06056c371a5fa8b"), looks := false }, kinds := [], alts := [], laidByText := true, laidKinds := [.data, .data, .data], laidTests := true, laidLooks := .later }
def CanonLongCardSaid : Prop := Claim7.holds Tryz.pinned (.plain (OpenSpec.ofChange canonLongSpec)) canonLongCard

/-- THE SECOND FORM's CARD OF 'spunyarnlaw13.CanonBuilds'. -/
def canonBuildsUptoCard : Claim7 := { stood := { row := canonBuildsUptoRow, standIns := [], harness := (true, "281ae2a35b432030a91bb9f0989de22ebbc80cdc3f87d698b06056c371a5fa8b"), looks := false }, kinds := [], alts := [], laidByText := true, laidKinds := [.data, .data, .data], laidTests := true, laidLooks := .later }
def CanonBuildsUptoCardSaid : Prop := Claim7.holds Tryz.pinned (.plain (OpenSpec.upto canonBuildsSpec)) canonBuildsUptoCard

/-- THE SECOND FORM's CARD OF 'spunyarnlaw13.CanonPoints'. -/
def canonPointsUptoCard : Claim7 := { stood := { row := canonPointsUptoRow, standIns := [], harness := (true, "281ae2a35b432030a91bb9f0989de22ebbc80cdc3f87d698b06056c371a5fa8b"), looks := false }, kinds := [], alts := [], laidByText := true, laidKinds := [.data, .data, .data], laidTests := true, laidLooks := .later }
def CanonPointsUptoCardSaid : Prop := Claim7.holds Tryz.pinned (.plain (OpenSpec.upto canonPointsSpec)) canonPointsUptoCard

/-- THE SECOND FORM's CARD OF 'spunyarnlaw13.CanonBounds'. -/
def canonBoundsUptoCard : Claim7 := { stood := { row := canonBoundsUptoRow, standIns := [], harness := (true, "281ae2a35b432030a91bb9f0989de22ebbc80cdc3f87d698b06056c371a5fa8b"), looks := false }, kinds := [], alts := [], laidByText := true, laidKinds := [.data, .data, .data], laidTests := true, laidLooks := .later }
def CanonBoundsUptoCardSaid : Prop := Claim7.holds Tryz.pinned (.plain (OpenSpec.upto canonBoundsSpec)) canonBoundsUptoCard

/-- THE SECOND FORM's CARD OF 'spunyarnlaw13.CanonRaws'. -/
def canonRawsUptoCard : Claim7 := { stood := { row := canonRawsUptoRow, standIns := [], harness := (true, "281ae2a35b432030a91bb9f0989de22ebbc80cdc3f87d698b06056c371a5fa8b"), looks := false }, kinds := [], alts := [], laidByText := true, laidKinds := [.data, .data, .data], laidTests := true, laidLooks := .later }
def CanonRawsUptoCardSaid : Prop := Claim7.holds Tryz.pinned (.plain (OpenSpec.upto canonRawsSpec)) canonRawsUptoCard

/-- THE SECOND FORM's CARD OF 'spunyarnlaw13.CanonFine'. -/
def canonFineUptoCard : Claim7 := { stood := { row := canonFineUptoRow, standIns := [], harness := (true, "281ae2a35b432030a91bb9f0989de22ebbc80cdc3f87d698b06056c371a5fa8b"), looks := false }, kinds := [], alts := [], laidByText := true, laidKinds := [.data, .data, .data], laidTests := true, laidLooks := .later }
def CanonFineUptoCardSaid : Prop := Claim7.holds Tryz.pinned (.plain (OpenSpec.upto canonFineSpec)) canonFineUptoCard

/-- THE SECOND FORM's CARD OF 'spunyarnlaw13.CanonLong'. -/
def canonLongUptoCard : Claim7 := { stood := { row := canonLongUptoRow, standIns := [], harness := (true, "281ae2a35b432030a91bb9f0989de22ebbc80cdc3f87d698b06056c371a5fa8b"), looks := false }, kinds := [], alts := [], laidByText := true, laidKinds := [.data, .data, .data], laidTests := true, laidLooks := .later }
def CanonLongUptoCardSaid : Prop := Claim7.holds Tryz.pinned (.plain (OpenSpec.upto canonLongSpec)) canonLongUptoCard
end Rows
end Go.Proofs.YtcfokkojoppmkaaGreatDoor
