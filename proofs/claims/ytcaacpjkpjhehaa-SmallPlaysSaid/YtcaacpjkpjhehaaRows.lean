/-
  No cell of these rows narrows 'for every input' (looked for: loops, veiled, ifaces, maps, wideKeys, modest, calm, conditions, laid).
  DERIVED. THE GIVEN ROWS OF THIS SEAT. 3 by the template 'for every input the law returns true; each argument reads behind the call as it read before'; 0 by the template 'total and deterministic' (their statements: YtcaacpjkpjhehaaTotals.lean).
  GIVEN WITH THE SEED: the statements are not yours to turn. If you find one false, say at which input.
  Laid BY PROGRAM, IN A SANDBOX (cutbox-rows.mjs): the forced cells as the released guide's own fill.sh prints them over the translation 82d65e9100e47e9d… (all of the seat's roots in one cut). By AI agents, Wed Nov 11 2026. No macro, syntax, notation, axiom, sorry.
-/
import Derived.Test.YtcaacpjkpjhehaaChecked
import GoSem.Claim
import GoSem.ClaimJoined
import GoSem.ClaimMapViews
import Derived.JoinedTies
import Derived.KernelRfl
namespace Go.Proofs.Ytcaacpjkpjhehaa
/- THE CELL 'sum', in the pinned program and in every row, IS THE sha256 OF THE DUMP (.gsa) THAT YtcaacpjkpjhehaaProg.lean LOADS. Nothing in Lean hashes anything: it is a label: what it is worth is what the hold of that sum in a sandbox is worth. -/
noncomputable def Try.pinned : Pinned := { name := "ytcaacpjkpjhehaa", sum := "82d65e9100e47e9d4f83d65fec616543e939b30fd399f8082751e9eaccc551ea", checked := Try.checked }
namespace Rows
def none {H : Type} : Left H := { results := [], args := [] }

/-- 'spunyarnlaw09.SmallPlays': WHATEVER THE INPUT: true; the input reads as it did. -/
def smallPlaysSpec : ChangeSpec := { name := "smallPlays", fn := fun _ => fun
  | [d1, d2, d3] => { results := [.lit (.bool true)], args := [d1, d2, d3] }
  | _ => none }
def smallPlaysRow : OpenClaim := { program := "ytcaacpjkpjhehaa", sum := "82d65e9100e47e9d4f83d65fec616543e939b30fd399f8082751e9eaccc551ea", func := "spunyarn/spunyarnlaw09.SmallPlays", spec := "smallPlays", inPlace := ["slices.overlaps[int]"], apart := false }
def SmallPlaysSaid : Prop := smallPlaysRow.holds Try.pinned (OpenSpec.ofChange smallPlaysSpec)

/-- ITS FALSE NEIGHBOUR: 'it returns false'. Refute it at one input. -/
def smallPlaysWrong : ChangeSpec := { name := "smallPlays", fn := fun _ => fun
  | [d1, d2, d3] => { results := [.lit (.bool false)], args := [d1, d2, d3] }
  | _ => none }
def SmallPlaysWrongFalsely : Prop := smallPlaysRow.holds Try.pinned (OpenSpec.ofChange smallPlaysWrong)

/-- 'spunyarnlaw09.SmallWalks': WHATEVER THE INPUT: true; the input reads as it did. -/
def smallWalksSpec : ChangeSpec := { name := "smallWalks", fn := fun _ => fun
  | [d1, d2] => { results := [.lit (.bool true)], args := [d1, d2] }
  | _ => none }
def smallWalksRow : OpenClaim := { program := "ytcaacpjkpjhehaa", sum := "82d65e9100e47e9d4f83d65fec616543e939b30fd399f8082751e9eaccc551ea", func := "spunyarn/spunyarnlaw09.SmallWalks", spec := "smallWalks", inPlace := ["slices.overlaps[int]"], apart := false }
def SmallWalksSaid : Prop := smallWalksRow.holds Try.pinned (OpenSpec.ofChange smallWalksSpec)

/-- ITS FALSE NEIGHBOUR: 'it returns false'. Refute it at one input. -/
def smallWalksWrong : ChangeSpec := { name := "smallWalks", fn := fun _ => fun
  | [d1, d2] => { results := [.lit (.bool false)], args := [d1, d2] }
  | _ => none }
def SmallWalksWrongFalsely : Prop := smallWalksRow.holds Try.pinned (OpenSpec.ofChange smallWalksWrong)

/-- 'spunyarnlaw09.SmallNobody': WHATEVER THE INPUT: true; the input reads as it did. -/
def smallNobodySpec : ChangeSpec := { name := "smallNobody", fn := fun _ => fun
  | [d1, d2] => { results := [.lit (.bool true)], args := [d1, d2] }
  | _ => none }
def smallNobodyRow : OpenClaim := { program := "ytcaacpjkpjhehaa", sum := "82d65e9100e47e9d4f83d65fec616543e939b30fd399f8082751e9eaccc551ea", func := "spunyarn/spunyarnlaw09.SmallNobody", spec := "smallNobody", inPlace := ["slices.overlaps[int]"], apart := false }
def SmallNobodySaid : Prop := smallNobodyRow.holds Try.pinned (OpenSpec.ofChange smallNobodySpec)

/-- ITS FALSE NEIGHBOUR: 'it returns false'. Refute it at one input. -/
def smallNobodyWrong : ChangeSpec := { name := "smallNobody", fn := fun _ => fun
  | [d1, d2] => { results := [.lit (.bool false)], args := [d1, d2] }
  | _ => none }
def SmallNobodyWrongFalsely : Prop := smallNobodyRow.holds Try.pinned (OpenSpec.ofChange smallNobodyWrong)

/- THE SECOND FORM. 'bulk': how many values and letters a reading holds, each counted each time it is reached (what is shared counts as often as it is met; a slice's spare places count too). A statement '..UptoSaid' is the law's where the arguments, and the package variables that the reading takes, are together of bulk at most 1048576: NARROWER than '..Said'. Prove '..Said' where nothing that the law and all that it calls make is longer than what came in: it says more and counts as full. Else prove '..UptoSaid'. A law counts once. -/
mutual
def uptoBulk {H : Type} : DataW H → Nat
  | .lit (.string bytes) => bytes.length + 1
  | .lit _ => 1
  | .nil => 1
  | .ptr d => uptoBulk d + 1
  | .slice elems spare => uptoBulkAll elems + uptoBulkAll spare + 1
  | .agg parts => uptoBulkAll parts + 1
  | .iface _ d => uptoBulk d + 1
  | .map entries => uptoBulkEntries entries + 1
  | .held _ => 1
def uptoBulkAll {H : Type} : List (DataW H) → Nat
  | [] => 0
  | d :: r => uptoBulk d + uptoBulkAll r
def uptoBulkEntries {H : Type} : List (Lit × DataW H) → Nat
  | [] => 0
  | x :: r => uptoBulkEntry x + uptoBulkEntries r
def uptoBulkEntry {H : Type} : Lit × DataW H → Nat
  | (.string bytes, d) => bytes.length + uptoBulk d + 1
  | (_, d) => uptoBulk d + 1
 end
def uptoSmall : (H : Type) → List (DataW H) → Bool := fun _ ds => decide (uptoBulkAll ds ≤ 1048576)
def OpenSpec.upto (s : _root_.Go.ChangeSpec) : _root_.Go.OpenSpec := { _root_.Go.OpenSpec.ofChange s with cond := some uptoSmall }

/-- 'spunyarnlaw09.SmallPlays', WHERE WHAT IT READS IS OF BULK AT MOST 1048576: true; the input reads as it did. -/
def smallPlaysUptoRow : OpenClaim := { program := "ytcaacpjkpjhehaa", sum := "82d65e9100e47e9d4f83d65fec616543e939b30fd399f8082751e9eaccc551ea", func := "spunyarn/spunyarnlaw09.SmallPlays", spec := "smallPlays", inPlace := ["slices.overlaps[int]"], apart := false, narrowed := true }
def SmallPlaysUptoSaid : Prop := smallPlaysUptoRow.holds Try.pinned (OpenSpec.upto smallPlaysSpec)

/-- 'spunyarnlaw09.SmallWalks', WHERE WHAT IT READS IS OF BULK AT MOST 1048576: true; the input reads as it did. -/
def smallWalksUptoRow : OpenClaim := { program := "ytcaacpjkpjhehaa", sum := "82d65e9100e47e9d4f83d65fec616543e939b30fd399f8082751e9eaccc551ea", func := "spunyarn/spunyarnlaw09.SmallWalks", spec := "smallWalks", inPlace := ["slices.overlaps[int]"], apart := false, narrowed := true }
def SmallWalksUptoSaid : Prop := smallWalksUptoRow.holds Try.pinned (OpenSpec.upto smallWalksSpec)

/-- 'spunyarnlaw09.SmallNobody', WHERE WHAT IT READS IS OF BULK AT MOST 1048576: true; the input reads as it did. -/
def smallNobodyUptoRow : OpenClaim := { program := "ytcaacpjkpjhehaa", sum := "82d65e9100e47e9d4f83d65fec616543e939b30fd399f8082751e9eaccc551ea", func := "spunyarn/spunyarnlaw09.SmallNobody", spec := "smallNobody", inPlace := ["slices.overlaps[int]"], apart := false, narrowed := true }
def SmallNobodyUptoSaid : Prop := smallNobodyUptoRow.holds Try.pinned (OpenSpec.upto smallNobodySpec)

end Rows
end Go.Proofs.Ytcaacpjkpjhehaa
