/-
  No cell of these rows narrows 'for every input' (looked for: loops, veiled, ifaces, maps, wideKeys, modest, calm, conditions, laid).
  DERIVED. THE GIVEN ROWS OF THIS SEAT. 4 by the template 'for every input the law returns true; each argument reads behind the call as it read before'; 0 by the template 'total and deterministic' (their statements: YtahmalmpbdfnhaaTotals.lean).
  GIVEN WITH THE SEED: the statements are not yours to turn. If you find one false, say at which input.
  Laid BY PROGRAM, IN A SANDBOX (cutbox-rows.mjs): the forced cells as the released guide's own fill.sh prints them over the translation b075544cc1de7337… (all of the seat's roots in one cut). By AI agents, Wed Nov 11 2026. No macro, syntax, notation, axiom, sorry.
-/
import Derived.Test.YtahmalmpbdfnhaaChecked
import GoSem.Claim
import GoSem.ClaimJoined
import GoSem.ClaimMapViews
import Derived.JoinedTies
import Derived.KernelRfl
namespace Go.Proofs.Ytahmalmpbdfnhaa
/- THE CELL 'sum', in the pinned program and in every row, IS THE sha256 OF THE DUMP (.gsa) THAT YtahmalmpbdfnhaaProg.lean LOADS. Nothing in Lean hashes anything: it is a label: what it is worth is what the hold of that sum in a sandbox is worth. -/
noncomputable def Try.pinned : Pinned := { name := "ytahmalmpbdfnhaa", sum := "b075544cc1de73379ffc734cfd2fa87233e1bb00fd57fa419cb8576df5656f6f", checked := Try.checked }
namespace Rows
def none {H : Type} : Left H := { results := [], args := [] }

/-- 'spunyarnlaw11.KidsPlays': WHATEVER THE INPUT: true; the input reads as it did. -/
def kidsPlaysSpec : ChangeSpec := { name := "kidsPlays", fn := fun _ => fun
  | [d1, d2] => { results := [.lit (.bool true)], args := [d1, d2] }
  | _ => none }
def kidsPlaysRow : OpenClaim := { program := "ytahmalmpbdfnhaa", sum := "b075544cc1de73379ffc734cfd2fa87233e1bb00fd57fa419cb8576df5656f6f", func := "spunyarn/spunyarnlaw11.KidsPlays", spec := "kidsPlays", unfollowed := true, recurses := true, apart := false }
def KidsPlaysSaid : Prop := kidsPlaysRow.holds Try.pinned (OpenSpec.ofChange kidsPlaysSpec)

/-- ITS FALSE NEIGHBOUR: 'it returns false'. Refute it at one input. -/
def kidsPlaysWrong : ChangeSpec := { name := "kidsPlays", fn := fun _ => fun
  | [d1, d2] => { results := [.lit (.bool false)], args := [d1, d2] }
  | _ => none }
def KidsPlaysWrongFalsely : Prop := kidsPlaysRow.holds Try.pinned (OpenSpec.ofChange kidsPlaysWrong)

/-- 'spunyarnlaw11.KidsKind': WHATEVER THE INPUT: true; the input reads as it did. -/
def kidsKindSpec : ChangeSpec := { name := "kidsKind", fn := fun _ => fun
  | [d] => { results := [.lit (.bool true)], args := [d] }
  | _ => none }
def kidsKindRow : OpenClaim := { program := "ytahmalmpbdfnhaa", sum := "b075544cc1de73379ffc734cfd2fa87233e1bb00fd57fa419cb8576df5656f6f", func := "spunyarn/spunyarnlaw11.KidsKind", spec := "kidsKind", unfollowed := true, recurses := true, apart := false }
def KidsKindSaid : Prop := kidsKindRow.holds Try.pinned (OpenSpec.ofChange kidsKindSpec)

/-- ITS FALSE NEIGHBOUR: 'it returns false'. Refute it at one input. -/
def kidsKindWrong : ChangeSpec := { name := "kidsKind", fn := fun _ => fun
  | [d] => { results := [.lit (.bool false)], args := [d] }
  | _ => none }
def KidsKindWrongFalsely : Prop := kidsKindRow.holds Try.pinned (OpenSpec.ofChange kidsKindWrong)

/-- 'spunyarnlaw11.KidsOrder': WHATEVER THE INPUT: true; the input reads as it did. -/
def kidsOrderSpec : ChangeSpec := { name := "kidsOrder", fn := fun _ => fun
  | [d1, d2] => { results := [.lit (.bool true)], args := [d1, d2] }
  | _ => none }
def kidsOrderRow : OpenClaim := { program := "ytahmalmpbdfnhaa", sum := "b075544cc1de73379ffc734cfd2fa87233e1bb00fd57fa419cb8576df5656f6f", func := "spunyarn/spunyarnlaw11.KidsOrder", spec := "kidsOrder", unfollowed := true, recurses := true, apart := false }
def KidsOrderSaid : Prop := kidsOrderRow.holds Try.pinned (OpenSpec.ofChange kidsOrderSpec)

/-- ITS FALSE NEIGHBOUR: 'it returns false'. Refute it at one input. -/
def kidsOrderWrong : ChangeSpec := { name := "kidsOrder", fn := fun _ => fun
  | [d1, d2] => { results := [.lit (.bool false)], args := [d1, d2] }
  | _ => none }
def KidsOrderWrongFalsely : Prop := kidsOrderRow.holds Try.pinned (OpenSpec.ofChange kidsOrderWrong)

/-- 'spunyarnlaw11.KidsNobody': WHATEVER THE INPUT: true; the input reads as it did. -/
def kidsNobodySpec : ChangeSpec := { name := "kidsNobody", fn := fun _ => fun
  | [d1, d2] => { results := [.lit (.bool true)], args := [d1, d2] }
  | _ => none }
def kidsNobodyRow : OpenClaim := { program := "ytahmalmpbdfnhaa", sum := "b075544cc1de73379ffc734cfd2fa87233e1bb00fd57fa419cb8576df5656f6f", func := "spunyarn/spunyarnlaw11.KidsNobody", spec := "kidsNobody", unfollowed := true, recurses := true, apart := false }
def KidsNobodySaid : Prop := kidsNobodyRow.holds Try.pinned (OpenSpec.ofChange kidsNobodySpec)

/-- ITS FALSE NEIGHBOUR: 'it returns false'. Refute it at one input. -/
def kidsNobodyWrong : ChangeSpec := { name := "kidsNobody", fn := fun _ => fun
  | [d1, d2] => { results := [.lit (.bool false)], args := [d1, d2] }
  | _ => none }
def KidsNobodyWrongFalsely : Prop := kidsNobodyRow.holds Try.pinned (OpenSpec.ofChange kidsNobodyWrong)

/- THE SECOND FORM. 'bulk': how many values and letters a reading holds, each counted each time it is reached (what is shared counts as often as it is met; a slice's spare places count too). A statement '..UptoSaid' is the law's where the arguments, and the package variables that the reading takes, are together of bulk at most 1048576: NARROWER than '..Said'. Prove '..Said' where nothing that the law and all that it calls make is longer than what came in: it says more and counts as full. Else prove '..UptoSaid'. A law counts once. -/
mutual
def uptoBulk {H : Type} : DataW H → Nat
  | .lit (.string bytes) => bytes.length + 1
  | .lit _ => 1
  | .nil => 1
  | .ptr d => uptoBulk d + 1
  | .slice elems spare => uptoBulkAll elems + uptoBulkAll spare + 1
  | .agg parts => uptoBulkAll parts + 1
  | .iface _ d => uptoBulk d + 1
  | .map entries => uptoBulkEntries entries + 1
  | .held _ => 1
def uptoBulkAll {H : Type} : List (DataW H) → Nat
  | [] => 0
  | d :: r => uptoBulk d + uptoBulkAll r
def uptoBulkEntries {H : Type} : List (Lit × DataW H) → Nat
  | [] => 0
  | x :: r => uptoBulkEntry x + uptoBulkEntries r
def uptoBulkEntry {H : Type} : Lit × DataW H → Nat
  | (.string bytes, d) => bytes.length + uptoBulk d + 1
  | (_, d) => uptoBulk d + 1
 end
def uptoSmall : (H : Type) → List (DataW H) → Bool := fun _ ds => decide (uptoBulkAll ds ≤ 1048576)
def OpenSpec.upto (s : _root_.Go.ChangeSpec) : _root_.Go.OpenSpec := { _root_.Go.OpenSpec.ofChange s with cond := some uptoSmall }

/-- 'spunyarnlaw11.KidsPlays', WHERE WHAT IT READS IS OF BULK AT MOST 1048576: true; the input reads as it did. -/
def kidsPlaysUptoRow : OpenClaim := { program := "ytahmalmpbdfnhaa", sum := "b075544cc1de73379ffc734cfd2fa87233e1bb00fd57fa419cb8576df5656f6f", func := "spunyarn/spunyarnlaw11.KidsPlays", spec := "kidsPlays", unfollowed := true, recurses := true, apart := false, narrowed := true }
def KidsPlaysUptoSaid : Prop := kidsPlaysUptoRow.holds Try.pinned (OpenSpec.upto kidsPlaysSpec)

/-- 'spunyarnlaw11.KidsKind', WHERE WHAT IT READS IS OF BULK AT MOST 1048576: true; the input reads as it did. -/
def kidsKindUptoRow : OpenClaim := { program := "ytahmalmpbdfnhaa", sum := "b075544cc1de73379ffc734cfd2fa87233e1bb00fd57fa419cb8576df5656f6f", func := "spunyarn/spunyarnlaw11.KidsKind", spec := "kidsKind", unfollowed := true, recurses := true, apart := false, narrowed := true }
def KidsKindUptoSaid : Prop := kidsKindUptoRow.holds Try.pinned (OpenSpec.upto kidsKindSpec)

/-- 'spunyarnlaw11.KidsOrder', WHERE WHAT IT READS IS OF BULK AT MOST 1048576: true; the input reads as it did. -/
def kidsOrderUptoRow : OpenClaim := { program := "ytahmalmpbdfnhaa", sum := "b075544cc1de73379ffc734cfd2fa87233e1bb00fd57fa419cb8576df5656f6f", func := "spunyarn/spunyarnlaw11.KidsOrder", spec := "kidsOrder", unfollowed := true, recurses := true, apart := false, narrowed := true }
def KidsOrderUptoSaid : Prop := kidsOrderUptoRow.holds Try.pinned (OpenSpec.upto kidsOrderSpec)

/-- 'spunyarnlaw11.KidsNobody', WHERE WHAT IT READS IS OF BULK AT MOST 1048576: true; the input reads as it did. -/
def kidsNobodyUptoRow : OpenClaim := { program := "ytahmalmpbdfnhaa", sum := "b075544cc1de73379ffc734cfd2fa87233e1bb00fd57fa419cb8576df5656f6f", func := "spunyarn/spunyarnlaw11.KidsNobody", spec := "kidsNobody", unfollowed := true, recurses := true, apart := false, narrowed := true }
def KidsNobodyUptoSaid : Prop := kidsNobodyUptoRow.holds Try.pinned (OpenSpec.upto kidsNobodySpec)

end Rows
end Go.Proofs.Ytahmalmpbdfnhaa
