/-
  No cell of these rows narrows 'for every input' (looked for: loops, veiled, ifaces, maps, wideKeys, modest, calm, conditions, laid).
  DERIVED. THE GIVEN ROWS OF THIS SEAT. 4 by the template 'for every input the law returns true; each argument reads behind the call as it read before'; 0 by the template 'total and deterministic' (their statements: YtfmkhafpbfmadaaGreatTotals.lean).
  GIVEN WITH THE SEED: the statements are not yours to turn. If you find one false, say at which input.
  Laid BY PROGRAM, IN A SANDBOX (cutbox-rows.mjs): the forced cells as the released guide's own fill.sh prints them over the translation c5b520540e1da49c… (all of the seat's roots in one cut). By AI agents, Wed Nov 11 2026. No macro, syntax, notation, axiom, sorry.
-/
import Derived.Test.YtfmkhafpbfmadaaGreatChecked
import GoSem.Claim
import GoSem.ClaimJoined
import GoSem.ClaimMapViews
import Derived.JoinedTies
import Derived.KernelRfl
namespace Go.Proofs.YtfmkhafpbfmadaaGreat
/- THE CELL 'sum', in the pinned program and in every row, IS THE sha256 OF THE DUMP (.gsa) THAT YtfmkhafpbfmadaaGreatProg.lean LOADS. Nothing in Lean hashes anything: it is a label: what it is worth is what the hold of that sum in a sandbox is worth. -/
noncomputable def Tryz.pinned : Pinned := { name := "ytfmkhafpbfmadaagreat", sum := "c5b520540e1da49c78b7e2615381deda90f61079710bcb679b37ada99c41a07e", checked := Tryz.checked }
namespace Rows
def none {H : Type} : Left H := { results := [], args := [] }

/-- 'spunyarnlaw14.FindGets': WHATEVER THE INPUT: true; the input reads as it did. -/
def findGetsSpec : ChangeSpec := { name := "findGets", fn := fun _ => fun
  | [d1, d2] => { results := [.lit (.bool true)], args := [d1, d2] }
  | _ => none }
def findGetsRow : OpenClaim := { program := "ytfmkhafpbfmadaagreat", sum := "c5b520540e1da49c78b7e2615381deda90f61079710bcb679b37ada99c41a07e", func := "spunyarn/spunyarnlaw14.FindGets", spec := "findGets", inPlace := ["sync/atomic.AddInt64", "sync/atomic.StoreInt64"], unfollowed := true, recurses := true, apart := false }
def FindGetsSaid : Prop := findGetsRow.holds Tryz.pinned (OpenSpec.ofChange findGetsSpec)

/-- ITS FALSE NEIGHBOUR: 'it returns false'. Refute it at one input. -/
def findGetsWrong : ChangeSpec := { name := "findGets", fn := fun _ => fun
  | [d1, d2] => { results := [.lit (.bool false)], args := [d1, d2] }
  | _ => none }
def FindGetsWrongFalsely : Prop := findGetsRow.holds Tryz.pinned (OpenSpec.ofChange findGetsWrong)

/-- 'spunyarnlaw14.FindAll': WHATEVER THE INPUT: true; the input reads as it did. -/
def findAllSpec : ChangeSpec := { name := "findAll", fn := fun _ => fun
  | [d1, d2] => { results := [.lit (.bool true)], args := [d1, d2] }
  | _ => none }
def findAllRow : OpenClaim := { program := "ytfmkhafpbfmadaagreat", sum := "c5b520540e1da49c78b7e2615381deda90f61079710bcb679b37ada99c41a07e", func := "spunyarn/spunyarnlaw14.FindAll", spec := "findAll", inPlace := ["sync/atomic.AddInt64", "sync/atomic.StoreInt64"], unfollowed := true, recurses := true, apart := false }
def FindAllSaid : Prop := findAllRow.holds Tryz.pinned (OpenSpec.ofChange findAllSpec)

/-- ITS FALSE NEIGHBOUR: 'it returns false'. Refute it at one input. -/
def findAllWrong : ChangeSpec := { name := "findAll", fn := fun _ => fun
  | [d1, d2] => { results := [.lit (.bool false)], args := [d1, d2] }
  | _ => none }
def FindAllWrongFalsely : Prop := findAllRow.holds Tryz.pinned (OpenSpec.ofChange findAllWrong)

/-- 'spunyarnlaw14.FindSteps': WHATEVER THE INPUT: true; the input reads as it did. -/
def findStepsSpec : ChangeSpec := { name := "findSteps", fn := fun _ => fun
  | [d1, d2] => { results := [.lit (.bool true)], args := [d1, d2] }
  | _ => none }
def findStepsRow : OpenClaim := { program := "ytfmkhafpbfmadaagreat", sum := "c5b520540e1da49c78b7e2615381deda90f61079710bcb679b37ada99c41a07e", func := "spunyarn/spunyarnlaw14.FindSteps", spec := "findSteps", inPlace := ["sync/atomic.AddInt64", "sync/atomic.StoreInt64"], unfollowed := true, recurses := true, apart := false }
def FindStepsSaid : Prop := findStepsRow.holds Tryz.pinned (OpenSpec.ofChange findStepsSpec)

/-- ITS FALSE NEIGHBOUR: 'it returns false'. Refute it at one input. -/
def findStepsWrong : ChangeSpec := { name := "findSteps", fn := fun _ => fun
  | [d1, d2] => { results := [.lit (.bool false)], args := [d1, d2] }
  | _ => none }
def FindStepsWrongFalsely : Prop := findStepsRow.holds Tryz.pinned (OpenSpec.ofChange findStepsWrong)

/-- 'spunyarnlaw14.FindRaws': WHATEVER THE INPUT: true; the input reads as it did. -/
def findRawsSpec : ChangeSpec := { name := "findRaws", fn := fun _ => fun
  | [d1, d2, d3] => { results := [.lit (.bool true)], args := [d1, d2, d3] }
  | _ => none }
def findRawsRow : OpenClaim := { program := "ytfmkhafpbfmadaagreat", sum := "c5b520540e1da49c78b7e2615381deda90f61079710bcb679b37ada99c41a07e", func := "spunyarn/spunyarnlaw14.FindRaws", spec := "findRaws", inPlace := ["sync/atomic.AddInt64", "sync/atomic.StoreInt64"], unfollowed := true, recurses := true, apart := false }
def FindRawsSaid : Prop := findRawsRow.holds Tryz.pinned (OpenSpec.ofChange findRawsSpec)

/-- ITS FALSE NEIGHBOUR: 'it returns false'. Refute it at one input. -/
def findRawsWrong : ChangeSpec := { name := "findRaws", fn := fun _ => fun
  | [d1, d2, d3] => { results := [.lit (.bool false)], args := [d1, d2, d3] }
  | _ => none }
def FindRawsWrongFalsely : Prop := findRawsRow.holds Tryz.pinned (OpenSpec.ofChange findRawsWrong)

/- THE SECOND FORM. 'bulk': how many values and letters a reading holds, each counted each time it is reached (what is shared counts as often as it is met; a slice's spare places count too). A statement '..UptoSaid' is the law's where the arguments, and the package variables that the reading takes, are together of bulk at most 1048576: NARROWER than '..Said'. Prove '..Said' where nothing that the law and all that it calls make is longer than what came in: it says more and counts as full. Else prove '..UptoSaid'. A law counts once. -/
mutual
def uptoBulk {H : Type} : DataW H → Nat
  | .lit (.string bytes) => bytes.length + 1
  | .lit _ => 1
  | .nil => 1
  | .ptr d => uptoBulk d + 1
  | .slice elems spare => uptoBulkAll elems + uptoBulkAll spare + 1
  | .agg parts => uptoBulkAll parts + 1
  | .iface _ d => uptoBulk d + 1
  | .map entries => uptoBulkEntries entries + 1
  | .held _ => 1
def uptoBulkAll {H : Type} : List (DataW H) → Nat
  | [] => 0
  | d :: r => uptoBulk d + uptoBulkAll r
def uptoBulkEntries {H : Type} : List (Lit × DataW H) → Nat
  | [] => 0
  | x :: r => uptoBulkEntry x + uptoBulkEntries r
def uptoBulkEntry {H : Type} : Lit × DataW H → Nat
  | (.string bytes, d) => bytes.length + uptoBulk d + 1
  | (_, d) => uptoBulk d + 1
 end
def uptoSmall : (H : Type) → List (DataW H) → Bool := fun _ ds => decide (uptoBulkAll ds ≤ 1048576)
def OpenSpec.upto (s : _root_.Go.ChangeSpec) : _root_.Go.OpenSpec := { _root_.Go.OpenSpec.ofChange s with cond := some uptoSmall }

/-- 'spunyarnlaw14.FindGets', WHERE WHAT IT READS IS OF BULK AT MOST 1048576: true; the input reads as it did. -/
def findGetsUptoRow : OpenClaim := { program := "ytfmkhafpbfmadaagreat", sum := "c5b520540e1da49c78b7e2615381deda90f61079710bcb679b37ada99c41a07e", func := "spunyarn/spunyarnlaw14.FindGets", spec := "findGets", inPlace := ["sync/atomic.AddInt64", "sync/atomic.StoreInt64"], unfollowed := true, recurses := true, apart := false, narrowed := true }
def FindGetsUptoSaid : Prop := findGetsUptoRow.holds Tryz.pinned (OpenSpec.upto findGetsSpec)

/-- 'spunyarnlaw14.FindAll', WHERE WHAT IT READS IS OF BULK AT MOST 1048576: true; the input reads as it did. -/
def findAllUptoRow : OpenClaim := { program := "ytfmkhafpbfmadaagreat", sum := "c5b520540e1da49c78b7e2615381deda90f61079710bcb679b37ada99c41a07e", func := "spunyarn/spunyarnlaw14.FindAll", spec := "findAll", inPlace := ["sync/atomic.AddInt64", "sync/atomic.StoreInt64"], unfollowed := true, recurses := true, apart := false, narrowed := true }
def FindAllUptoSaid : Prop := findAllUptoRow.holds Tryz.pinned (OpenSpec.upto findAllSpec)

/-- 'spunyarnlaw14.FindSteps', WHERE WHAT IT READS IS OF BULK AT MOST 1048576: true; the input reads as it did. -/
def findStepsUptoRow : OpenClaim := { program := "ytfmkhafpbfmadaagreat", sum := "c5b520540e1da49c78b7e2615381deda90f61079710bcb679b37ada99c41a07e", func := "spunyarn/spunyarnlaw14.FindSteps", spec := "findSteps", inPlace := ["sync/atomic.AddInt64", "sync/atomic.StoreInt64"], unfollowed := true, recurses := true, apart := false, narrowed := true }
def FindStepsUptoSaid : Prop := findStepsUptoRow.holds Tryz.pinned (OpenSpec.upto findStepsSpec)

/-- 'spunyarnlaw14.FindRaws', WHERE WHAT IT READS IS OF BULK AT MOST 1048576: true; the input reads as it did. -/
def findRawsUptoRow : OpenClaim := { program := "ytfmkhafpbfmadaagreat", sum := "c5b520540e1da49c78b7e2615381deda90f61079710bcb679b37ada99c41a07e", func := "spunyarn/spunyarnlaw14.FindRaws", spec := "findRaws", inPlace := ["sync/atomic.AddInt64", "sync/atomic.StoreInt64"], unfollowed := true, recurses := true, apart := false, narrowed := true }
def FindRawsUptoSaid : Prop := findRawsUptoRow.holds Tryz.pinned (OpenSpec.upto findRawsSpec)

end Rows
end Go.Proofs.YtfmkhafpbfmadaaGreat
