/-
  No cell of these rows narrows 'for every input' (looked for: loops, veiled, ifaces, maps, wideKeys, modest, calm, conditions, laid).
  DERIVED. THE GIVEN ROWS OF THIS SEAT. 3 by the template 'for every input the law returns true; each argument reads behind the call as it read before'; 0 by the template 'total and deterministic' (their statements: YtidiinededalmaaGreatTotals.lean).
  GIVEN WITH THE SEED: the statements are not yours to turn. If you find one false, say at which input.
  Laid BY PROGRAM, IN A SANDBOX (cutbox-rows.mjs): the forced cells as the released guide's own fill.sh prints them over the translation c5e0fc52d04ad51d… (all of the seat's roots in one cut). By AI agents, Wed Nov 11 2026. No macro, syntax, notation, axiom, sorry.
-/
import Derived.Test.YtidiinededalmaaGreatChecked
import GoSem.Claim
import GoSem.ClaimJoined
import GoSem.ClaimMapViews
import Derived.JoinedTies
import Derived.KernelRfl
namespace Go.Proofs.YtidiinededalmaaGreat
/- THE CELL 'sum', in the pinned program and in every row, IS THE sha256 OF THE DUMP (.gsa) THAT YtidiinededalmaaGreatProg.lean LOADS. Nothing in Lean hashes anything: it is a label: what it is worth is what the hold of that sum in a sandbox is worth. -/
noncomputable def Tryz.pinned : Pinned := { name := "ytidiinededalmaagreat", sum := "c5e0fc52d04ad51dfd2c7926271ed46ba9c42bc51746bd70ea09cc4d0b05ec6e", checked := Tryz.checked }
namespace Rows
def none {H : Type} : Left H := { results := [], args := [] }

/-- 'spunyarnlaw17.NearIs': WHATEVER THE INPUT: true; the input reads as it did. -/
def nearIsSpec : ChangeSpec := { name := "nearIs", fn := fun _ => fun
  | [d1, d2] => { results := [.lit (.bool true)], args := [d1, d2] }
  | _ => none }
def nearIsRow : OpenClaim := { program := "ytidiinededalmaagreat", sum := "c5e0fc52d04ad51dfd2c7926271ed46ba9c42bc51746bd70ea09cc4d0b05ec6e", func := "spunyarn/spunyarnlaw17.NearIs", spec := "nearIs", inPlace := ["sync/atomic.AddInt64", "sync/atomic.StoreInt64"], unfollowed := true, recurses := true, apart := false }
def NearIsSaid : Prop := nearIsRow.holds Tryz.pinned (OpenSpec.ofChange nearIsSpec)

/-- ITS FALSE NEIGHBOUR: 'it returns false'. Refute it at one input. -/
def nearIsWrong : ChangeSpec := { name := "nearIs", fn := fun _ => fun
  | [d1, d2] => { results := [.lit (.bool false)], args := [d1, d2] }
  | _ => none }
def NearIsWrongFalsely : Prop := nearIsRow.holds Tryz.pinned (OpenSpec.ofChange nearIsWrong)

/-- 'spunyarnlaw17.NearWalk': WHATEVER THE INPUT: true; the input reads as it did. -/
def nearWalkSpec : ChangeSpec := { name := "nearWalk", fn := fun _ => fun
  | [d] => { results := [.lit (.bool true)], args := [d] }
  | _ => none }
def nearWalkRow : OpenClaim := { program := "ytidiinededalmaagreat", sum := "c5e0fc52d04ad51dfd2c7926271ed46ba9c42bc51746bd70ea09cc4d0b05ec6e", func := "spunyarn/spunyarnlaw17.NearWalk", spec := "nearWalk", inPlace := ["sync/atomic.AddInt64", "sync/atomic.StoreInt64"], unfollowed := true, recurses := true, apart := false }
def NearWalkSaid : Prop := nearWalkRow.holds Tryz.pinned (OpenSpec.ofChange nearWalkSpec)

/-- ITS FALSE NEIGHBOUR: 'it returns false'. Refute it at one input. -/
def nearWalkWrong : ChangeSpec := { name := "nearWalk", fn := fun _ => fun
  | [d] => { results := [.lit (.bool false)], args := [d] }
  | _ => none }
def NearWalkWrongFalsely : Prop := nearWalkRow.holds Tryz.pinned (OpenSpec.ofChange nearWalkWrong)

/-- 'spunyarnlaw17.NearGap': WHATEVER THE INPUT: true; the input reads as it did. -/
def nearGapSpec : ChangeSpec := { name := "nearGap", fn := fun _ => fun
  | [d1, d2] => { results := [.lit (.bool true)], args := [d1, d2] }
  | _ => none }
def nearGapRow : OpenClaim := { program := "ytidiinededalmaagreat", sum := "c5e0fc52d04ad51dfd2c7926271ed46ba9c42bc51746bd70ea09cc4d0b05ec6e", func := "spunyarn/spunyarnlaw17.NearGap", spec := "nearGap", inPlace := ["sync/atomic.AddInt64", "sync/atomic.StoreInt64"], unfollowed := true, recurses := true, apart := false }
def NearGapSaid : Prop := nearGapRow.holds Tryz.pinned (OpenSpec.ofChange nearGapSpec)

/-- ITS FALSE NEIGHBOUR: 'it returns false'. Refute it at one input. -/
def nearGapWrong : ChangeSpec := { name := "nearGap", fn := fun _ => fun
  | [d1, d2] => { results := [.lit (.bool false)], args := [d1, d2] }
  | _ => none }
def NearGapWrongFalsely : Prop := nearGapRow.holds Tryz.pinned (OpenSpec.ofChange nearGapWrong)

/- THE SECOND FORM. 'bulk': how many values and letters a reading holds, each counted each time it is reached (what is shared counts as often as it is met; a slice's spare places count too). A statement '..UptoSaid' is the law's where the arguments, and the package variables that the reading takes, are together of bulk at most 1048576: NARROWER than '..Said'. Prove '..Said' where nothing that the law and all that it calls make is longer than what came in: it says more and counts as full. Else prove '..UptoSaid'. A law counts once. -/
mutual
def uptoBulk {H : Type} : DataW H → Nat
  | .lit (.string bytes) => bytes.length + 1
  | .lit _ => 1
  | .nil => 1
  | .ptr d => uptoBulk d + 1
  | .slice elems spare => uptoBulkAll elems + uptoBulkAll spare + 1
  | .agg parts => uptoBulkAll parts + 1
  | .iface _ d => uptoBulk d + 1
  | .map entries => uptoBulkEntries entries + 1
  | .held _ => 1
def uptoBulkAll {H : Type} : List (DataW H) → Nat
  | [] => 0
  | d :: r => uptoBulk d + uptoBulkAll r
def uptoBulkEntries {H : Type} : List (Lit × DataW H) → Nat
  | [] => 0
  | x :: r => uptoBulkEntry x + uptoBulkEntries r
def uptoBulkEntry {H : Type} : Lit × DataW H → Nat
  | (.string bytes, d) => bytes.length + uptoBulk d + 1
  | (_, d) => uptoBulk d + 1
 end
def uptoSmall : (H : Type) → List (DataW H) → Bool := fun _ ds => decide (uptoBulkAll ds ≤ 1048576)
def OpenSpec.upto (s : _root_.Go.ChangeSpec) : _root_.Go.OpenSpec := { _root_.Go.OpenSpec.ofChange s with cond := some uptoSmall }

/-- 'spunyarnlaw17.NearIs', WHERE WHAT IT READS IS OF BULK AT MOST 1048576: true; the input reads as it did. -/
def nearIsUptoRow : OpenClaim := { program := "ytidiinededalmaagreat", sum := "c5e0fc52d04ad51dfd2c7926271ed46ba9c42bc51746bd70ea09cc4d0b05ec6e", func := "spunyarn/spunyarnlaw17.NearIs", spec := "nearIs", inPlace := ["sync/atomic.AddInt64", "sync/atomic.StoreInt64"], unfollowed := true, recurses := true, apart := false, narrowed := true }
def NearIsUptoSaid : Prop := nearIsUptoRow.holds Tryz.pinned (OpenSpec.upto nearIsSpec)

/-- 'spunyarnlaw17.NearWalk', WHERE WHAT IT READS IS OF BULK AT MOST 1048576: true; the input reads as it did. -/
def nearWalkUptoRow : OpenClaim := { program := "ytidiinededalmaagreat", sum := "c5e0fc52d04ad51dfd2c7926271ed46ba9c42bc51746bd70ea09cc4d0b05ec6e", func := "spunyarn/spunyarnlaw17.NearWalk", spec := "nearWalk", inPlace := ["sync/atomic.AddInt64", "sync/atomic.StoreInt64"], unfollowed := true, recurses := true, apart := false, narrowed := true }
def NearWalkUptoSaid : Prop := nearWalkUptoRow.holds Tryz.pinned (OpenSpec.upto nearWalkSpec)

/-- 'spunyarnlaw17.NearGap', WHERE WHAT IT READS IS OF BULK AT MOST 1048576: true; the input reads as it did. -/
def nearGapUptoRow : OpenClaim := { program := "ytidiinededalmaagreat", sum := "c5e0fc52d04ad51dfd2c7926271ed46ba9c42bc51746bd70ea09cc4d0b05ec6e", func := "spunyarn/spunyarnlaw17.NearGap", spec := "nearGap", inPlace := ["sync/atomic.AddInt64", "sync/atomic.StoreInt64"], unfollowed := true, recurses := true, apart := false, narrowed := true }
def NearGapUptoSaid : Prop := nearGapUptoRow.holds Tryz.pinned (OpenSpec.upto nearGapSpec)

end Rows
end Go.Proofs.YtidiinededalmaaGreat
