/-
  No cell of these rows narrows 'for every input' (looked for: loops, veiled, ifaces, maps, wideKeys, modest, calm, conditions, laid).
  DERIVED. THE GIVEN ROWS OF THIS SEAT. 3 by the template 'for every input the law returns true; each argument reads behind the call as it read before'; 0 by the template 'total and deterministic' (their statements: YtlnbbipgfghfeaaTotals.lean).
  GIVEN WITH THE SEED: the statements are not yours to turn. If you find one false, say at which input.
  Laid BY PROGRAM, IN A SANDBOX (cutbox-rows.mjs): the forced cells as the released guide's own fill.sh prints them over the translation 9ee81b605261cac8… (all of the seat's roots in one cut). By AI agents, Wed Nov 11 2026. No macro, syntax, notation, axiom, sorry.
-/
import Derived.Test.YtlnbbipgfghfeaaChecked
import GoSem.Claim
import GoSem.ClaimJoined
import GoSem.ClaimMapViews
import Derived.JoinedTies
import Derived.KernelRfl
namespace Go.Proofs.Ytlnbbipgfghfeaa
/- THE CELL 'sum', in the pinned program and in every row, IS THE sha256 OF THE DUMP (.gsa) THAT YtlnbbipgfghfeaaProg.lean LOADS. Nothing in Lean hashes anything: it is a label: what it is worth is what the hold of that sum in a sandbox is worth. -/
noncomputable def Try.pinned : Pinned := { name := "ytlnbbipgfghfeaa", sum := "9ee81b605261cac8acd3d8e86f75383e423bf472dc86025e409f327bc28ebaa2", checked := Try.checked }
namespace Rows
def none {H : Type} : Left H := { results := [], args := [] }

/-- 'spunyarnlaw02.UencPuts': WHATEVER THE INPUT: true; the input reads as it did. -/
def uencPutsSpec : ChangeSpec := { name := "uencPuts", fn := fun _ => fun
  | [d1, d2] => { results := [.lit (.bool true)], args := [d1, d2] }
  | _ => none }
def uencPutsRow : OpenClaim := { program := "ytlnbbipgfghfeaa", sum := "9ee81b605261cac8acd3d8e86f75383e423bf472dc86025e409f327bc28ebaa2", func := "spunyarn/spunyarnlaw02.UencPuts", spec := "uencPuts", apart := false }
def UencPutsSaid : Prop := uencPutsRow.holds Try.pinned (OpenSpec.ofChange uencPutsSpec)

/-- ITS FALSE NEIGHBOUR: 'it returns false'. Refute it at one input. -/
def uencPutsWrong : ChangeSpec := { name := "uencPuts", fn := fun _ => fun
  | [d1, d2] => { results := [.lit (.bool false)], args := [d1, d2] }
  | _ => none }
def UencPutsWrongFalsely : Prop := uencPutsRow.holds Try.pinned (OpenSpec.ofChange uencPutsWrong)

/-- 'spunyarnlaw02.UencTakes': WHATEVER THE INPUT: true; the input reads as it did. -/
def uencTakesSpec : ChangeSpec := { name := "uencTakes", fn := fun _ => fun
  | [d1, d2] => { results := [.lit (.bool true)], args := [d1, d2] }
  | _ => none }
def uencTakesRow : OpenClaim := { program := "ytlnbbipgfghfeaa", sum := "9ee81b605261cac8acd3d8e86f75383e423bf472dc86025e409f327bc28ebaa2", func := "spunyarn/spunyarnlaw02.UencTakes", spec := "uencTakes", apart := false }
def UencTakesSaid : Prop := uencTakesRow.holds Try.pinned (OpenSpec.ofChange uencTakesSpec)

/-- ITS FALSE NEIGHBOUR: 'it returns false'. Refute it at one input. -/
def uencTakesWrong : ChangeSpec := { name := "uencTakes", fn := fun _ => fun
  | [d1, d2] => { results := [.lit (.bool false)], args := [d1, d2] }
  | _ => none }
def UencTakesWrongFalsely : Prop := uencTakesRow.holds Try.pinned (OpenSpec.ofChange uencTakesWrong)

/-- 'spunyarnlaw02.UencOrder': WHATEVER THE INPUT: true; the input reads as it did. -/
def uencOrderSpec : ChangeSpec := { name := "uencOrder", fn := fun _ => fun
  | [d1, d2, d3] => { results := [.lit (.bool true)], args := [d1, d2, d3] }
  | _ => none }
def uencOrderRow : OpenClaim := { program := "ytlnbbipgfghfeaa", sum := "9ee81b605261cac8acd3d8e86f75383e423bf472dc86025e409f327bc28ebaa2", func := "spunyarn/spunyarnlaw02.UencOrder", spec := "uencOrder", apart := false }
def UencOrderSaid : Prop := uencOrderRow.holds Try.pinned (OpenSpec.ofChange uencOrderSpec)

/-- ITS FALSE NEIGHBOUR: 'it returns false'. Refute it at one input. -/
def uencOrderWrong : ChangeSpec := { name := "uencOrder", fn := fun _ => fun
  | [d1, d2, d3] => { results := [.lit (.bool false)], args := [d1, d2, d3] }
  | _ => none }
def UencOrderWrongFalsely : Prop := uencOrderRow.holds Try.pinned (OpenSpec.ofChange uencOrderWrong)

/- THE SECOND FORM. 'bulk': how many values and letters a reading holds, each counted each time it is reached (what is shared counts as often as it is met; a slice's spare places count too). A statement '..UptoSaid' is the law's where the arguments, and the package variables that the reading takes, are together of bulk at most 1048576: NARROWER than '..Said'. Prove '..Said' where nothing that the law and all that it calls make is longer than what came in: it says more and counts as full. Else prove '..UptoSaid'. A law counts once. -/
mutual
def uptoBulk {H : Type} : DataW H → Nat
  | .lit (.string bytes) => bytes.length + 1
  | .lit _ => 1
  | .nil => 1
  | .ptr d => uptoBulk d + 1
  | .slice elems spare => uptoBulkAll elems + uptoBulkAll spare + 1
  | .agg parts => uptoBulkAll parts + 1
  | .iface _ d => uptoBulk d + 1
  | .map entries => uptoBulkEntries entries + 1
  | .held _ => 1
def uptoBulkAll {H : Type} : List (DataW H) → Nat
  | [] => 0
  | d :: r => uptoBulk d + uptoBulkAll r
def uptoBulkEntries {H : Type} : List (Lit × DataW H) → Nat
  | [] => 0
  | x :: r => uptoBulkEntry x + uptoBulkEntries r
def uptoBulkEntry {H : Type} : Lit × DataW H → Nat
  | (.string bytes, d) => bytes.length + uptoBulk d + 1
  | (_, d) => uptoBulk d + 1
 end
def uptoSmall : (H : Type) → List (DataW H) → Bool := fun _ ds => decide (uptoBulkAll ds ≤ 1048576)
def OpenSpec.upto (s : _root_.Go.ChangeSpec) : _root_.Go.OpenSpec := { _root_.Go.OpenSpec.ofChange s with cond := some uptoSmall }

/-- 'spunyarnlaw02.UencPuts', WHERE WHAT IT READS IS OF BULK AT MOST 1048576: true; the input reads as it did. -/
def uencPutsUptoRow : OpenClaim := { program := "ytlnbbipgfghfeaa", sum := "9ee81b605261cac8acd3d8e86f75383e423bf472dc86025e409f327bc28ebaa2", func := "spunyarn/spunyarnlaw02.UencPuts", spec := "uencPuts", apart := false, narrowed := true }
def UencPutsUptoSaid : Prop := uencPutsUptoRow.holds Try.pinned (OpenSpec.upto uencPutsSpec)

/-- 'spunyarnlaw02.UencTakes', WHERE WHAT IT READS IS OF BULK AT MOST 1048576: true; the input reads as it did. -/
def uencTakesUptoRow : OpenClaim := { program := "ytlnbbipgfghfeaa", sum := "9ee81b605261cac8acd3d8e86f75383e423bf472dc86025e409f327bc28ebaa2", func := "spunyarn/spunyarnlaw02.UencTakes", spec := "uencTakes", apart := false, narrowed := true }
def UencTakesUptoSaid : Prop := uencTakesUptoRow.holds Try.pinned (OpenSpec.upto uencTakesSpec)

/-- 'spunyarnlaw02.UencOrder', WHERE WHAT IT READS IS OF BULK AT MOST 1048576: true; the input reads as it did. -/
def uencOrderUptoRow : OpenClaim := { program := "ytlnbbipgfghfeaa", sum := "9ee81b605261cac8acd3d8e86f75383e423bf472dc86025e409f327bc28ebaa2", func := "spunyarn/spunyarnlaw02.UencOrder", spec := "uencOrder", apart := false, narrowed := true }
def UencOrderUptoSaid : Prop := uencOrderUptoRow.holds Try.pinned (OpenSpec.upto uencOrderSpec)

end Rows
end Go.Proofs.Ytlnbbipgfghfeaa
