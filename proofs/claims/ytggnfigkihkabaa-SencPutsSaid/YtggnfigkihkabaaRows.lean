/-
  No cell of these rows narrows 'for every input' (looked for: loops, veiled, ifaces, maps, wideKeys, modest, calm, conditions, laid).
  DERIVED. THE GIVEN ROWS OF THIS SEAT. 3 by the template 'for every input the law returns true; each argument reads behind the call as it read before'; 0 by the template 'total and deterministic' (their statements: YtggnfigkihkabaaTotals.lean).
  GIVEN WITH THE SEED: the statements are not yours to turn. If you find one false, say at which input.
  Laid BY PROGRAM, IN A SANDBOX (cutbox-rows.mjs): the forced cells as the released guide's own fill.sh prints them over the translation 94a3a325168a0341… (all of the seat's roots in one cut). By AI agents, Wed Nov 11 2026. No macro, syntax, notation, axiom, sorry.
-/
import Derived.Test.YtggnfigkihkabaaChecked
import GoSem.Claim
import GoSem.ClaimJoined
import GoSem.ClaimMapViews
import Derived.JoinedTies
import Derived.KernelRfl
namespace Go.Proofs.Ytggnfigkihkabaa
/- THE CELL 'sum', in the pinned program and in every row, IS THE sha256 OF THE DUMP (.gsa) THAT YtggnfigkihkabaaProg.lean LOADS. Nothing in Lean hashes anything: it is a label: what it is worth is what the hold of that sum in a sandbox is worth. -/
noncomputable def Try.pinned : Pinned := { name := "ytggnfigkihkabaa", sum := "94a3a325168a03419d2de27fd5c3e58bca19d7243c2f57f7e0ac76b65605d0c6", checked := Try.checked }
namespace Rows
def none {H : Type} : Left H := { results := [], args := [] }

/-- 'spunyarnlaw04.SencPuts': WHATEVER THE INPUT: true; the input reads as it did. -/
def sencPutsSpec : ChangeSpec := { name := "sencPuts", fn := fun _ => fun
  | [d] => { results := [.lit (.bool true)], args := [d] }
  | _ => none }
def sencPutsRow : OpenClaim := { program := "ytggnfigkihkabaa", sum := "94a3a325168a03419d2de27fd5c3e58bca19d7243c2f57f7e0ac76b65605d0c6", func := "spunyarn/spunyarnlaw04.SencPuts", spec := "sencPuts", apart := false }
def SencPutsSaid : Prop := sencPutsRow.holds Try.pinned (OpenSpec.ofChange sencPutsSpec)

/-- ITS FALSE NEIGHBOUR: 'it returns false'. Refute it at one input. -/
def sencPutsWrong : ChangeSpec := { name := "sencPuts", fn := fun _ => fun
  | [d] => { results := [.lit (.bool false)], args := [d] }
  | _ => none }
def SencPutsWrongFalsely : Prop := sencPutsRow.holds Try.pinned (OpenSpec.ofChange sencPutsWrong)

/-- 'spunyarnlaw04.SencTakes': WHATEVER THE INPUT: true; the input reads as it did. -/
def sencTakesSpec : ChangeSpec := { name := "sencTakes", fn := fun _ => fun
  | [d] => { results := [.lit (.bool true)], args := [d] }
  | _ => none }
def sencTakesRow : OpenClaim := { program := "ytggnfigkihkabaa", sum := "94a3a325168a03419d2de27fd5c3e58bca19d7243c2f57f7e0ac76b65605d0c6", func := "spunyarn/spunyarnlaw04.SencTakes", spec := "sencTakes", apart := false }
def SencTakesSaid : Prop := sencTakesRow.holds Try.pinned (OpenSpec.ofChange sencTakesSpec)

/-- ITS FALSE NEIGHBOUR: 'it returns false'. Refute it at one input. -/
def sencTakesWrong : ChangeSpec := { name := "sencTakes", fn := fun _ => fun
  | [d] => { results := [.lit (.bool false)], args := [d] }
  | _ => none }
def SencTakesWrongFalsely : Prop := sencTakesRow.holds Try.pinned (OpenSpec.ofChange sencTakesWrong)

/-- 'spunyarnlaw04.SencOrder': WHATEVER THE INPUT: true; the input reads as it did. -/
def sencOrderSpec : ChangeSpec := { name := "sencOrder", fn := fun _ => fun
  | [d1, d2, d3] => { results := [.lit (.bool true)], args := [d1, d2, d3] }
  | _ => none }
def sencOrderRow : OpenClaim := { program := "ytggnfigkihkabaa", sum := "94a3a325168a03419d2de27fd5c3e58bca19d7243c2f57f7e0ac76b65605d0c6", func := "spunyarn/spunyarnlaw04.SencOrder", spec := "sencOrder", apart := false }
def SencOrderSaid : Prop := sencOrderRow.holds Try.pinned (OpenSpec.ofChange sencOrderSpec)

/-- ITS FALSE NEIGHBOUR: 'it returns false'. Refute it at one input. -/
def sencOrderWrong : ChangeSpec := { name := "sencOrder", fn := fun _ => fun
  | [d1, d2, d3] => { results := [.lit (.bool false)], args := [d1, d2, d3] }
  | _ => none }
def SencOrderWrongFalsely : Prop := sencOrderRow.holds Try.pinned (OpenSpec.ofChange sencOrderWrong)

/- THE SECOND FORM. 'bulk': how many values and letters a reading holds, each counted each time it is reached (what is shared counts as often as it is met; a slice's spare places count too). A statement '..UptoSaid' is the law's where the arguments, and the package variables that the reading takes, are together of bulk at most 1048576: NARROWER than '..Said'. Prove '..Said' where nothing that the law and all that it calls make is longer than what came in: it says more and counts as full. Else prove '..UptoSaid'. A law counts once. -/
mutual
def uptoBulk {H : Type} : DataW H → Nat
  | .lit (.string bytes) => bytes.length + 1
  | .lit _ => 1
  | .nil => 1
  | .ptr d => uptoBulk d + 1
  | .slice elems spare => uptoBulkAll elems + uptoBulkAll spare + 1
  | .agg parts => uptoBulkAll parts + 1
  | .iface _ d => uptoBulk d + 1
  | .map entries => uptoBulkEntries entries + 1
  | .held _ => 1
def uptoBulkAll {H : Type} : List (DataW H) → Nat
  | [] => 0
  | d :: r => uptoBulk d + uptoBulkAll r
def uptoBulkEntries {H : Type} : List (Lit × DataW H) → Nat
  | [] => 0
  | x :: r => uptoBulkEntry x + uptoBulkEntries r
def uptoBulkEntry {H : Type} : Lit × DataW H → Nat
  | (.string bytes, d) => bytes.length + uptoBulk d + 1
  | (_, d) => uptoBulk d + 1
 end
def uptoSmall : (H : Type) → List (DataW H) → Bool := fun _ ds => decide (uptoBulkAll ds ≤ 1048576)
def OpenSpec.upto (s : _root_.Go.ChangeSpec) : _root_.Go.OpenSpec := { _root_.Go.OpenSpec.ofChange s with cond := some uptoSmall }

/-- 'spunyarnlaw04.SencPuts', WHERE WHAT IT READS IS OF BULK AT MOST 1048576: true; the input reads as it did. -/
def sencPutsUptoRow : OpenClaim := { program := "ytggnfigkihkabaa", sum := "94a3a325168a03419d2de27fd5c3e58bca19d7243c2f57f7e0ac76b65605d0c6", func := "spunyarn/spunyarnlaw04.SencPuts", spec := "sencPuts", apart := false, narrowed := true }
def SencPutsUptoSaid : Prop := sencPutsUptoRow.holds Try.pinned (OpenSpec.upto sencPutsSpec)

/-- 'spunyarnlaw04.SencTakes', WHERE WHAT IT READS IS OF BULK AT MOST 1048576: true; the input reads as it did. -/
def sencTakesUptoRow : OpenClaim := { program := "ytggnfigkihkabaa", sum := "94a3a325168a03419d2de27fd5c3e58bca19d7243c2f57f7e0ac76b65605d0c6", func := "spunyarn/spunyarnlaw04.SencTakes", spec := "sencTakes", apart := false, narrowed := true }
def SencTakesUptoSaid : Prop := sencTakesUptoRow.holds Try.pinned (OpenSpec.upto sencTakesSpec)

/-- 'spunyarnlaw04.SencOrder', WHERE WHAT IT READS IS OF BULK AT MOST 1048576: true; the input reads as it did. -/
def sencOrderUptoRow : OpenClaim := { program := "ytggnfigkihkabaa", sum := "94a3a325168a03419d2de27fd5c3e58bca19d7243c2f57f7e0ac76b65605d0c6", func := "spunyarn/spunyarnlaw04.SencOrder", spec := "sencOrder", apart := false, narrowed := true }
def SencOrderUptoSaid : Prop := sencOrderUptoRow.holds Try.pinned (OpenSpec.upto sencOrderSpec)

end Rows
end Go.Proofs.Ytggnfigkihkabaa
