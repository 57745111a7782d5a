/-
  No cell of these rows narrows 'for every input' (looked for: loops, veiled, ifaces, maps, wideKeys, modest, calm, conditions, laid).
  DERIVED. THE GIVEN ROWS OF THIS SEAT. 3 by the template 'for every input the law returns true; each argument reads behind the call as it read before'; 0 by the template 'total and deterministic' (their statements: YtgaoefhmjdhacaaTotals.lean).
  GIVEN WITH THE SEED: the statements are not yours to turn. If you find one false, say at which input.
  Laid BY PROGRAM, IN A SANDBOX (cutbox-rows.mjs): the forced cells as the released guide's own fill.sh prints them over the translation e575462e88049c85… (all of the seat's roots in one cut). By AI agents, Wed Nov 11 2026. No macro, syntax, notation, axiom, sorry.
-/
import Derived.Test.YtgaoefhmjdhacaaChecked
import GoSem.Claim
import GoSem.ClaimJoined
import GoSem.ClaimMapViews
import Derived.JoinedTies
import Derived.KernelRfl
namespace Go.Proofs.Ytgaoefhmjdhacaa
/- THE CELL 'sum', in the pinned program and in every row, IS THE sha256 OF THE DUMP (.gsa) THAT YtgaoefhmjdhacaaProg.lean LOADS. Nothing in Lean hashes anything: it is a label: what it is worth is what the hold of that sum in a sandbox is worth. -/
noncomputable def Try.pinned : Pinned := { name := "ytgaoefhmjdhacaa", sum := "e575462e88049c850e884f07962ac5edfc4bdc449a1b9f6314e671de5eceb38d", checked := Try.checked }
namespace Rows
def none {H : Type} : Left H := { results := [], args := [] }

/-- 'spunyarnlaw10.WidePlays': WHATEVER THE INPUT: true; the input reads as it did. -/
def widePlaysSpec : ChangeSpec := { name := "widePlays", fn := fun _ => fun
  | [d1, d2, d3] => { results := [.lit (.bool true)], args := [d1, d2, d3] }
  | _ => none }
def widePlaysRow : OpenClaim := { program := "ytgaoefhmjdhacaa", sum := "e575462e88049c850e884f07962ac5edfc4bdc449a1b9f6314e671de5eceb38d", func := "spunyarn/spunyarnlaw10.WidePlays", spec := "widePlays", apart := false }
def WidePlaysSaid : Prop := widePlaysRow.holds Try.pinned (OpenSpec.ofChange widePlaysSpec)

/-- ITS FALSE NEIGHBOUR: 'it returns false'. Refute it at one input. -/
def widePlaysWrong : ChangeSpec := { name := "widePlays", fn := fun _ => fun
  | [d1, d2, d3] => { results := [.lit (.bool false)], args := [d1, d2, d3] }
  | _ => none }
def WidePlaysWrongFalsely : Prop := widePlaysRow.holds Try.pinned (OpenSpec.ofChange widePlaysWrong)

/-- 'spunyarnlaw10.WideCopies': WHATEVER THE INPUT: true; the input reads as it did. -/
def wideCopiesSpec : ChangeSpec := { name := "wideCopies", fn := fun _ => fun
  | [d1, d2] => { results := [.lit (.bool true)], args := [d1, d2] }
  | _ => none }
def wideCopiesRow : OpenClaim := { program := "ytgaoefhmjdhacaa", sum := "e575462e88049c850e884f07962ac5edfc4bdc449a1b9f6314e671de5eceb38d", func := "spunyarn/spunyarnlaw10.WideCopies", spec := "wideCopies", apart := false }
def WideCopiesSaid : Prop := wideCopiesRow.holds Try.pinned (OpenSpec.ofChange wideCopiesSpec)

/-- ITS FALSE NEIGHBOUR: 'it returns false'. Refute it at one input. -/
def wideCopiesWrong : ChangeSpec := { name := "wideCopies", fn := fun _ => fun
  | [d1, d2] => { results := [.lit (.bool false)], args := [d1, d2] }
  | _ => none }
def WideCopiesWrongFalsely : Prop := wideCopiesRow.holds Try.pinned (OpenSpec.ofChange wideCopiesWrong)

/-- 'spunyarnlaw10.WideNobody': WHATEVER THE INPUT: true; the input reads as it did. -/
def wideNobodySpec : ChangeSpec := { name := "wideNobody", fn := fun _ => fun
  | [d1, d2] => { results := [.lit (.bool true)], args := [d1, d2] }
  | _ => none }
def wideNobodyRow : OpenClaim := { program := "ytgaoefhmjdhacaa", sum := "e575462e88049c850e884f07962ac5edfc4bdc449a1b9f6314e671de5eceb38d", func := "spunyarn/spunyarnlaw10.WideNobody", spec := "wideNobody", apart := false }
def WideNobodySaid : Prop := wideNobodyRow.holds Try.pinned (OpenSpec.ofChange wideNobodySpec)

/-- ITS FALSE NEIGHBOUR: 'it returns false'. Refute it at one input. -/
def wideNobodyWrong : ChangeSpec := { name := "wideNobody", fn := fun _ => fun
  | [d1, d2] => { results := [.lit (.bool false)], args := [d1, d2] }
  | _ => none }
def WideNobodyWrongFalsely : Prop := wideNobodyRow.holds Try.pinned (OpenSpec.ofChange wideNobodyWrong)

/- THE SECOND FORM. 'bulk': how many values and letters a reading holds, each counted each time it is reached (what is shared counts as often as it is met; a slice's spare places count too). A statement '..UptoSaid' is the law's where the arguments, and the package variables that the reading takes, are together of bulk at most 1048576: NARROWER than '..Said'. Prove '..Said' where nothing that the law and all that it calls make is longer than what came in: it says more and counts as full. Else prove '..UptoSaid'. A law counts once. -/
mutual
def uptoBulk {H : Type} : DataW H → Nat
  | .lit (.string bytes) => bytes.length + 1
  | .lit _ => 1
  | .nil => 1
  | .ptr d => uptoBulk d + 1
  | .slice elems spare => uptoBulkAll elems + uptoBulkAll spare + 1
  | .agg parts => uptoBulkAll parts + 1
  | .iface _ d => uptoBulk d + 1
  | .map entries => uptoBulkEntries entries + 1
  | .held _ => 1
def uptoBulkAll {H : Type} : List (DataW H) → Nat
  | [] => 0
  | d :: r => uptoBulk d + uptoBulkAll r
def uptoBulkEntries {H : Type} : List (Lit × DataW H) → Nat
  | [] => 0
  | x :: r => uptoBulkEntry x + uptoBulkEntries r
def uptoBulkEntry {H : Type} : Lit × DataW H → Nat
  | (.string bytes, d) => bytes.length + uptoBulk d + 1
  | (_, d) => uptoBulk d + 1
 end
def uptoSmall : (H : Type) → List (DataW H) → Bool := fun _ ds => decide (uptoBulkAll ds ≤ 1048576)
def OpenSpec.upto (s : _root_.Go.ChangeSpec) : _root_.Go.OpenSpec := { _root_.Go.OpenSpec.ofChange s with cond := some uptoSmall }

/-- 'spunyarnlaw10.WidePlays', WHERE WHAT IT READS IS OF BULK AT MOST 1048576: true; the input reads as it did. -/
def widePlaysUptoRow : OpenClaim := { program := "ytgaoefhmjdhacaa", sum := "e575462e88049c850e884f07962ac5edfc4bdc449a1b9f6314e671de5eceb38d", func := "spunyarn/spunyarnlaw10.WidePlays", spec := "widePlays", apart := false, narrowed := true }
def WidePlaysUptoSaid : Prop := widePlaysUptoRow.holds Try.pinned (OpenSpec.upto widePlaysSpec)

/-- 'spunyarnlaw10.WideCopies', WHERE WHAT IT READS IS OF BULK AT MOST 1048576: true; the input reads as it did. -/
def wideCopiesUptoRow : OpenClaim := { program := "ytgaoefhmjdhacaa", sum := "e575462e88049c850e884f07962ac5edfc4bdc449a1b9f6314e671de5eceb38d", func := "spunyarn/spunyarnlaw10.WideCopies", spec := "wideCopies", apart := false, narrowed := true }
def WideCopiesUptoSaid : Prop := wideCopiesUptoRow.holds Try.pinned (OpenSpec.upto wideCopiesSpec)

/-- 'spunyarnlaw10.WideNobody', WHERE WHAT IT READS IS OF BULK AT MOST 1048576: true; the input reads as it did. -/
def wideNobodyUptoRow : OpenClaim := { program := "ytgaoefhmjdhacaa", sum := "e575462e88049c850e884f07962ac5edfc4bdc449a1b9f6314e671de5eceb38d", func := "spunyarn/spunyarnlaw10.WideNobody", spec := "wideNobody", apart := false, narrowed := true }
def WideNobodyUptoSaid : Prop := wideNobodyUptoRow.holds Try.pinned (OpenSpec.upto wideNobodySpec)

end Rows
end Go.Proofs.Ytgaoefhmjdhacaa
