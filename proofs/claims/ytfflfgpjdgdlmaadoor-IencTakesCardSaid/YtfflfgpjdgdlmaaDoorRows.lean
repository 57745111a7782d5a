/-
  NARROWER THAN 'FOR EVERY INPUT', by the rows' own cells (each row's printed sentence says how): IencPuts: laid · IencTakes: laid · IencOrder: laid.
  DERIVED. THE GIVEN ROWS OF THIS SEAT. 3 by the template 'for every input the law returns true; each argument reads behind the call as it read before'; 0 by the template 'total and deterministic' (their statements: YtfflfgpjdgdlmaaDoorTotals.lean).
  GIVEN WITH THE SEED: the statements are not yours to turn. If you find one false, say at which input.
  Laid BY PROGRAM, IN A SANDBOX (cutbox-rows.mjs): the forced cells as the released guide's own fill.sh prints them over the translation 7209975a27f4b1da… (all of the seat's roots in one cut). By AI agents, Wed Nov 11 2026. No macro, syntax, notation, axiom, sorry.
-/
import Derived.Test.YtfflfgpjdgdlmaaDoorChecked
import GoSem.Claim
import GoSem.ClaimJoined
import GoSem.ClaimMapViews
import Derived.JoinedTies
import Derived.KernelRfl
namespace Go.Proofs.YtfflfgpjdgdlmaaDoor
/- THE CELL 'sum', in the pinned program and in every row, IS THE sha256 OF THE DUMP (.gsa) THAT YtfflfgpjdgdlmaaDoorProg.lean LOADS. Nothing in Lean hashes anything: it is a label: what it is worth is what the hold of that sum in a sandbox is worth. -/
noncomputable def Tryd.pinned : Pinned := { name := "ytfflfgpjdgdlmaadoor", sum := "7209975a27f4b1da50d8db2c033ddb33814edddfaacf972b877f2efb2dd01216", checked := Tryd.checked }
namespace Rows
def none {H : Type} : Left H := { results := [], args := [] }

/- WHAT THE LISTED PACKAGE-LEVEL VARIABLES READ AS WHEN THE CALL BEGINS. Each datum BY PROGRAM (the guide's laid-datum.mjs) off the statement by which the dump's own 'gosem.cut.vars' lays the variable. In a bare row this is a premise. The card (YtfflfgpjdgdlmaaDoorCards.lean) ties it to the program's text. -/
def laid_spunyarn_ienc_widths {H : Type} : DataW H := .agg [.agg [.lit (.int .i64 1), .lit (.int .i64 (-128)), .lit (.int .i64 127)], .agg [.lit (.int .i64 2), .lit (.int .i64 (-32768)), .lit (.int .i64 32767)], .agg [.lit (.int .i64 4), .lit (.int .i64 (-2147483648)), .lit (.int .i64 2147483647)], .agg [.lit (.int .i64 8), .lit (.int .i64 (-9223372036854775808)), .lit (.int .i64 9223372036854775807)]]

/-- 'spunyarnlaw03.IencPuts': WHATEVER THE INPUT: true; the input reads as it did. -/
def iencPutsSpec : ChangeSpec := { name := "iencPuts", fn := fun _ => fun
  | [d1, d2] => { results := [.lit (.bool true)], args := [d1, d2] }
  | _ => none }
def iencPutsRow : OpenClaim := { program := "ytfflfgpjdgdlmaadoor", sum := "7209975a27f4b1da50d8db2c033ddb33814edddfaacf972b877f2efb2dd01216", func := "spunyarn/spunyarnlaw03.IencPuts", spec := "iencPuts", named := ["spunyarn/ienc.widths"], apart := false, laid := [("spunyarn/ienc.widths", laid_spunyarn_ienc_widths)] }
def IencPutsSaid : Prop := iencPutsRow.holds Tryd.pinned (OpenSpec.ofChange iencPutsSpec)

/-- ITS FALSE NEIGHBOUR: 'it returns false'. Refute it at one input. -/
def iencPutsWrong : ChangeSpec := { name := "iencPuts", fn := fun _ => fun
  | [d1, d2] => { results := [.lit (.bool false)], args := [d1, d2] }
  | _ => none }
def IencPutsWrongFalsely : Prop := iencPutsRow.holds Tryd.pinned (OpenSpec.ofChange iencPutsWrong)

/-- 'spunyarnlaw03.IencTakes': WHATEVER THE INPUT: true; the input reads as it did. -/
def iencTakesSpec : ChangeSpec := { name := "iencTakes", fn := fun _ => fun
  | [d1, d2] => { results := [.lit (.bool true)], args := [d1, d2] }
  | _ => none }
def iencTakesRow : OpenClaim := { program := "ytfflfgpjdgdlmaadoor", sum := "7209975a27f4b1da50d8db2c033ddb33814edddfaacf972b877f2efb2dd01216", func := "spunyarn/spunyarnlaw03.IencTakes", spec := "iencTakes", named := ["spunyarn/ienc.widths"], apart := false, laid := [("spunyarn/ienc.widths", laid_spunyarn_ienc_widths)] }
def IencTakesSaid : Prop := iencTakesRow.holds Tryd.pinned (OpenSpec.ofChange iencTakesSpec)

/-- ITS FALSE NEIGHBOUR: 'it returns false'. Refute it at one input. -/
def iencTakesWrong : ChangeSpec := { name := "iencTakes", fn := fun _ => fun
  | [d1, d2] => { results := [.lit (.bool false)], args := [d1, d2] }
  | _ => none }
def IencTakesWrongFalsely : Prop := iencTakesRow.holds Tryd.pinned (OpenSpec.ofChange iencTakesWrong)

/-- 'spunyarnlaw03.IencOrder': WHATEVER THE INPUT: true; the input reads as it did. -/
def iencOrderSpec : ChangeSpec := { name := "iencOrder", fn := fun _ => fun
  | [d1, d2, d3] => { results := [.lit (.bool true)], args := [d1, d2, d3] }
  | _ => none }
def iencOrderRow : OpenClaim := { program := "ytfflfgpjdgdlmaadoor", sum := "7209975a27f4b1da50d8db2c033ddb33814edddfaacf972b877f2efb2dd01216", func := "spunyarn/spunyarnlaw03.IencOrder", spec := "iencOrder", named := ["spunyarn/ienc.widths"], apart := false, laid := [("spunyarn/ienc.widths", laid_spunyarn_ienc_widths)] }
def IencOrderSaid : Prop := iencOrderRow.holds Tryd.pinned (OpenSpec.ofChange iencOrderSpec)

/-- ITS FALSE NEIGHBOUR: 'it returns false'. Refute it at one input. -/
def iencOrderWrong : ChangeSpec := { name := "iencOrder", fn := fun _ => fun
  | [d1, d2, d3] => { results := [.lit (.bool false)], args := [d1, d2, d3] }
  | _ => none }
def IencOrderWrongFalsely : Prop := iencOrderRow.holds Tryd.pinned (OpenSpec.ofChange iencOrderWrong)

/- THE SECOND FORM. 'bulk': how many values and letters a reading holds, each counted each time it is reached (what is shared counts as often as it is met; a slice's spare places count too). A statement '..UptoSaid' is the law's where the arguments, and the package variables that the reading takes, are together of bulk at most 1048576: NARROWER than '..Said'. Prove '..Said' where nothing that the law and all that it calls make is longer than what came in: it says more and counts as full. Else prove '..UptoSaid'. A law counts once. -/
mutual
def uptoBulk {H : Type} : DataW H → Nat
  | .lit (.string bytes) => bytes.length + 1
  | .lit _ => 1
  | .nil => 1
  | .ptr d => uptoBulk d + 1
  | .slice elems spare => uptoBulkAll elems + uptoBulkAll spare + 1
  | .agg parts => uptoBulkAll parts + 1
  | .iface _ d => uptoBulk d + 1
  | .map entries => uptoBulkEntries entries + 1
  | .held _ => 1
def uptoBulkAll {H : Type} : List (DataW H) → Nat
  | [] => 0
  | d :: r => uptoBulk d + uptoBulkAll r
def uptoBulkEntries {H : Type} : List (Lit × DataW H) → Nat
  | [] => 0
  | x :: r => uptoBulkEntry x + uptoBulkEntries r
def uptoBulkEntry {H : Type} : Lit × DataW H → Nat
  | (.string bytes, d) => bytes.length + uptoBulk d + 1
  | (_, d) => uptoBulk d + 1
 end
def uptoSmall : (H : Type) → List (DataW H) → Bool := fun _ ds => decide (uptoBulkAll ds ≤ 1048576)
def OpenSpec.upto (s : _root_.Go.ChangeSpec) : _root_.Go.OpenSpec := { _root_.Go.OpenSpec.ofChange s with cond := some uptoSmall }

/-- 'spunyarnlaw03.IencPuts', WHERE WHAT IT READS IS OF BULK AT MOST 1048576: true; the input reads as it did. -/
def iencPutsUptoRow : OpenClaim := { program := "ytfflfgpjdgdlmaadoor", sum := "7209975a27f4b1da50d8db2c033ddb33814edddfaacf972b877f2efb2dd01216", func := "spunyarn/spunyarnlaw03.IencPuts", spec := "iencPuts", named := ["spunyarn/ienc.widths"], apart := false, laid := [("spunyarn/ienc.widths", laid_spunyarn_ienc_widths)], narrowed := true }
def IencPutsUptoSaid : Prop := iencPutsUptoRow.holds Tryd.pinned (OpenSpec.upto iencPutsSpec)

/-- 'spunyarnlaw03.IencTakes', WHERE WHAT IT READS IS OF BULK AT MOST 1048576: true; the input reads as it did. -/
def iencTakesUptoRow : OpenClaim := { program := "ytfflfgpjdgdlmaadoor", sum := "7209975a27f4b1da50d8db2c033ddb33814edddfaacf972b877f2efb2dd01216", func := "spunyarn/spunyarnlaw03.IencTakes", spec := "iencTakes", named := ["spunyarn/ienc.widths"], apart := false, laid := [("spunyarn/ienc.widths", laid_spunyarn_ienc_widths)], narrowed := true }
def IencTakesUptoSaid : Prop := iencTakesUptoRow.holds Tryd.pinned (OpenSpec.upto iencTakesSpec)

/-- 'spunyarnlaw03.IencOrder', WHERE WHAT IT READS IS OF BULK AT MOST 1048576: true; the input reads as it did. -/
def iencOrderUptoRow : OpenClaim := { program := "ytfflfgpjdgdlmaadoor", sum := "7209975a27f4b1da50d8db2c033ddb33814edddfaacf972b877f2efb2dd01216", func := "spunyarn/spunyarnlaw03.IencOrder", spec := "iencOrder", named := ["spunyarn/ienc.widths"], apart := false, laid := [("spunyarn/ienc.widths", laid_spunyarn_ienc_widths)], narrowed := true }
def IencOrderUptoSaid : Prop := iencOrderUptoRow.holds Tryd.pinned (OpenSpec.upto iencOrderSpec)

end Rows
end Go.Proofs.YtfflfgpjdgdlmaaDoor
