/-
  NARROWER THAN 'FOR EVERY INPUT', by the rows' own cells (each row's printed sentence says how): TuplePuts: laid · TupleGets: laid · TupleParses: laid · TupleOrder: laid.
  DERIVED. THE GIVEN ROWS OF THIS SEAT. 4 by the template 'for every input the law returns true; each argument reads behind the call as it read before'; 0 by the template 'total and deterministic' (their statements: YtdpddkpfllioiaaDoorTotals.lean).
  GIVEN WITH THE SEED: the statements are not yours to turn. If you find one false, say at which input.
  Laid BY PROGRAM, IN A SANDBOX (cutbox-rows.mjs): the forced cells as the released guide's own fill.sh prints them over the translation 616b5dc3b32453d5… (all of the seat's roots in one cut). By AI agents, Wed Nov 11 2026. No macro, syntax, notation, axiom, sorry.
-/
import Derived.Test.YtdpddkpfllioiaaDoorChecked
import GoSem.Claim
import GoSem.ClaimJoined
import GoSem.ClaimMapViews
import Derived.JoinedTies
import Derived.KernelRfl
namespace Go.Proofs.YtdpddkpfllioiaaDoor
/- THE CELL 'sum', in the pinned program and in every row, IS THE sha256 OF THE DUMP (.gsa) THAT YtdpddkpfllioiaaDoorProg.lean LOADS. Nothing in Lean hashes anything: it is a label: what it is worth is what the hold of that sum in a sandbox is worth. -/
noncomputable def Tryd.pinned : Pinned := { name := "ytdpddkpfllioiaadoor", sum := "616b5dc3b32453d585b161b8032d7b9b2963547f906767a92c53b4dd7d804061", checked := Tryd.checked }
namespace Rows
def none {H : Type} : Left H := { results := [], args := [] }

/- WHAT THE LISTED PACKAGE-LEVEL VARIABLES READ AS WHEN THE CALL BEGINS. Each datum BY PROGRAM (the guide's laid-datum.mjs) off the statement by which the dump's own 'gosem.cut.vars' lays the variable. In a bare row this is a premise. The card (YtdpddkpfllioiaaDoorCards.lean) ties it to the program's text. -/
def laid_spunyarn_ienc_widths {H : Type} : DataW H := .agg [.agg [.lit (.int .i64 1), .lit (.int .i64 (-128)), .lit (.int .i64 127)], .agg [.lit (.int .i64 2), .lit (.int .i64 (-32768)), .lit (.int .i64 32767)], .agg [.lit (.int .i64 4), .lit (.int .i64 (-2147483648)), .lit (.int .i64 2147483647)], .agg [.lit (.int .i64 8), .lit (.int .i64 (-9223372036854775808)), .lit (.int .i64 9223372036854775807)]]
def laid_spunyarn_tuple_names {H : Type} : DataW H := .agg [.lit (.string []), .lit (.string [117, 56]), .lit (.string [117, 49, 54]), .lit (.string [117, 51, 50]), .lit (.string [117, 54, 52]), .lit (.string [105, 56]), .lit (.string [105, 49, 54]), .lit (.string [105, 51, 50]), .lit (.string [105, 54, 52]), .lit (.string [98, 111, 111, 108]), .lit (.string [116, 101, 120, 116])]

/-- 'spunyarnlaw06.TuplePuts': WHATEVER THE INPUT: true; the input reads as it did. -/
def tuplePutsSpec : ChangeSpec := { name := "tuplePuts", fn := fun _ => fun
  | [d1, d2] => { results := [.lit (.bool true)], args := [d1, d2] }
  | _ => none }
def tuplePutsRow : OpenClaim := { program := "ytdpddkpfllioiaadoor", sum := "616b5dc3b32453d585b161b8032d7b9b2963547f906767a92c53b4dd7d804061", func := "spunyarn/spunyarnlaw06.TuplePuts", spec := "tuplePuts", inPlace := ["internal/bytealg.IndexByteString", "internal/bytealg.IndexString", "internal/abi.NoEscape", "internal/bytealg.MakeNoZero", "internal/bytealg.Compare"], named := ["internal/bytealg.MaxLen", "spunyarn/tuple.names", "spunyarn/ienc.widths"], apart := false, laid := [("spunyarn/ienc.widths", laid_spunyarn_ienc_widths), ("spunyarn/tuple.names", laid_spunyarn_tuple_names)] }
def TuplePutsSaid : Prop := tuplePutsRow.holds Tryd.pinned (OpenSpec.ofChange tuplePutsSpec)

/-- ITS FALSE NEIGHBOUR: 'it returns false'. Refute it at one input. -/
def tuplePutsWrong : ChangeSpec := { name := "tuplePuts", fn := fun _ => fun
  | [d1, d2] => { results := [.lit (.bool false)], args := [d1, d2] }
  | _ => none }
def TuplePutsWrongFalsely : Prop := tuplePutsRow.holds Tryd.pinned (OpenSpec.ofChange tuplePutsWrong)

/-- 'spunyarnlaw06.TupleGets': WHATEVER THE INPUT: true; the input reads as it did. -/
def tupleGetsSpec : ChangeSpec := { name := "tupleGets", fn := fun _ => fun
  | [d1, d2, d3] => { results := [.lit (.bool true)], args := [d1, d2, d3] }
  | _ => none }
def tupleGetsRow : OpenClaim := { program := "ytdpddkpfllioiaadoor", sum := "616b5dc3b32453d585b161b8032d7b9b2963547f906767a92c53b4dd7d804061", func := "spunyarn/spunyarnlaw06.TupleGets", spec := "tupleGets", inPlace := ["internal/bytealg.IndexByteString", "internal/bytealg.IndexString", "internal/abi.NoEscape", "internal/bytealg.MakeNoZero", "internal/bytealg.Compare"], named := ["internal/bytealg.MaxLen", "spunyarn/tuple.names", "spunyarn/ienc.widths"], apart := false, laid := [("spunyarn/ienc.widths", laid_spunyarn_ienc_widths), ("spunyarn/tuple.names", laid_spunyarn_tuple_names)] }
def TupleGetsSaid : Prop := tupleGetsRow.holds Tryd.pinned (OpenSpec.ofChange tupleGetsSpec)

/-- ITS FALSE NEIGHBOUR: 'it returns false'. Refute it at one input. -/
def tupleGetsWrong : ChangeSpec := { name := "tupleGets", fn := fun _ => fun
  | [d1, d2, d3] => { results := [.lit (.bool false)], args := [d1, d2, d3] }
  | _ => none }
def TupleGetsWrongFalsely : Prop := tupleGetsRow.holds Tryd.pinned (OpenSpec.ofChange tupleGetsWrong)

/-- 'spunyarnlaw06.TupleParses': WHATEVER THE INPUT: true; the input reads as it did. -/
def tupleParsesSpec : ChangeSpec := { name := "tupleParses", fn := fun _ => fun
  | [d1, d2] => { results := [.lit (.bool true)], args := [d1, d2] }
  | _ => none }
def tupleParsesRow : OpenClaim := { program := "ytdpddkpfllioiaadoor", sum := "616b5dc3b32453d585b161b8032d7b9b2963547f906767a92c53b4dd7d804061", func := "spunyarn/spunyarnlaw06.TupleParses", spec := "tupleParses", inPlace := ["internal/bytealg.IndexByteString", "internal/bytealg.IndexString", "internal/abi.NoEscape", "internal/bytealg.MakeNoZero", "internal/bytealg.Compare"], named := ["internal/bytealg.MaxLen", "spunyarn/tuple.names", "spunyarn/ienc.widths"], apart := false, laid := [("spunyarn/ienc.widths", laid_spunyarn_ienc_widths), ("spunyarn/tuple.names", laid_spunyarn_tuple_names)] }
def TupleParsesSaid : Prop := tupleParsesRow.holds Tryd.pinned (OpenSpec.ofChange tupleParsesSpec)

/-- ITS FALSE NEIGHBOUR: 'it returns false'. Refute it at one input. -/
def tupleParsesWrong : ChangeSpec := { name := "tupleParses", fn := fun _ => fun
  | [d1, d2] => { results := [.lit (.bool false)], args := [d1, d2] }
  | _ => none }
def TupleParsesWrongFalsely : Prop := tupleParsesRow.holds Tryd.pinned (OpenSpec.ofChange tupleParsesWrong)

/-- 'spunyarnlaw06.TupleOrder': WHATEVER THE INPUT: true; the input reads as it did. -/
def tupleOrderSpec : ChangeSpec := { name := "tupleOrder", fn := fun _ => fun
  | [d1, d2, d3] => { results := [.lit (.bool true)], args := [d1, d2, d3] }
  | _ => none }
def tupleOrderRow : OpenClaim := { program := "ytdpddkpfllioiaadoor", sum := "616b5dc3b32453d585b161b8032d7b9b2963547f906767a92c53b4dd7d804061", func := "spunyarn/spunyarnlaw06.TupleOrder", spec := "tupleOrder", inPlace := ["internal/bytealg.IndexByteString", "internal/bytealg.IndexString", "internal/abi.NoEscape", "internal/bytealg.MakeNoZero", "internal/bytealg.Compare"], named := ["internal/bytealg.MaxLen", "spunyarn/tuple.names", "spunyarn/ienc.widths"], apart := false, laid := [("spunyarn/ienc.widths", laid_spunyarn_ienc_widths), ("spunyarn/tuple.names", laid_spunyarn_tuple_names)] }
def TupleOrderSaid : Prop := tupleOrderRow.holds Tryd.pinned (OpenSpec.ofChange tupleOrderSpec)

/-- ITS FALSE NEIGHBOUR: 'it returns false'. Refute it at one input. -/
def tupleOrderWrong : ChangeSpec := { name := "tupleOrder", fn := fun _ => fun
  | [d1, d2, d3] => { results := [.lit (.bool false)], args := [d1, d2, d3] }
  | _ => none }
def TupleOrderWrongFalsely : Prop := tupleOrderRow.holds Tryd.pinned (OpenSpec.ofChange tupleOrderWrong)

/- THE SECOND FORM. 'bulk': how many values and letters a reading holds, each counted each time it is reached (what is shared counts as often as it is met; a slice's spare places count too). A statement '..UptoSaid' is the law's where the arguments, and the package variables that the reading takes, are together of bulk at most 1048576: NARROWER than '..Said'. Prove '..Said' where nothing that the law and all that it calls make is longer than what came in: it says more and counts as full. Else prove '..UptoSaid'. A law counts once. -/
mutual
def uptoBulk {H : Type} : DataW H → Nat
  | .lit (.string bytes) => bytes.length + 1
  | .lit _ => 1
  | .nil => 1
  | .ptr d => uptoBulk d + 1
  | .slice elems spare => uptoBulkAll elems + uptoBulkAll spare + 1
  | .agg parts => uptoBulkAll parts + 1
  | .iface _ d => uptoBulk d + 1
  | .map entries => uptoBulkEntries entries + 1
  | .held _ => 1
def uptoBulkAll {H : Type} : List (DataW H) → Nat
  | [] => 0
  | d :: r => uptoBulk d + uptoBulkAll r
def uptoBulkEntries {H : Type} : List (Lit × DataW H) → Nat
  | [] => 0
  | x :: r => uptoBulkEntry x + uptoBulkEntries r
def uptoBulkEntry {H : Type} : Lit × DataW H → Nat
  | (.string bytes, d) => bytes.length + uptoBulk d + 1
  | (_, d) => uptoBulk d + 1
 end
def uptoSmall : (H : Type) → List (DataW H) → Bool := fun _ ds => decide (uptoBulkAll ds ≤ 1048576)
def OpenSpec.upto (s : _root_.Go.ChangeSpec) : _root_.Go.OpenSpec := { _root_.Go.OpenSpec.ofChange s with cond := some uptoSmall }

/-- 'spunyarnlaw06.TuplePuts', WHERE WHAT IT READS IS OF BULK AT MOST 1048576: true; the input reads as it did. -/
def tuplePutsUptoRow : OpenClaim := { program := "ytdpddkpfllioiaadoor", sum := "616b5dc3b32453d585b161b8032d7b9b2963547f906767a92c53b4dd7d804061", func := "spunyarn/spunyarnlaw06.TuplePuts", spec := "tuplePuts", inPlace := ["internal/bytealg.IndexByteString", "internal/bytealg.IndexString", "internal/abi.NoEscape", "internal/bytealg.MakeNoZero", "internal/bytealg.Compare"], named := ["internal/bytealg.MaxLen", "spunyarn/tuple.names", "spunyarn/ienc.widths"], apart := false, laid := [("spunyarn/ienc.widths", laid_spunyarn_ienc_widths), ("spunyarn/tuple.names", laid_spunyarn_tuple_names)], narrowed := true }
def TuplePutsUptoSaid : Prop := tuplePutsUptoRow.holds Tryd.pinned (OpenSpec.upto tuplePutsSpec)

/-- 'spunyarnlaw06.TupleGets', WHERE WHAT IT READS IS OF BULK AT MOST 1048576: true; the input reads as it did. -/
def tupleGetsUptoRow : OpenClaim := { program := "ytdpddkpfllioiaadoor", sum := "616b5dc3b32453d585b161b8032d7b9b2963547f906767a92c53b4dd7d804061", func := "spunyarn/spunyarnlaw06.TupleGets", spec := "tupleGets", inPlace := ["internal/bytealg.IndexByteString", "internal/bytealg.IndexString", "internal/abi.NoEscape", "internal/bytealg.MakeNoZero", "internal/bytealg.Compare"], named := ["internal/bytealg.MaxLen", "spunyarn/tuple.names", "spunyarn/ienc.widths"], apart := false, laid := [("spunyarn/ienc.widths", laid_spunyarn_ienc_widths), ("spunyarn/tuple.names", laid_spunyarn_tuple_names)], narrowed := true }
def TupleGetsUptoSaid : Prop := tupleGetsUptoRow.holds Tryd.pinned (OpenSpec.upto tupleGetsSpec)

/-- 'spunyarnlaw06.TupleParses', WHERE WHAT IT READS IS OF BULK AT MOST 1048576: true; the input reads as it did. -/
def tupleParsesUptoRow : OpenClaim := { program := "ytdpddkpfllioiaadoor", sum := "616b5dc3b32453d585b161b8032d7b9b2963547f906767a92c53b4dd7d804061", func := "spunyarn/spunyarnlaw06.TupleParses", spec := "tupleParses", inPlace := ["internal/bytealg.IndexByteString", "internal/bytealg.IndexString", "internal/abi.NoEscape", "internal/bytealg.MakeNoZero", "internal/bytealg.Compare"], named := ["internal/bytealg.MaxLen", "spunyarn/tuple.names", "spunyarn/ienc.widths"], apart := false, laid := [("spunyarn/ienc.widths", laid_spunyarn_ienc_widths), ("spunyarn/tuple.names", laid_spunyarn_tuple_names)], narrowed := true }
def TupleParsesUptoSaid : Prop := tupleParsesUptoRow.holds Tryd.pinned (OpenSpec.upto tupleParsesSpec)

/-- 'spunyarnlaw06.TupleOrder', WHERE WHAT IT READS IS OF BULK AT MOST 1048576: true; the input reads as it did. -/
def tupleOrderUptoRow : OpenClaim := { program := "ytdpddkpfllioiaadoor", sum := "616b5dc3b32453d585b161b8032d7b9b2963547f906767a92c53b4dd7d804061", func := "spunyarn/spunyarnlaw06.TupleOrder", spec := "tupleOrder", inPlace := ["internal/bytealg.IndexByteString", "internal/bytealg.IndexString", "internal/abi.NoEscape", "internal/bytealg.MakeNoZero", "internal/bytealg.Compare"], named := ["internal/bytealg.MaxLen", "spunyarn/tuple.names", "spunyarn/ienc.widths"], apart := false, laid := [("spunyarn/ienc.widths", laid_spunyarn_ienc_widths), ("spunyarn/tuple.names", laid_spunyarn_tuple_names)], narrowed := true }
def TupleOrderUptoSaid : Prop := tupleOrderUptoRow.holds Tryd.pinned (OpenSpec.upto tupleOrderSpec)

end Rows
end Go.Proofs.YtdpddkpfllioiaaDoor
