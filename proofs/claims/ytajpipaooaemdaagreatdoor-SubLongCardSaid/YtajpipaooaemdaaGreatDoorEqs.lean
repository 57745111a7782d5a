/-
  A pointer to a node held against itself.
-/
import Derived.Test.YtajpipaooaemdaaGreatDoorNd
namespace Go.Proofs.YtajpipaooaemdaaGreatDoor
open Go.RowKit

theorem run_equalIn_self {P : Program} (d : Nat) (t : TypeId) (p : Option Addr) (W : World) (h : P.underlying t = some (.pointer (P.pointee t))) (hi : (P.info? (P.pointee t)).isSome = true) : (Op.equalIn (d + 1) t (.pointer p) (.pointer p)).run P W = .ok true W := by
  obtain ⟨i, hi⟩ := Option.isSome_iff_exists.1 hi
  cases p <;> simp [Op.equalIn, run_underlying h, samePointer, sameAddr, sizeOf, typeInfo, hi]
theorem run_equal_self {P : Program} (t : TypeId) (p : Option Addr) (W : World) (h : P.underlying t = some (.pointer (P.pointee t))) (hi : (P.info? (P.pointee t)).isSome = true) : (Op.equal t (.pointer p) (.pointer p)).run P W = .ok true W := run_equalIn_self 9999 t p W h hi
set_option maxRecDepth 100000 in
theorem eql_self (t : Option Addr) (W : World) : (binOp .eql 28 (.pointer t) (.pointer t)).run Tryz.prog W = .ok (.bool true) W := by
  simp only [binOp]
  simp [run_equal_self (P := Tryz.prog) 28 t W (by kernel_rfl) (by kernel_rfl)]
set_option maxRecDepth 100000 in
theorem neq_self (t : Option Addr) (W : World) : (binOp .neq 28 (.pointer t) (.pointer t)).run Tryz.prog W = .ok (.bool false) W := by
  simp only [binOp]
  simp [run_equal_self (P := Tryz.prog) 28 t W (by kernel_rfl) (by kernel_rfl)]
end Go.Proofs.YtajpipaooaemdaaGreatDoor
