import Derived.Test.YtcbgieoiefbeiaaGreatDoorRow
namespace Go.Proofs.YtcbgieoiefbeiaaGreatDoor
open Go.ChangeShapes Go.WideShapes Go.ChangeAt Go.RowKit
set_option maxRecDepth 100000 in
theorem cells_slotB : Tryz.prog.cellsOf 4 = 1 := by kernel_rfl
set_option maxRecDepth 100000 in
theorem open_slot {H : Type} {enc : TypeId × Value -> H} {W : World} {base : Nat} {v : Value} {d : DataW H} {p : List MemPlace}
  (hok : Value.okWide Tryz.prog W .any base 62 v) (h : DataW.Trod enc Tryz.prog W 0 (fun _ => true) true 62 v d p) :
  ∃ (b : Bool) (z : Int), v = .agg #[.bool b, .int .u64 z] /\ 0 <= z /\ z <= 18446744073709551615 := by
 obtain ⟨cs, rfl, _⟩ := okWide_struct Tryz.underlying62 hok
 obtain ⟨fuel, hf⟩ := h
 obtain ⟨y0, y1, n', _, hlen, hy0, hy1⟩ := trod_struct2 Tryz.underlying62 hf
 rw [show Tryz.prog.cellsOf 62 = 2 by kernel_rfl] at hlen
 obtain ⟨cs⟩ := cs
 simp only [Value.cells] at hlen hy0 hy1
 match cs, hlen with
 | [x0, x1], _ =>
  rw [cells_slotB] at hy0
  rw [cells_u64] at hy1
  simp at hy0 hy1
  obtain ⟨b, hb, _⟩ := DataW.trod_bool Tryz.underlying4 hy0
  obtain ⟨z, hz, _, hwf⟩ := DataW.trod_int Tryz.underlying24 hy1
  simp at hb hz
  subst hb
  subst hz
  have hz2 : 0 <= z /\ z <= 18446744073709551615 := by simpa [Lit.wf, IntKind.min, IntKind.max, IntKind.signed, IntKind.bits] using hwf
  exact ⟨b, z, rfl, hz2⟩
end Go.Proofs.YtcbgieoiefbeiaaGreatDoor
