/-
  The document's row: New, Drop, Set: a great struct that is handed by value, and back.
-/
import Derived.Test.YtfmkhafpbfmadaaGreatSmWrite
namespace Go.Proofs.YtfmkhafpbfmadaaGreat
open Go.RowKit

/-- A variable of a great type. -/
theorem wpList_alloc_z {P : Program} {ops : Array Oper} {rest : List Oper} {o : Oper} {a : Act} {w : World} {Q : Exit → Act → World → Prop} (hgd : o.guard = none) (ty : TypeId) (ho : o.op = .alloc ty) (z : Array Value)
    (hz : (P.info? ty).map (·.zero) = some (some (.agg z))) (h : wpList P ops Q rest (a.put o.dst (.pointer (some ⟨w.heap.size, 0, none⟩))) (w.alloc (.cells z ty))) : wpList P ops Q (o :: rest) a w := by
  refine wpList_plain hgd fun _ hK => ?_
  obtain ⟨i, hi, h0⟩ : ∃ i, P.info? ty = some i ∧ i.zero = some (.agg z) := by
    rcases hq : P.info? ty with _ | i
    · rw [hq] at hz; cases hz
    · rw [hq] at hz; exact ⟨i, rfl, by simpa using hz⟩
  unfold Oper.wp execOp
  simp [ho, Instr.alloc, zeroValue, typeInfo, hi, h0, newVar, newRow, newObj, Value.cells]
  exact hK _ _ h

theorem wpList_build_is {P : Program} {ops : Array Oper} {rest : List Oper} {o : Oper} {a : Act} {w : World} {Q : Exit → Act → World → Prop} (hgd : o.guard = none) (t : TypeId) (parts : Array (Nat × Operand)) (ho : o.op = .build t parts)
    (ps : List (Nat × Value)) (hp : (parts.map fun (i, x) => (i, a.eval x)).toList = ps) (cells : Array Value) (hb : P.built t ps = some cells) (h : wpList P ops Q rest (a.put o.dst (.agg cells)) w) : wpList P ops Q (o :: rest) a w := by
  refine wpList_build hgd t parts ho (by rw [hp, hb]; rfl) ?_
  rw [hp, hb]
  exact h
section
variable {room : Nat} {es : List Ent}
theorem back_below {w V : World} {g : Nat} (hb : Below g w V) (vs : List Value) (hs : g ≤ V.heap.size) : Below g w (V.setCells (g + 1) 0 vs) :=
  hb.trans ((Kept.setCells (fun k => k = g + 1) V (g + 1) 0 vs rfl).below hs (fun q hq => by omega))

end
end Go.Proofs.YtfmkhafpbfmadaaGreat
