/-
  Words for the law FieldOrder: facts on cells, handed on together; a row of its own beside other blocks.
-/
import Derived.Test.YtknkpmkpcfiefaaDoorFieldAlive
namespace Go.Proofs.YtknkpmkpcfiefaaDoor.fieldOrder
open Go.RowKit

theorem twelve {w : World} {g h m : Nat} {a b x y : Value} {a0 a1 a2 a3 a4 a5 a6 a7 : Value} (p : Two w g a b) (q : Blk w h #[a0, a1, a2, a3, a4, a5, a6, a7]) (r : Two w m x y) :
    w.cell? ⟨g, 0, none⟩ = some (a) ∧ w.cell? ⟨g, 1, none⟩ = some (b) ∧ w.cell? ⟨h, 0, none⟩ = some (a0) ∧ w.cell? ⟨h, 1, none⟩ = some (a1) ∧ w.cell? ⟨h, 2, none⟩ = some (a2) ∧ w.cell? ⟨h, 3, none⟩ = some (a3) ∧ w.cell? ⟨h, 4, none⟩ = some (a4) ∧ w.cell? ⟨h, 5, none⟩ = some (a5) ∧ w.cell? ⟨h, 6, none⟩ = some (a6) ∧ w.cell? ⟨h, 7, none⟩ = some (a7) ∧ w.cell? ⟨m, 0, none⟩ = some (x) ∧ w.cell? ⟨m, 1, none⟩ = some (y) :=
  ⟨p.k0, p.k1, q.cell 0, q.cell 1, q.cell 2, q.cell 3, q.cell 4, q.cell 5, q.cell 6, q.cell 7, r.k0, r.k1⟩
theorem fourteen {w : World} {g h m : Nat} {a b x y z s : Value} {a0 a1 a2 a3 a4 a5 a6 a7 : Value} (p : Two w g a b) (q : Blk w h #[a0, a1, a2, a3, a4, a5, a6, a7]) (r : Four w m x y z s) :
    w.cell? ⟨g, 0, none⟩ = some (a) ∧ w.cell? ⟨g, 1, none⟩ = some (b) ∧ w.cell? ⟨h, 0, none⟩ = some (a0) ∧ w.cell? ⟨h, 1, none⟩ = some (a1) ∧ w.cell? ⟨h, 2, none⟩ = some (a2) ∧ w.cell? ⟨h, 3, none⟩ = some (a3) ∧ w.cell? ⟨h, 4, none⟩ = some (a4) ∧ w.cell? ⟨h, 5, none⟩ = some (a5) ∧ w.cell? ⟨h, 6, none⟩ = some (a6) ∧ w.cell? ⟨h, 7, none⟩ = some (a7) ∧ w.cell? ⟨m, 0, none⟩ = some (x) ∧ w.cell? ⟨m, 1, none⟩ = some (y) ∧ w.cell? ⟨m, 2, none⟩ = some (z) ∧ w.cell? ⟨m, 3, none⟩ = some (s) :=
  ⟨p.k0, p.k1, q.cell 0, q.cell 1, q.cell 2, q.cell 3, q.cell 4, q.cell 5, q.cell 6, q.cell 7, r.c0, r.c1, r.c2, r.c3⟩
theorem grown_blk {w w' : World} {g : Nat} {cs : Array Value} {row : Option Nat} (h : Blk w g cs) (hg : w.grownBy w' row) (hr : row ≠ some g) : Blk w' g cs := by
  have hl := h.lt
  obtain ⟨t, h⟩ := h
  exact ⟨t, (hg.block g hl (fun e => hr e.symm)).trans h⟩
theorem none_own : (Value.slice none 0 0).ownBlock = none := rfl
theorem back_turned (k : Int) (f : Bool) (u : Nat) (i : Int) (l : List UInt8) (t : Bool) (m : List UInt8) (h : fE k u i = 0) :
    tU k (turn f (turn f (fR k u i l t) ++ m)) = bU k u ∧ tI k (turn f (turn f (fR k u i l t) ++ m)) = bI k i ∧ tL k (turn f (turn f (fR k u i l t) ++ m)) = bL k l ∧ tT k (turn f (turn f (fR k u i l t) ++ m)) = bT k t ∧ turn f (tR k (turn f (turn f (fR k u i l t) ++ m))) = m ∧ tE k (turn f (turn f (fR k u i l t) ++ m)) = 0 := by
  rw [turn_append, turn_turn]
  obtain ⟨h1, h2, h3, h4, h5, h6⟩ := back k u i l t (turn f m) h
  exact ⟨h1, h2, h3, h4, by rw [h5, turn_turn], h6⟩
end Go.Proofs.YtknkpmkpcfiefaaDoor.fieldOrder
