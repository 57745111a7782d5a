/-
  Words for the law FieldPuts: a value with its own part alone has the same bytes; facts on cells, handed on together.
-/
import Derived.Test.YtknkpmkpcfiefaaDoorFieldAlive
namespace Go.Proofs.YtknkpmkpcfiefaaDoor.fieldPuts
open Go.RowKit

theorem fE_bare (k : Int) (u : Nat) (i : Int) : fE k (bU k u) (bI k i) = fE k u i := by
  unfold fE bU bI
  by_cases h4 : 1 ≤ k ∧ k ≤ 4
  · simp only [if_pos h4]
  · by_cases h5 : 5 ≤ k ∧ k ≤ 8
    · simp only [if_neg h4, if_pos h5]
    · simp only [if_neg h4, if_neg h5]
theorem fR_bare (k : Int) (u : Nat) (i : Int) (l : List UInt8) (t : Bool) : fR k (bU k u) (bI k i) (bL k l) (bT k t) = fR k u i l t := by
  unfold fR bU bI bL bT
  by_cases h4 : 1 ≤ k ∧ k ≤ 4
  · simp only [if_pos h4]
  · by_cases h5 : 5 ≤ k ∧ k ≤ 8
    · simp only [if_neg h4, if_pos h5]
    · by_cases h9 : k = 9
      · simp only [if_neg h4, if_neg h5, if_pos h9]
      · by_cases h10 : k = 10
        · simp only [if_neg h4, if_neg h5, if_neg h9, if_pos h10]
        · simp only [if_neg h4, if_neg h5, if_neg h9, if_neg h10]
theorem bL_le (k : Int) (l : List UInt8) : (bL k l).length ≤ l.length := by
  unfold bL
  split
  · exact Nat.le_refl _
  · simp
theorem six {w : World} {g h : Nat} {a b c d e x : Value} (p : Two w g a b) (q : Four w h c d e x) :
    w.cell? ⟨g, 0, none⟩ = some a ∧ w.cell? ⟨g, 1, none⟩ = some b ∧ w.cell? ⟨h, 0, none⟩ = some c ∧ w.cell? ⟨h, 1, none⟩ = some d ∧ w.cell? ⟨h, 2, none⟩ = some e ∧ w.cell? ⟨h, 3, none⟩ = some x :=
  ⟨p.k0, p.k1, q.c0, q.c1, q.c2, q.c3⟩
theorem ten {w : World} {g h m : Nat} {a b c d e x y z s t : Value} (p : Two w g a b) (q : Four w h c d e x) (r : Four w m y z s t) :
    w.cell? ⟨g, 0, none⟩ = some a ∧ w.cell? ⟨g, 1, none⟩ = some b ∧ w.cell? ⟨h, 0, none⟩ = some c ∧ w.cell? ⟨h, 1, none⟩ = some d ∧ w.cell? ⟨h, 2, none⟩ = some e ∧ w.cell? ⟨h, 3, none⟩ = some x ∧ w.cell? ⟨m, 0, none⟩ = some y ∧ w.cell? ⟨m, 1, none⟩ = some z ∧ w.cell? ⟨m, 2, none⟩ = some s ∧ w.cell? ⟨m, 3, none⟩ = some t :=
  ⟨p.k0, p.k1, q.c0, q.c1, q.c2, q.c3, r.c0, r.c1, r.c2, r.c3⟩
end Go.Proofs.YtknkpmkpcfiefaaDoor.fieldPuts
