/-
  Words for blocks whose cells are told as a list: what is read, written at many places at once, made. Nothing of the program is used.
-/
import Derived.Test.YtgelmhldicmmdaaGreatMem
import Derived.Deep.MidRow
import Derived.Deep.RegionLaw
import Derived.Laws.IdiomCopy
namespace Go.Proofs.YtgelmhldicmmdaaGreat
open Go.RowKit

/-- Block g holds just the cells l, none frozen. -/
abbrev Lst (w : World) (g : Nat) (l : List Value) : Prop := Blk w g l.toArray
/-- l with vs from place o on. -/
def spl (l : List Value) (o : Nat) (vs : List Value) : List Value := l.take o ++ vs ++ l.drop (o + vs.length)
theorem spl_length {l : List Value} {o : Nat} {vs : List Value} (h : o + vs.length ≤ l.length) : (spl l o vs).length = l.length := by
  simp only [spl, List.length_append, List.length_take, List.length_drop]; omega
theorem spl_nil (l : List Value) (o : Nat) : spl l o [] = l := by simp [spl]
theorem spl_cons {l : List Value} {o : Nat} {v : Value} {vs : List Value} (h : o + (vs.length + 1) ≤ l.length) : spl (l.set o v) (o + 1) vs = spl l o (v :: vs) := by
  have hl : o < l.length := by omega
  apply List.ext_getElem?
  intro i
  simp only [spl, List.length_cons]
  rw [show l.take o ++ v :: vs ++ l.drop (o + (vs.length + 1)) = l.take o ++ [v] ++ vs ++ l.drop (o + 1 + vs.length) from by simp [Nat.add_comm, Nat.add_left_comm]]
  congr 1
  congr 1
  · congr 1
    rw [List.take_add_one, List.take_set]
    simp only [List.getElem?_set, hl, if_true]
    rw [List.set_eq_of_length_le (by simp; omega)]
    rfl
  · rw [List.drop_set_of_lt (by omega)]

section
variable {w w' : World} {g : Nat} {l vs : List Value}
theorem Lst.at_ (h : Lst w g l) (i : Nat) : w.cell? ⟨g, i, none⟩ = l[i]? := by rw [Blk.cell h i]; simp
theorem Lst.rangeAt (h : Lst w g l) (o : Nat) (hv : ∀ j v, vs[j]? = some v → l[o + j]? = some v) : w.rangeAt g o vs := fun j v hj => by rw [Lst.at_ h]; exact hv j v hj
theorem Lst.all (h : Lst w g l) : w.rangeAt g 0 l := Lst.rangeAt h 0 fun j v hj => by rwa [Nat.zero_add]
theorem Lst.isSome (h : Lst w g l) {i : Nat} (hi : i < l.length) : (w.cell? ⟨g, i, none⟩).isSome = true := by rw [Lst.at_ h, List.getElem?_eq_getElem hi]; rfl
theorem Lst.there (h : Lst w g l) {o n : Nat} (hi : o + n ≤ l.length) : w.there g o n := fun j hj => ⟨Lst.isSome h (by omega), Blk.fz h _⟩
theorem Lst.shape (h : Lst w g l) : ∃ t, w.shape? g = some (t, l.length) := by
  obtain ⟨t, h⟩ := h
  exact ⟨t, by simp [World.shape?, h]⟩
theorem Lst.set1 (h : Lst w g l) (i : Nat) (v : Value) : Lst (w.setCell ⟨g, i, none⟩ v) g (l.set i v) := by
  have := Blk.set_ h i v
  rwa [List.setIfInBounds_toArray] at this
theorem Lst.setCells (h : Lst w g l) (o : Nat) (vs : List Value) (hl : o + vs.length ≤ l.length) : Lst (w.setCells g o vs) g (spl l o vs) := by
  induction vs generalizing w l o with
  | nil => rw [spl_nil]; exact h
  | cons v r ih =>
    rw [World.setCells, ← spl_cons (by simpa using hl)]
    exact ih (Lst.set1 h o v) (o + 1) (by simp only [List.length_set, List.length_cons] at hl ⊢; omega)
theorem Kept.setCells (D : Nat → Prop) (w : World) (g o : Nat) (vs : List Value) (hd : D g) : Kept D w (w.setCells g o vs) := by
  induction vs generalizing w o with
  | nil => exact Kept.refl _ _
  | cons v r ih => exact (Kept.set_ w ⟨g, o, none⟩ v hd).trans (ih _ _)
end
end Go.Proofs.YtgelmhldicmmdaaGreat
