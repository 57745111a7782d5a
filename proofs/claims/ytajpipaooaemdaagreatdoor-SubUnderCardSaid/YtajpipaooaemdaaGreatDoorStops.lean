/-
  What canon.stops gives: all nodes of a tree, each one ahead of its kids.
-/
import Derived.Test.YtajpipaooaemdaaGreatDoorTree
import Derived.WalkKit
import Derived.OwnWalkIn
import Derived.TacticsInMore
import Derived.Sort.LoopGhostIn
import Derived.Stop.RegionWithIn
import Derived.Laws.EntriesVeiled
namespace Go.Proofs.YtajpipaooaemdaaGreatDoor
open Go.RowKit Go.Shelf
attribute [local go_sem] Oper.semAt_some

theorem Mine.kept {w w' : World} {D : Nat → Prop} {base : Nat} {e : TypeId} {v : Value} {n : Nat} {l : List UInt8} (h : Mine w base e v n l) (hk : Kept D w w') (hD : ∀ i, v.ownBlock = some i → ¬ D i) : Mine w' base e v n l := by
  refine ⟨h.1, ?_⟩
  rcases h.2 with q | ⟨g, cap, cur, rfl, h2, h3, h4⟩
  · exact .inl q
  · exact .inr ⟨g, cap, cur, rfl, h2, (hk.block g (Array.getElem?_eq_some_iff.1 h3).1 (hD g rfl)).trans h3, h4⟩
/-- Its first bytes. -/
theorem Mine.cut {w : World} {base : Nat} {e : TypeId} {A : Option Addr} {n c : Nat} {l : List UInt8} (h : Mine w base e (.slice A n c) n l) {k : Nat} (hk : k ≤ n) : Mine w base e (.slice A k c) k (l.take k) := by
  have hl := Mine.length h
  refine ⟨by simp; omega, ?_⟩
  rcases h.2 with ⟨q, q'⟩ | ⟨g, cap, cur, q, h2, h3, h4, h5, h6, h7⟩
  · subst q'
    obtain rfl : k = 0 := by omega
    exact .inl ⟨q, rfl⟩
  · injection q with q1 q2 q3
    subst q1 q3
    refine .inr ⟨g, c, cur, rfl, h2, h3, by omega, h5, h6, ?_⟩
    rw [List.map_take, ← h7, List.take_take]
    congr 1
    omega
section
variable {l n₀ Bw By Bd : Nat} {J : List Vt → (Nat → Prop) → World → Prop} {Jx : World → Prop} {vs : List Vt}
end

theorem kindN_pos (n : Nat) : 0 < kindN n := by unfold kindN; split <;> (try split) <;> (try split) <;> omega
theorem kindD_ne (x : Nd) : ¬ kindD x = 0 := by
  unfold kindD
  split
  · omega
  · have := kindN_pos x.es.length; omega

/-- The nodes of a tree, or of none. -/
def otvis : Option (Nn × Fo) → List Vt
  | none => []
  | some (x, k) => tvis x k [] 1
/-- A tree, or none, at a pointer. -/
def OTre (w : World) (S : Nat → Prop) : Option (Nn × Fo) → Option Addr → Prop
  | none, p => p = none
  | some (x, k), p => ∃ g, p = some ⟨g, 0, none⟩ ∧ Tre w S x k g

end Go.Proofs.YtajpipaooaemdaaGreatDoor
