/-
  The statements' own span, same, far of layer 7.
-/
import Derived.Test.YtofccfbiappgaaaDoorBnd
namespace Go.Proofs.YtofccfbiappgaaaDoor
open Go.RowKit

set_option maxRecDepth 100000 in
set_option maxHeartbeats 1000000 in
theorem span_any (A A' : Option Addr) (n c n' c' : Nat) (o : Bool) (w : World) :
    Calls Tryd.prog 12 #[.agg #[.slice A n c, .slice A' n' c', .bool o]] w fun e w' => e = .returned (.agg #[.slice A n c, .slice A' n' c', .bool o]) ∧ Below w.heap.size w w' := by
  go_enter Tryd.func12, Tryd.ntmps12
  go_wp2
  (try simp only [Exit.inBlock, Exit.then])
  have e := Blk.load3 Tryd.underlying28 rfl size_sp (Three.new (w.alloc (.cells #[.slice A n c, .slice A' n' c', .bool o] 24)) 28 (.slice A n c) (.slice A' n' c') (.bool o))
  rw [World.size_alloc] at e
  refine bodyPost_ret (v := .agg #[.slice A n c, .slice A' n' c', .bool o]) (by rw [results_cell1 rfl]; simp [asAddr, Result.andThen, e]) rfl ?_
  exact ⟨rfl, ((Below.refl _ _).alloc (Nat.le_refl _) _).alloc (by simp) _⟩

set_option maxRecDepth 100000 in
set_option maxHeartbeats 1000000 in
theorem lsame_any (A A' D D' : Option Addr) (n c n' c' m d m' d' B : Nat) (s : Sp) (w : World) (hf : Byt w B A n s.f) (ht : Byt w B A' n' s.t) (hf2 : Byt w B D m s.f) (ht2 : Byt w B D' m' s.t) (hB : B ≤ w.heap.size) :
    Calls Tryd.prog 8 #[.agg #[.slice A n c, .slice A' n' c', .bool s.o], .agg #[.slice D m d, .slice D' m' d', .bool s.o]] w fun e w' => e = .returned (.bool true) ∧ Below w.heap.size w w' := by
  obtain ⟨f, t, o⟩ := s
  simp only at hf ht hf2 ht2 ⊢
  have HA := Lib.hid (fun V (h : Below w.heap.size w V) => And.intro (And.intro ((hf.more hB).below h) ((ht.more hB).below h)) (And.intro ((hf2.more hB).below h) ((ht2.more hB).below h)))
  clear hf ht hf2 ht2
  generalize hW : (w.alloc (.cells #[.slice A n c, .slice A' n' c', .bool o] 28)).alloc (.cells #[.slice D m d, .slice D' m' d', .bool o] 24) = W
  have hT : Three W w.heap.size (.slice A n c) (.slice A' n' c') (.bool o) := by subst hW; exact (Three.new _ _ _ _ _).alloc _
  have hU : Three W (w.heap.size + 1) (.slice D m d) (.slice D' m' d') (.bool o) := by subst hW; have := Three.new (w.alloc (.cells #[.slice A n c, .slice A' n' c', .bool o] 28)) 24 (.slice D m d) (.slice D' m' d') (.bool o); rwa [World.size_alloc] at this
  have HB := Lib.hid (show Below w.heap.size w W from by subst hW; exact ((Below.refl _ _).alloc (Nat.le_refl _) _).alloc (by simp) _)
  have a0 := hT.t0
  have a1 := hT.t1
  have a2 := hT.t2
  have b0 := hU.t0
  have b1 := hU.t1
  have b2 := hU.t2
  clear hT hU
  have e0 : (o == o) = true := by cases o <;> rfl
  go_enter Tryd.func8, Tryd.ntmps8
  go_wp2_with fail
  clear hW
  (with_reducible refine (rsame_any A D n m c d _ f f W (HA.out _ HB.out).1.1 (HA.out _ HB.out).2.1).mono ?_)
  rintro e w1 ⟨rfl, q, rfl⟩
  rw [show sameB f f = true from by simp [sameB]]
  have B1 := Lib.hid (below_drewN HB.out q)
  go_wp2_with fail
  (with_reducible refine (rsame_any A' D' n' m' c' d' _ t t _ (HA.out _ B1.out).1.2 (HA.out _ B1.out).2.2).mono ?_)
  rintro e w2 ⟨rfl, q2, rfl⟩
  rw [show sameB t t = true from by simp [sameB]]
  cases o <;> (go_wp2; go_ret; exact ⟨ret_bool rfl, below_drewN HB.out _⟩)

/-- What far of two spans leaves. -/
def Far2 (w : World) (n n' m m' : Nat) (e : Ending) (w' : World) : Prop := ∃ b : Bool, e = .returned (.bool b) ∧ (b = false → n ≤ 300 ∧ n' ≤ 300 ∧ m ≤ 300 ∧ m' ≤ 300) ∧ Below w.heap.size w w'
end Go.Proofs.YtofccfbiappgaaaDoor
