/-
  A pair in a block: read, written, handed back with one thing more.
  find.look: whoever is told the beginnings, one behind the other: what is told, and how many nodes are gone into.
-/
import Derived.Test.YtidiinededalmaaGreatChecked
import Derived.Test.YtidiinededalmaaGreatNd
import Derived.Laws.ResultCell
import Derived.Deep.RegionHeld3
import Derived.Deep.RegionWith
import Derived.Test.YtidiinededalmaaGreatFnP
import Derived.Test.YtidiinededalmaaGreatCmp
import Derived.Test.YtidiinededalmaaGreatCanon
namespace Go.Proofs.YtidiinededalmaaGreat
open Go.RowKit

set_option maxRecDepth 100000 in
theorem pair_info : (Tryz.prog.info? 31).map (·.size) = some 2 := by kernel_rfl
set_option maxRecDepth 100000 in
theorem pair_load {W : World} {g : Nat} {a b : Value} (h : Blk W g #[a, b]) : (loadVar 31 ⟨g, 0, none⟩).run Tryz.prog W = .ok (.agg #[a, b]) W := by
  refine run_loadVar_mid W g 0 31 [a, b] _ (fun j v hv => ?_) Tryz.underlying31 rfl pair_info
  rw [Nat.zero_add]
  match j, hv with
  | 0, hv => simp at hv; subst hv; exact h.cell 0
  | 1, hv => simp at hv; subst hv; exact h.cell 1
/-- A function's end whose results are a struct of two cells in a block and one more. -/
theorem close2e {P : Program} {fn : Func} {p u : Tmp} {ty : TypeId} {Q : Ending → World → Prop} {a : Act} {Z : World} {g : Nat} {x y e : Value} (hr : fn.results = #[.cell p ty, .tmp u]) (hp : a.tmps.getD p undef = .pointer (some ⟨g, 0, none⟩)) (hu' : a.tmps.getD u undef = e) (hd : a.defers = [])
    (q : (loadVar ty ⟨g, 0, none⟩).run P Z = .ok (.agg #[x, y]) Z) (h : Q (.returned (.tuple #[.agg #[x, y], e])) Z) : bodyPost P fn Q .ret a Z :=
  bodyPost_ret (v := .tuple #[.agg #[x, y], e]) (by rw [results_cell_tmp hr, hp, hu']; simp [asAddr, Result.andThen, q]) hd h
theorem two_set {W : World} {g : Nat} {a b : Value} (h : Blk W g #[a, b]) (x y : Value) : Blk ((W.setCell ⟨g, 0, none⟩ x).setCell ⟨g, 1, none⟩ y) g #[x, y] ∧ Kept (· = g) W ((W.setCell ⟨g, 0, none⟩ x).setCell ⟨g, 1, none⟩ y) := by
  have h1 := h.set_ 0 x
  have h2 := h1.set_ 1 y
  exact ⟨by simpa using h2, (show Kept (· = g) W _ from Kept.set_ W ⟨g, 0, none⟩ x rfl).trans (show Kept (· = g) _ _ from Kept.set_ _ ⟨g, 1, none⟩ y rfl)⟩
end Go.Proofs.YtidiinededalmaaGreat

namespace Go.Proofs.YtidiinededalmaaGreat
open Go.RowKit

/-- One who listens: J tells what he has left behind of what he was told. -/
structure Hears (n₀ : Nat) (w : World) (K : FuncId) (cap : Array Value) (all : List (Option (Nat × Int))) (J : List (Nat × Int) → World → Prop) : Prop where
  fn : ∀ (xs : Array Value) (V : World), (callFunc K xs).run Tryz.prog V = .ok (.enter K xs) V
  on : ∀ l V V', J l V → Below n₀ w V → Below V.heap.size V V' → J l V'
  call : ∀ pre post a v V, all = pre ++ some (a, v) :: post → J (pre.filterMap id) V → Below n₀ w V → n₀ ≤ V.heap.size → Calls Tryz.prog K (#[.int .i64 ((a : Nat) : Int), .int .u64 v] ++ cap) V fun e V' => e = .returned (.tuple #[]) ∧ J ((pre ++ [some (a, v)]).filterMap id) V' ∧ Below n₀ V V'
/-- Where the loop stands. -/
def LkS (n₀ : Nat) (w : World) (t : Option (Nn × Fo)) (key : List UInt8) (J : List (Nat × Int) → World → Prop) (q : Option Addr) (s a : Nat) (V : World) : Prop :=
  ∃ t' pre, ogo t key 0 = pre ++ ogo t' (key.drop a) a ∧ pre.length = s ∧ a ≤ key.length ∧ OTre V (· < n₀) t' q ∧ J (pre.filterMap id) V ∧ Below n₀ w V
theorem Tre.nod {w : World} {S : Nat → Prop} {x : Nn} {k : Fo} {g : Nat} (h : Tre w S x k g) : ∃ be A ek, Nod w g (x.nd ek) be A ∧ k.Is w S ek := by
  obtain ⟨be, A, ek, h1, _, h3⟩ := h
  exact ⟨be, A, ek, h1, h3⟩
theorem otre_on {n₀ : Nat} {w w' : World} {t : Option (Nn × Fo)} {p : Option Addr} (h : OTre w (· < n₀) t p) (hb : Below n₀ w w') : OTre w' (· < n₀) t p := by
  cases t with
  | none => exact h
  | some xk =>
    obtain ⟨g, e, h1⟩ := h
    exact ⟨g, e, h1.below (fun _ q => q) hb⟩
end Go.Proofs.YtidiinededalmaaGreat
