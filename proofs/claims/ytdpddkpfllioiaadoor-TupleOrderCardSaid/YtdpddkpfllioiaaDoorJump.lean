/-
  A label that gotos jump back to, in a scope: what holds each time it is come to, and a measure that falls. The round is walked once. Nothing of the program is used.
-/
import Derived.Test.YtdpddkpfllioiaaDoorMem
import Derived.ScopeJumps
import Derived.WalkMore
namespace Go.Proofs.YtdpddkpfllioiaaDoor
open Go.RowKit

theorem wp_scope_label {P : Program} {a : Act} {w : World} {Q : Exit → Act → World → Prop} {c X : Code} (l : Nat) (J : Act → World → Prop) (μ : Act → World → Nat) (hf : findLabel c l = some (Code.skip.seq X))
    (first : Hid (∀ a w, J a w → X.wp P (Exit.jump l J Q) a w) → c.wp P (Exit.jump l J Q) a w)
    (pass : ∀ a w, J a w → X.wp P (Exit.jump l (fun a' w' => J a' w' ∧ μ a' w' < μ a w) Q) a w) : (Code.scope c).wp P Q a w := by
  refine wp_scope_jumps l J μ hf (first (Lib.hid fun a w h => Code.wp_mono (fun e a w q => ?_) (pass a w h))) (fun a w h => wp_seq (wp_skip (pass a w h)))
  cases e <;> first | exact q | exact ⟨q.1, q.2.1⟩
end Go.Proofs.YtdpddkpfllioiaaDoor
