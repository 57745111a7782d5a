/-
  The parts of sync.Once and of sync/atomic, each a contract of its own, in a run of one goroutine: the lock, the two calls that are deferred by the slow road, loads, stores and sums.
  Package meter's counters, and the document's: what each call tells, and what it writes.
-/
import Derived.Test.YtfmkhafpbfmadaaGreatMem
import Derived.Tactics
import Derived.Tactics2
import Derived.Defers
import Derived.Recover
import Derived.Laws.Pointers
import Derived.Laws.LoneSync
import Derived.RegionTactic
import Derived.RegionCalls
import Derived.Test.YtfmkhafpbfmadaaGreatProg
import Derived.Lib.Hide
namespace Go.Proofs.YtfmkhafpbfmadaaGreat
open Go.RowKit

set_option maxRecDepth 100000 in
theorem store_i64 {a : Addr} {y : Int} {u : Value} {w : World} (hc : w.cell? a = some u) (hz : w.frozen? a = false) : (callFunc 76 #[.pointer (some a), .int .i64 y]).run Tryz.prog w = .ok (.value (.tuple #[])) (w.setCell a (.int .i64 y)) :=
  run_call_store Tryz.func76 (by kernel_rfl) (by kernel_rfl) (by kernel_rfl) (by kernel_rfl) hc hz
set_option maxRecDepth 100000 in
theorem add_i64 {a : Addr} {x y s : Int} {w : World} (hc : w.cell? a = some (.int .i64 x)) (hz : w.frozen? a = false) (hs : IntKind.i64.wrap (x + y) = s) :
    (callFunc 75 #[.pointer (some a), .int .i64 y]).run Tryz.prog w = .ok (.value (.int .i64 s)) (w.setCell a (.int .i64 s)) :=
  run_call_add Tryz.func75 (by kernel_rfl) (by kernel_rfl) (by kernel_rfl) .i64 (by kernel_rfl) hc hz (by simp [go_sem]; rw [← hs])
end Go.Proofs.YtfmkhafpbfmadaaGreat

namespace Go.Proofs.YtfmkhafpbfmadaaGreat
open Go.RowKit

/-- What a meter counts behind n more. -/
def madeN (m x : Int) : Int := if x < 0 then m else m + x
/-- How many more than at that time. -/
def sinceN (m was : Int) : Int := if was ≥ m then 0 else m - was

section
variable (g : Nat) (m x : Int) (w : World)

set_option maxRecDepth 100000 in
theorem made_nil : Calls Tryz.prog 39 #[.pointer none, .int .i64 x] w fun e w' => e = .returned (.tuple #[]) ∧ w' = w := by
  go_enter Tryz.func39, Tryz.ntmps39
  go_wp2
  first | go_end0 | refine bodyPost_ret (results_none rfl _ _ _) rfl ?_
  exact ⟨rfl, rfl⟩

set_option maxRecDepth 100000 in
theorem made_any (h : Blk w g #[.int .i64 m]) (hm : 0 ≤ m) (hs : m + x ≤ 9223372036854775807) :
    Calls Tryz.prog 39 #[.pointer (some ⟨g, 0, none⟩), .int .i64 x] w fun e w' => e = .returned (.tuple #[]) ∧
      Blk w' g #[.int .i64 (madeN m x)] ∧ Kept (· = g) w w' := by
  have hc : w.cell? ⟨g, 0, none⟩ = some (.int .i64 m) := h.cell 0
  have hz := h.fz 0
  by_cases hx : x < 0
  · go_enter Tryz.func39, Tryz.ntmps39
    go_wp2
    first | go_end0 | refine bodyPost_ret (results_none rfl _ _ _) rfl ?_
    exact ⟨rfl, by simpa [madeN, hx] using h, Kept.refl _ _⟩
  · have e : IntKind.i64.wrap (m + x) = m + x := by simp [IntKind.wrap_i64]; omega
    have ha := add_i64 hc hz e
    have n1 : ¬ (m + x < 0) := by omega
    have n2 : ¬ (9223372036854775807 < m + x) := by omega
    have hb : Blk (w.setCell ⟨g, 0, none⟩ (.int .i64 (m + x))) g #[.int .i64 (madeN m x)] := by simpa [madeN, hx] using h.set_ 0 (.int .i64 (m + x))
    have HB := Lib.hid hb
    clear hb
    go_enter Tryz.func39, Tryz.ntmps39
    go_wp2
    go_end0
    exact ⟨rfl, HB.out, Kept.set_ _ _ _ rfl⟩

end
end Go.Proofs.YtfmkhafpbfmadaaGreat
