/-
  Package meter's counters, and the document's: what each call tells, and what it writes.
-/
import Derived.Test.YtgelmhldicmmdaaGreatSync
import Derived.Lib.Hide
namespace Go.Proofs.YtgelmhldicmmdaaGreat
open Go.RowKit

/-- What a meter counts behind n more. -/
def madeN (m x : Int) : Int := if x < 0 then m else m + x
/-- How many more than at that time. -/
def sinceN (m was : Int) : Int := if was ≥ m then 0 else m - was

section
variable (g : Nat) (m x : Int) (w : World)

set_option maxRecDepth 100000 in
theorem made_nil : Calls Tryz.prog 35 #[.pointer none, .int .i64 x] w fun e w' => e = .returned (.tuple #[]) ∧ w' = w := by
  go_enter Tryz.func35, Tryz.ntmps35
  go_wp2
  first | go_end0 | refine bodyPost_ret (results_none rfl _ _ _) rfl ?_
  exact ⟨rfl, rfl⟩

set_option maxRecDepth 100000 in
theorem made_any (h : Blk w g #[.int .i64 m]) (hm : 0 ≤ m) (hs : m + x ≤ 9223372036854775807) :
    Calls Tryz.prog 35 #[.pointer (some ⟨g, 0, none⟩), .int .i64 x] w fun e w' => e = .returned (.tuple #[]) ∧
      Blk w' g #[.int .i64 (madeN m x)] ∧ Kept (· = g) w w' := by
  have hc : w.cell? ⟨g, 0, none⟩ = some (.int .i64 m) := h.cell 0
  have hz := h.fz 0
  by_cases hx : x < 0
  · go_enter Tryz.func35, Tryz.ntmps35
    go_wp2
    first | go_end0 | refine bodyPost_ret (results_none rfl _ _ _) rfl ?_
    exact ⟨rfl, by simpa [madeN, hx] using h, Kept.refl _ _⟩
  · have e : IntKind.i64.wrap (m + x) = m + x := by simp [IntKind.wrap_i64]; omega
    have ha := add_i64 hc hz e
    have n1 : ¬ (m + x < 0) := by omega
    have n2 : ¬ (9223372036854775807 < m + x) := by omega
    have hb : Blk (w.setCell ⟨g, 0, none⟩ (.int .i64 (m + x))) g #[.int .i64 (madeN m x)] := by simpa [madeN, hx] using h.set_ 0 (.int .i64 (m + x))
    have HB := Lib.hid hb
    clear hb
    go_enter Tryz.func35, Tryz.ntmps35
    go_wp2
    go_end0
    exact ⟨rfl, HB.out, Kept.set_ _ _ _ rfl⟩

set_option maxRecDepth 100000 in
theorem count_nil : Calls Tryz.prog 8 #[.pointer none] w fun e w' => e = .returned (.int .i64 0) ∧ w' = w := by
  go_enter Tryz.func8, Tryz.ntmps8
  go_wp2
  go_ret
  exact ⟨rfl, rfl⟩
set_option maxRecDepth 100000 in
theorem count_any (hc : w.cell? ⟨g, 0, none⟩ = some (.int .i64 m)) : Calls Tryz.prog 8 #[.pointer (some ⟨g, 0, none⟩)] w fun e w' => e = .returned (.int .i64 m) ∧ w' = w := by
  have hl := load_i64 hc
  go_enter Tryz.func8, Tryz.ntmps8
  go_wp2
  go_ret
  exact ⟨rfl, rfl⟩
end
end Go.Proofs.YtgelmhldicmmdaaGreat
