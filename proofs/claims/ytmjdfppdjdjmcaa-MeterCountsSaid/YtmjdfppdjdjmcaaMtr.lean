/-
  Package meter's counters, and the document's: what each call tells, and what it writes.
-/
import Derived.Test.YtmjdfppdjdjmcaaSync
import Derived.Lib.Hide
namespace Go.Proofs.Ytmjdfppdjdjmcaa
open Go.RowKit

/-- What a meter counts behind n more. -/
def madeN (m x : Int) : Int := if x < 0 then m else m + x
/-- How many more than at that time. -/
def sinceN (m was : Int) : Int := if was ≥ m then 0 else m - was

section
variable (g : Nat) (m x : Int) (w : World)

set_option maxRecDepth 100000 in
theorem made_nil : Calls Try.prog 6 #[.pointer none, .int .i64 x] w fun e w' => e = .returned (.tuple #[]) ∧ w' = w := by
  go_enter Try.func6, Try.ntmps6
  go_wp2
  first | go_end0 | refine bodyPost_ret (results_none rfl _ _ _) rfl ?_
  exact ⟨rfl, rfl⟩

set_option maxRecDepth 100000 in
theorem made_any (h : Blk w g #[.int .i64 m]) (hm : 0 ≤ m) (hs : m + x ≤ 9223372036854775807) :
    Calls Try.prog 6 #[.pointer (some ⟨g, 0, none⟩), .int .i64 x] w fun e w' => e = .returned (.tuple #[]) ∧
      Blk w' g #[.int .i64 (madeN m x)] ∧ Kept (· = g) w w' := by
  have hc : w.cell? ⟨g, 0, none⟩ = some (.int .i64 m) := h.cell 0
  have hz := h.fz 0
  by_cases hx : x < 0
  · go_enter Try.func6, Try.ntmps6
    go_wp2
    first | go_end0 | refine bodyPost_ret (results_none rfl _ _ _) rfl ?_
    exact ⟨rfl, by simpa [madeN, hx] using h, Kept.refl _ _⟩
  · have e : IntKind.i64.wrap (m + x) = m + x := by simp [IntKind.wrap_i64]; omega
    have ha := add_i64 hc hz e
    have n1 : ¬ (m + x < 0) := by omega
    have n2 : ¬ (9223372036854775807 < m + x) := by omega
    have hb : Blk (w.setCell ⟨g, 0, none⟩ (.int .i64 (m + x))) g #[.int .i64 (madeN m x)] := by simpa [madeN, hx] using h.set_ 0 (.int .i64 (m + x))
    have HB := Lib.hid hb
    clear hb
    go_enter Try.func6, Try.ntmps6
    go_wp2
    go_end0
    exact ⟨rfl, HB.out, Kept.set_ _ _ _ rfl⟩

set_option maxRecDepth 100000 in
theorem count_nil : Calls Try.prog 8 #[.pointer none] w fun e w' => e = .returned (.int .i64 0) ∧ w' = w := by
  go_enter Try.func8, Try.ntmps8
  go_wp2
  go_ret
  exact ⟨rfl, rfl⟩
set_option maxRecDepth 100000 in
theorem count_any (hc : w.cell? ⟨g, 0, none⟩ = some (.int .i64 m)) : Calls Try.prog 8 #[.pointer (some ⟨g, 0, none⟩)] w fun e w' => e = .returned (.int .i64 m) ∧ w' = w := by
  have hl := load_i64 hc
  go_enter Try.func8, Try.ntmps8
  go_wp2
  go_ret
  exact ⟨rfl, rfl⟩
set_option maxRecDepth 100000 in
theorem since_nil : Calls Try.prog 9 #[.pointer none, .int .i64 x] w fun e w' => e = .returned (.int .i64 0) ∧ w' = w := by
  go_enter Try.func9, Try.ntmps9
  go_wp2
  go_ret
  exact ⟨rfl, rfl⟩
set_option maxRecDepth 100000 in
theorem since_any (hc : w.cell? ⟨g, 0, none⟩ = some (.int .i64 m)) (_ : 0 ≤ m) (hx : -9223372036854775808 ≤ x) (hs : m - x ≤ 9223372036854775807) :
    Calls Try.prog 9 #[.pointer (some ⟨g, 0, none⟩), .int .i64 x] w fun e w' => e = .returned (.int .i64 (sinceN m x)) ∧ w' = w := by
  have hl := count_any g m w hc
  by_cases h1 : m ≤ x
  · have E := Lib.hid (show sinceN m x = 0 by simp [sinceN, h1])
    go_enter Try.func9, Try.ntmps9
    go_wp2_with fail
    (with_reducible refine hl.mono ?_)
    rintro e w' ⟨rfl, rfl⟩
    go_wp2
    go_ret
    exact ⟨ret_int E.out.symm, rfl⟩
  · have E := Lib.hid (show sinceN m x = m - x by simp [sinceN, h1])
    have e1 : IntKind.i64.wrap (m - x) = m - x := by simp [IntKind.wrap_i64]; omega
    by_cases h2 : x < 0
    · have e2 : IntKind.i64.wrap (9223372036854775807 + x) = 9223372036854775807 + x := by simp [IntKind.wrap_i64]; omega
      have h3 : ¬ (9223372036854775807 + x < m) := by omega
      go_enter Try.func9, Try.ntmps9
      go_wp2_with fail
      (with_reducible refine hl.mono ?_)
      rintro e w' ⟨rfl, rfl⟩
      go_wp2
      go_ret
      exact ⟨ret_int E.out.symm, rfl⟩
    · go_enter Try.func9, Try.ntmps9
      go_wp2_with fail
      (with_reducible refine hl.mono ?_)
      rintro e w' ⟨rfl, rfl⟩
      go_wp2
      go_ret
      exact ⟨ret_int E.out.symm, rfl⟩

set_option maxRecDepth 100000 in
theorem last_nil : Calls Try.prog 12 #[.pointer none] w fun e w' => e = .returned (.int .u64 0) ∧ w' = w := by
  go_enter Try.func12, Try.ntmps12
  go_wp2
  go_ret
  exact ⟨rfl, rfl⟩
set_option maxRecDepth 100000 in
theorem last_any (hc : w.cell? ⟨g, 0, none⟩ = some (.int .u64 m)) : Calls Try.prog 12 #[.pointer (some ⟨g, 0, none⟩)] w fun e w' => e = .returned (.int .u64 m) ∧ w' = w := by
  have hl := load_u64 hc
  go_enter Try.func12, Try.ntmps12
  go_wp2
  go_ret
  exact ⟨rfl, rfl⟩
set_option maxRecDepth 100000 in
theorem next_nil : Calls Try.prog 13 #[.pointer none] w fun e w' => e = .returned (.int .u64 0) ∧ w' = w := by
  go_enter Try.func13, Try.ntmps13
  go_wp2
  go_ret
  exact ⟨rfl, rfl⟩
set_option maxRecDepth 100000 in
theorem next_any (h : Blk w g #[.int .u64 m]) (hm : 0 ≤ m) (hs : m + 1 ≤ 18446744073709551615) : Calls Try.prog 13 #[.pointer (some ⟨g, 0, none⟩)] w fun e w' => e = .returned (.int .u64 (m + 1)) ∧
    Blk w' g #[.int .u64 (m + 1)] ∧ Kept (· = g) w w' := by
  have hc : w.cell? ⟨g, 0, none⟩ = some (.int .u64 m) := h.cell 0
  have hz := h.fz 0
  have e : IntKind.u64.wrap (m + 1) = m + 1 := by simp [IntKind.wrap, IntKind.bits, IntKind.signed]; omega
  have ha := add_u64 hc hz e
  have HB := Lib.hid (show Blk (w.setCell ⟨g, 0, none⟩ (.int .u64 (m + 1))) g #[.int .u64 (m + 1)] by simpa using h.set_ 0 (.int .u64 (m + 1)))
  go_enter Try.func13, Try.ntmps13
  go_wp2
  go_ret
  exact ⟨rfl, HB.out, Kept.set_ _ _ _ rfl⟩
end
end Go.Proofs.Ytmjdfppdjdjmcaa
