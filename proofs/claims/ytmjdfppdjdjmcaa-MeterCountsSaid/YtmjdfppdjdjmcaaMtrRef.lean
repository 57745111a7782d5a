/-
  The document's meter, and its thing that is told once.
-/
import Derived.Test.YtmjdfppdjdjmcaaMtr
namespace Go.Proofs.Ytmjdfppdjdjmcaa
open Go.RowKit

set_option maxRecDepth 100000 in
theorem load1 {ty : TypeId} {D : TypeDesc} (hu : Try.prog.underlying ty = some D) (hd : D.isRow = true) (hi : (Try.prog.info? ty).map (·.size) = some 1) {w : World} {g : Nat} {a : Value} (h : Blk w g #[a]) :
    (loadVar ty ⟨g, 0, none⟩).run Try.prog w = .ok (.agg #[a]) w := by
  refine run_loadVar_mid w g 0 ty [a] _ (fun j v hv => ?_) hu hd hi
  rw [Nat.zero_add]
  match j, hv with
  | 0, hv => simp at hv; subst hv; exact h.cell 0
set_option maxRecDepth 100000 in
theorem load2 {ty : TypeId} {D : TypeDesc} (hu : Try.prog.underlying ty = some D) (hd : D.isRow = true) (hi : (Try.prog.info? ty).map (·.size) = some 2) {w : World} {g : Nat} {a b : Value} (h : Blk w g #[a, b]) :
    (loadVar ty ⟨g, 0, none⟩).run Try.prog w = .ok (.agg #[a, b]) w := by
  refine run_loadVar_mid w g 0 ty [a, b] _ (fun j v hv => ?_) hu hd hi
  rw [Nat.zero_add]
  match j, hv with
  | 0, hv => simp at hv; subst hv; exact h.cell 0
  | 1, hv => simp at hv; subst hv; exact h.cell 1

section
variable (m x : Int) (w : World)

set_option maxRecDepth 100000 in
theorem rmade_any (hm : 0 ≤ m) (hs : m + x ≤ 9223372036854775807) :
    Calls Try.prog 7 #[.agg #[.int .i64 m], .int .i64 x] w fun e w' => e = .returned (.agg #[.int .i64 (madeN m x)]) ∧ Below w.heap.size w w' := by
  by_cases hx : 0 < x
  · have e : IntKind.i64.wrap (m + x) = m + x := by simp [IntKind.wrap_i64]; omega
    have E := Lib.hid (show madeN m x = m + x by have : ¬ x < 0 := by omega
                                                 simp [madeN, this])
    go_enter Try.func7, Try.ntmps7
    go_wp2
    have q : Blk ((w.alloc (.cells #[.int .i64 (m + x)] 32)).alloc (.cells #[.int .i64 (m + x)] 32)) (w.heap.size + 1) #[.int .i64 (m + x)] := by have := Blk.new (w.alloc (.cells #[.int .i64 (m + x)] 32)) 32 #[.int .i64 (m + x)]; rwa [World.size_alloc] at this
    have q2 := load1 (ty := 32) Try.underlying32 rfl (by kernel_rfl) q
    refine bodyPost_ret (v := .agg #[.int .i64 (m + x)]) (by rw [results_cell1 rfl]; simp [asAddr, Result.andThen, q2]) rfl ?_
    exact ⟨by rw [E.out], ((Below.refl _ _).alloc (Nat.le_refl _) _).alloc (by simp) _⟩
  · have E := Lib.hid (show madeN m x = m by by_cases h : x < 0
                                             · simp [madeN, h]
                                             · have : x = 0 := by omega
                                               simp [madeN, this])
    go_enter Try.func7, Try.ntmps7
    go_wp2
    have q : Blk ((w.alloc (.cells #[.int .i64 m] 32)).alloc (.cells #[.int .i64 m] 32)) (w.heap.size + 1) #[.int .i64 m] := by have := Blk.new (w.alloc (.cells #[.int .i64 m] 32)) 32 #[.int .i64 m]; rwa [World.size_alloc] at this
    have q2 := load1 (ty := 32) Try.underlying32 rfl (by kernel_rfl) q
    refine bodyPost_ret (v := .agg #[.int .i64 m]) (by rw [results_cell1 rfl]; simp [asAddr, Result.andThen, q2]) rfl ?_
    exact ⟨by rw [E.out], ((Below.refl _ _).alloc (Nat.le_refl _) _).alloc (by simp) _⟩
set_option maxRecDepth 100000 in
theorem rsince_any (_ : -9223372036854775808 ≤ x) (hs : m - x ≤ 9223372036854775807) :
    Calls Try.prog 10 #[.agg #[.int .i64 m], .int .i64 x] w fun e w' => e = .returned (.int .i64 (sinceN m x)) ∧ Below w.heap.size w w' := by
  by_cases h1 : m < x
  · have E := Lib.hid (show sinceN m x = 0 by have : m ≤ x := by omega
                                              simp [sinceN, this])
    go_enter Try.func10, Try.ntmps10
    go_wp2
    go_ret
    exact ⟨ret_int E.out.symm, (Below.refl _ _).alloc (Nat.le_refl _) _⟩
  · have e : IntKind.i64.wrap (m - x) = m - x := by simp [IntKind.wrap_i64]; omega
    have E := Lib.hid (show sinceN m x = m - x by by_cases h : x ≥ m
                                                  · have : x = m := by omega
                                                    simp [sinceN, this]
                                                  · simp [sinceN, h])
    go_enter Try.func10, Try.ntmps10
    go_wp2
    go_ret
    exact ⟨ret_int E.out.symm, (Below.refl _ _).alloc (Nat.le_refl _) _⟩

set_option maxRecDepth 100000 in
theorem rget_yes (n : Int) : Calls Try.prog 16 #[.agg #[.int .i64 n, .bool true], .int .i64 x] w fun e w' => e = .returned (.tuple #[.agg #[.int .i64 n, .bool true], .int .i64 n, .bool false]) ∧ Below w.heap.size w w' := by
  go_enter Try.func16, Try.ntmps16
  go_wp2
  go_region
  all_goals go_wp2
  all_goals (
    have q : Blk (((w.alloc (.cells #[.int .i64 n, .bool true] 65)).alloc (.cells #[.int .i64 n, .bool true] 65)).drew) (w.heap.size + 1) #[.int .i64 n, .bool true] := by have := Blk.new (w.alloc (.cells #[.int .i64 n, .bool true] 65)) 65 #[.int .i64 n, .bool true]; rwa [World.size_alloc] at this
    have q2 := load2 (ty := 65) Try.underlying65 rfl (by kernel_rfl) q
    refine bodyPost_ret (v := .tuple #[.agg #[.int .i64 n, .bool true], .int .i64 n, .bool false]) (by rw [results_cell3 rfl]; simp [asAddr, Result.andThen, q2]) rfl ?_
    exact ⟨rfl, (((Below.refl _ _).alloc (Nat.le_refl _) _).alloc (by simp) _).drew⟩)
set_option maxRecDepth 100000 in
theorem rget_no (n : Int) : Calls Try.prog 16 #[.agg #[.int .i64 n, .bool false], .int .i64 x] w fun e w' => e = .returned (.tuple #[.agg #[.int .i64 x, .bool true], .int .i64 x, .bool true]) ∧ Below w.heap.size w w' := by
  go_enter Try.func16, Try.ntmps16
  go_wp2
  have q : Blk ((w.alloc (.cells #[.int .i64 n, .bool false] 65)).alloc (.cells #[.int .i64 x, .bool true] 65)) (w.heap.size + 1) #[.int .i64 x, .bool true] := by have := Blk.new (w.alloc (.cells #[.int .i64 n, .bool false] 65)) 65 #[.int .i64 x, .bool true]; rwa [World.size_alloc] at this
  have q2 := load2 (ty := 65) Try.underlying65 rfl (by kernel_rfl) q
  refine bodyPost_ret (v := .tuple #[.agg #[.int .i64 x, .bool true], .int .i64 x, .bool true]) (by rw [results_cell3 rfl]; simp [asAddr, Result.andThen, q2]) rfl ?_
  exact ⟨rfl, ((Below.refl _ _).alloc (Nat.le_refl _) _).alloc (by simp) _⟩
end
end Go.Proofs.Ytmjdfppdjdjmcaa
