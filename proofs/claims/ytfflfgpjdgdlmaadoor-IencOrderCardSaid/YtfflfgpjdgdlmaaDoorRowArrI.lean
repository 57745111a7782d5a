/-
  How an argument is read that is an array of two numbers with a sign.
-/
import Derived.Test.YtfflfgpjdgdlmaaDoorRowArr
namespace Go.Proofs.YtfflfgpjdgdlmaaDoor
open Go.ChangeShapes Go.WideShapes Go.ChangeAt Go.RowKit

theorem cells_i64_1 : Tryd.prog.cellsOf 2 = 1 := by kernel_rfl
theorem cells_i64s : Tryd.prog.cellsOf 44 = 2 := by kernel_rfl

theorem open_i64s {H : Type} {enc : TypeId × Value → H} {W : World} {base : Nat} {v : Value} {d : DataW H} {p : List MemPlace}
    (hok : Value.okWide Tryd.prog W .any base 44 v) (h : DataW.Trod enc Tryd.prog W 0 (fun _ => true) true 44 v d p) :
    ∃ a b : Int, v = .agg #[.int .i64 a, .int .i64 b] ∧ a ≤ 9223372036854775807 ∧ b ≤ 9223372036854775807 := by
  obtain ⟨cs, rfl, hsz⟩ := okWide_arr Tryd.underlying44 hok
  rw [cells_i64s] at hsz
  obtain ⟨cs⟩ := cs
  match cs, hsz with
  | [u, v], _ =>
    obtain ⟨fuel, hf⟩ := h
    have hf' : DataW.trod enc Tryd.prog W 0 (fun _ => true) true fuel 44 [u, v] = some (d, p) := by simpa [Value.cells] using hf
    obtain ⟨y, z, n, h1, h2⟩ := trod_pair_of Tryd.underlying44 cells_i64_1 hf'
    obtain ⟨x1, e1, _, w1⟩ := DataW.trod_int Tryd.underlying2 h1
    obtain ⟨x2, e2, _, w2⟩ := DataW.trod_int Tryd.underlying2 h2
    simp only [List.cons.injEq, and_true] at e1 e2
    subst e1 e2
    exact ⟨x1, x2, rfl, (bounds_i64 w1).2, (bounds_i64 w2).2⟩
end Go.Proofs.YtfflfgpjdgdlmaaDoor
