/-
  How an argument is read that is an array of two numbers.
-/
import Derived.Test.YtlnbbipgfghfeaaRow
namespace Go.Proofs.Ytlnbbipgfghfeaa
open Go.ChangeShapes Go.WideShapes Go.ChangeAt Go.RowKit

theorem trod_pair_of {H : Type} {enc : TypeId × Value → H} {P : Program} {w : World} {base : Nat} {spare : Nat → Bool} {held : Bool} {t e : TypeId} {fuel : Nat} {a b : Value} {x : DataW H × List MemPlace}
    (ht : P.underlying t = some (.array 2 e)) (hce : P.cellsOf e = 1) (h : DataW.trod enc P w base spare held fuel t [a, b] = some x) :
    ∃ y z n, DataW.trod enc P w base spare held n e [a] = some y ∧ DataW.trod enc P w base spare held n e [b] = some z := by
  cases fuel with
  | zero => simp [DataW.trod] at h
  | succ n =>
    unfold DataW.trod at h
    rw [ht] at h
    have r2 : List.range 2 = [0, 1] := rfl
    simp [r2, hce] at h
    obtain ⟨_, h⟩ := h
    rcases ha : DataW.trod enc P w base spare held n e [a] with _ | y
    · simp [ha] at h
    · rcases hb : DataW.trod enc P w base spare held n e [b] with _ | z
      · simp [ha, hb] at h
      · exact ⟨y, z, n, ha, hb⟩

theorem okWide_arr {P : Program} {w : World} {r : Reach} {base : Nat} {t e : TypeId} {v : Value} {n : Nat} (ht : P.underlying t = some (.array n e)) (h : Value.okWide P w r base t v) : ∃ cs, v = .agg cs ∧ cs.size = P.cellsOf t := by
  simp only [Value.okWide, ht] at h
  obtain ⟨cs, h1, h2, _⟩ := h
  exact ⟨cs, h1, h2⟩

theorem cells_u64 : Try.prog.cellsOf 22 = 1 := by kernel_rfl
theorem cells_u64s : Try.prog.cellsOf 43 = 2 := by kernel_rfl
theorem wf_u64 {y : Int} (hy : (Lit.int .u64 y).wf = true) : ∃ n : Nat, y = n ∧ n ≤ 18446744073709551615 := by
  have hb : 0 ≤ y ∧ y ≤ 18446744073709551615 := by simpa [Lit.wf, IntKind.min, IntKind.max, IntKind.signed, IntKind.bits] using hy
  exact ⟨y.toNat, by omega, by omega⟩

theorem open_u64s {H : Type} {enc : TypeId × Value → H} {W : World} {base : Nat} {v : Value} {d : DataW H} {p : List MemPlace}
    (hok : Value.okWide Try.prog W .any base 43 v) (h : DataW.Trod enc Try.prog W 0 (fun _ => true) true 43 v d p) :
    ∃ a b : Nat, v = .agg #[.int .u64 a, .int .u64 b] ∧ a ≤ 18446744073709551615 ∧ b ≤ 18446744073709551615 := by
  obtain ⟨cs, rfl, hsz⟩ := okWide_arr Try.underlying43 hok
  rw [cells_u64s] at hsz
  obtain ⟨cs⟩ := cs
  match cs, hsz with
  | [u, v], _ =>
    obtain ⟨fuel, hf⟩ := h
    have hf' : DataW.trod enc Try.prog W 0 (fun _ => true) true fuel 43 [u, v] = some (d, p) := by simpa [Value.cells] using hf
    obtain ⟨y, z, n, h1, h2⟩ := trod_pair_of Try.underlying43 cells_u64 hf'
    obtain ⟨x1, e1, _, w1⟩ := DataW.trod_int Try.underlying22 h1
    obtain ⟨x2, e2, _, w2⟩ := DataW.trod_int Try.underlying22 h2
    simp only [List.cons.injEq, and_true] at e1 e2
    obtain ⟨a, rfl, ha⟩ := wf_u64 w1
    obtain ⟨b, rfl, hb⟩ := wf_u64 w2
    subst e1 e2
    exact ⟨a, b, rfl, ha, hb⟩
end Go.Proofs.Ytlnbbipgfghfeaa
