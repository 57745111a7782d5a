/-
  How an argument is read that is an array of two: the general part.
-/
import Derived.Test.YtdpddkpfllioiaaDoorRow
namespace Go.Proofs.YtdpddkpfllioiaaDoor
open Go.ChangeShapes Go.WideShapes Go.ChangeAt Go.RowKit

theorem trod_pair_of {H : Type} {enc : TypeId × Value → H} {P : Program} {w : World} {base : Nat} {spare : Nat → Bool} {held : Bool} {t e : TypeId} {fuel : Nat} {a b : Value} {x : DataW H × List MemPlace}
    (ht : P.underlying t = some (.array 2 e)) (hce : P.cellsOf e = 1) (h : DataW.trod enc P w base spare held fuel t [a, b] = some x) :
    ∃ y z n, DataW.trod enc P w base spare held n e [a] = some y ∧ DataW.trod enc P w base spare held n e [b] = some z := by
  cases fuel with
  | zero => simp [DataW.trod] at h
  | succ n =>
    unfold DataW.trod at h
    rw [ht] at h
    have r2 : List.range 2 = [0, 1] := rfl
    simp [r2, hce] at h
    obtain ⟨_, h⟩ := h
    rcases ha : DataW.trod enc P w base spare held n e [a] with _ | y
    · simp [ha] at h
    · rcases hb : DataW.trod enc P w base spare held n e [b] with _ | z
      · simp [ha, hb] at h
      · exact ⟨y, z, n, ha, hb⟩

theorem okWide_arr {P : Program} {w : World} {r : Reach} {base : Nat} {t e : TypeId} {v : Value} {n : Nat} (ht : P.underlying t = some (.array n e)) (h : Value.okWide P w r base t v) : ∃ cs, v = .agg cs ∧ cs.size = P.cellsOf t := by
  simp only [Value.okWide, ht] at h
  obtain ⟨cs, h1, h2, _⟩ := h
  exact ⟨cs, h1, h2⟩
end Go.Proofs.YtdpddkpfllioiaaDoor
