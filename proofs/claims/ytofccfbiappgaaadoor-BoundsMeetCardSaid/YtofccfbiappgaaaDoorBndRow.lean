/-
  How arguments of layer 7 are read: a span, three slices of values.
-/
import Derived.Test.YtofccfbiappgaaaDoorRow
import Derived.Test.YtofccfbiappgaaaDoorBndMem
namespace Go.Proofs.YtofccfbiappgaaaDoor
open Go.ChangeShapes Go.WideShapes Go.ChangeAt Go.RowKit

set_option maxRecDepth 100000 in
theorem cells_rsp : Tryd.prog.cellsOf 24 = 3 := by kernel_rfl
set_option maxRecDepth 100000 in
theorem cells_vl3 : Tryd.prog.cellsOf 44 = 3 := by kernel_rfl
section
variable {H : Type} {enc : TypeId × Value → H} {W : World}
set_option maxRecDepth 100000 in
theorem span_cells {fuel : Nat} {cs : List Value} {x : DataW H × List MemPlace} (h : DataW.trod enc Tryd.prog W 0 (fun _ => true) true fuel 24 cs = some x) :
    ∃ A n c f A' n' c' t o, cs = [.slice A n c, .slice A' n' c', .bool o] ∧ (Byt W W.heap.size A n f ∧ n ≤ c) ∧ (Byt W W.heap.size A' n' t ∧ n' ≤ c') := by
  obtain ⟨xs, m, _, _, hlen, hsz, hg⟩ := DataW.trod_struct Tryd.underlying24 h
  rw [cells_rsp] at hlen
  match cs, hlen, xs, hsz with
  | [c0, c1, c2], _, [y0, y1, y2], _ =>
    have g0 : DataW.trod enc Tryd.prog W 0 (fun _ => true) true m 22 (([c0, c1, c2].drop 0).take (Tryd.prog.cellsOf 22)) = some y0 := hg 0 _ rfl
    have g1 : DataW.trod enc Tryd.prog W 0 (fun _ => true) true m 22 (([c0, c1, c2].drop 1).take (Tryd.prog.cellsOf 22)) = some y1 := hg 1 _ rfl
    have g2 : DataW.trod enc Tryd.prog W 0 (fun _ => true) true m 4 (([c0, c1, c2].drop 2).take (Tryd.prog.cellsOf 4)) = some y2 := hg 2 _ rfl
    rw [cells_bytes] at g0 g1
    rw [cells_bool] at g2
    obtain ⟨A, n, c, f, e0, r0⟩ := bytes_cells g0
    obtain ⟨A', n', c', t, e1, r1⟩ := bytes_cells g1
    obtain ⟨o, e2, _⟩ := DataW.trod_bool Tryd.underlying4 g2
    have e0' : c0 = .slice A n c := by simpa using e0
    have e1' : c1 = .slice A' n' c' := by simpa using e1
    have e2' : c2 = .bool o := by simpa using e2
    exact ⟨A, n, c, f, A', n', c', t, o, by rw [e0', e1', e2'], r0, r1⟩
set_option maxRecDepth 100000 in
theorem open_span {base : Nat} {v : Value} {d : DataW H} {p : List MemPlace}
    (hok : Value.okWide Tryd.prog W .any base 24 v) (h : DataW.Trod enc Tryd.prog W 0 (fun _ => true) true 24 v d p) :
    ∃ A n c f A' n' c' t o, v = .agg #[.slice A n c, .slice A' n' c', .bool o] ∧ (Byt W W.heap.size A n f ∧ n ≤ c) ∧ (Byt W W.heap.size A' n' t ∧ n' ≤ c') := by
  obtain ⟨cs, rfl, _⟩ := okWide_struct Tryd.underlying24 hok
  obtain ⟨fuel, hf⟩ := h
  obtain ⟨A, n, c, f, A', n', c', t, o, e, r⟩ := span_cells hf
  have e' : cs.toList = [.slice A n c, .slice A' n' c', .bool o] := by simpa [Value.cells] using e
  obtain ⟨cs⟩ := cs
  exact ⟨A, n, c, f, A', n', c', t, o, by simpa using e', r⟩
set_option maxRecDepth 100000 in
theorem open_vl3 {base : Nat} {v : Value} {d : DataW H} {p : List MemPlace}
    (hok : Value.okWide Tryd.prog W .any base 44 v) (h : DataW.Trod enc Tryd.prog W 0 (fun _ => true) true 44 v d p) :
    ∃ A n c vs A' n' c' vs' A2 n2 c2 vs2, v = .agg #[.slice A n c, .slice A' n' c', .slice A2 n2 c2] ∧ (Vls W W.heap.size A n vs ∧ n ≤ c ∧ ∀ v ∈ vs, VB v) ∧ (Vls W W.heap.size A' n' vs' ∧ n' ≤ c' ∧ ∀ v ∈ vs', VB v) ∧ (Vls W W.heap.size A2 n2 vs2 ∧ n2 ≤ c2 ∧ ∀ v ∈ vs2, VB v) := by
  obtain ⟨cs, rfl, hsz⟩ := okWide_arr Tryd.underlying44 hok
  rw [cells_vl3] at hsz
  obtain ⟨cs⟩ := cs
  match cs, hsz with
  | [c0, c1, c2], _ =>
    obtain ⟨fuel, hf⟩ := h
    have hf' : DataW.trod enc Tryd.prog W 0 (fun _ => true) true fuel 44 [c0, c1, c2] = some (d, p) := by simpa [Value.cells] using hf
    obtain ⟨xs, m, _, _, _, hxl, hel⟩ := DataW.trod_array Tryd.underlying44 hf'
    match xs, hxl with
    | [y0, y1, y2], _ =>
      obtain ⟨A, n, c, vs, e, r⟩ := vls_cells (show DataW.trod enc Tryd.prog W 0 (fun _ => true) true m 43 [c0] = some y0 from hel 0 (by decide))
      obtain ⟨A', n', c', vs', e', r'⟩ := vls_cells (show DataW.trod enc Tryd.prog W 0 (fun _ => true) true m 43 [c1] = some y1 from hel 1 (by decide))
      obtain ⟨A2, n2, cc2, vs2, e2, r2⟩ := vls_cells (show DataW.trod enc Tryd.prog W 0 (fun _ => true) true m 43 [c2] = some y2 from hel 2 (by decide))
      simp only [List.cons.injEq, and_true] at e e' e2
      subst e e' e2
      exact ⟨A, n, c, vs, A', n', c', vs', A2, n2, cc2, vs2, rfl, r, r', r2⟩
end
end Go.Proofs.YtofccfbiappgaaaDoor
