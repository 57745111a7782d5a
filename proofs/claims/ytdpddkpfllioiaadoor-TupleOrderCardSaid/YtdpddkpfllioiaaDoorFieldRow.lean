/-
  How arguments are read: a field, a value of the document's types (structs by value).
-/
import Derived.Test.YtdpddkpfllioiaaDoorIencTab
import Derived.Test.YtdpddkpfllioiaaDoorRowArr
namespace Go.Proofs.YtdpddkpfllioiaaDoor
open Go.ChangeShapes Go.WideShapes Go.ChangeAt Go.RowKit

theorem cells_bool : Tryd.prog.cellsOf 4 = 1 := by kernel_rfl
theorem cells_u64 : Tryd.prog.cellsOf 66 = 1 := by kernel_rfl
theorem cells_bytes : Tryd.prog.cellsOf 26 = 1 := by kernel_rfl
theorem cells_rf : Tryd.prog.cellsOf 57 = 2 := by kernel_rfl
theorem cells_rv : Tryd.prog.cellsOf 68 = 4 := by kernel_rfl
theorem wf_u64 {y : Int} (hy : (Lit.int .u64 y).wf = true) : ∃ n : Nat, y = n ∧ n ≤ 18446744073709551615 := by
  have hb : 0 ≤ y ∧ y ≤ 18446744073709551615 := by simpa [Lit.wf, IntKind.min, IntKind.max, IntKind.signed, IntKind.bits] using hy
  exact ⟨y.toNat, by omega, by omega⟩
theorem wf_i64 {y : Int} (hy : (Lit.int .i64 y).wf = true) : y ≤ 9223372036854775807 := by
  have hb : -9223372036854775808 ≤ y ∧ y ≤ 9223372036854775807 := by simpa [Lit.wf, IntKind.min, IntKind.max, IntKind.signed, IntKind.bits] using hy
  exact hb.2

section
variable {H : Type} {enc : TypeId × Value → H} {W : World} {fuel : Nat} {cs : List Value} {x : DataW H × List MemPlace}
set_option maxRecDepth 100000 in
theorem bytes_cells (h : DataW.trod enc Tryd.prog W 0 (fun _ => true) true fuel 26 cs = some x) : ∃ A n c l, cs = [.slice A n c] ∧ Byt W W.heap.size A n l ∧ n ≤ c := by
  rcases open_ints Tryd.underlying26 Tryd.underlying5 cells_u8 h with ⟨hcs, _⟩ | ⟨x, l, c, zs, hcs, _, hl, hm, hz, _, hcell, hwz⟩
  · exact ⟨none, 0, 0, [], hcs, Byt.none_, Nat.le_refl _⟩
  · obtain ⟨bl, hb⟩ := byt_of_cells hl hm (by simpa using hz) hcell hwz
    exact ⟨_, _, _, bl, hcs, hb, hl⟩
set_option maxRecDepth 100000 in
theorem field_cells (h : DataW.trod enc Tryd.prog W 0 (fun _ => true) true fuel 57 cs = some x) : ∃ k f, cs = [.int .i64 k, .bool f] := by
  obtain ⟨xs, n, _, _, hlen, hsz, hg⟩ := DataW.trod_struct Tryd.underlying57 h
  rw [cells_rf] at hlen
  match cs, hlen, xs, hsz with
  | [c0, c1], _, [y0, y1], _ =>
    have g0 : DataW.trod enc Tryd.prog W 0 (fun _ => true) true n 3 (([c0, c1].drop 0).take (Tryd.prog.cellsOf 3)) = some y0 := hg 0 _ rfl
    have g1 : DataW.trod enc Tryd.prog W 0 (fun _ => true) true n 4 (([c0, c1].drop 1).take (Tryd.prog.cellsOf 4)) = some y1 := hg 1 _ rfl
    rw [cells_int] at g0
    rw [cells_bool] at g1
    obtain ⟨n0, e0, _, _⟩ := DataW.trod_int Tryd.underlying3 g0
    obtain ⟨n1, e1, _⟩ := DataW.trod_bool Tryd.underlying4 g1
    have e0' : c0 = .int .i64 n0 := by simpa using e0
    have e1' : c1 = .bool n1 := by simpa using e1
    exact ⟨n0, n1, by rw [e0', e1']⟩
set_option maxRecDepth 100000 in
theorem value_cells (h : DataW.trod enc Tryd.prog W 0 (fun _ => true) true fuel 68 cs = some x) :
    ∃ (u : Nat) (i : Int) (A : Option Addr) (n c : Nat) (t : Bool) (l : List UInt8), cs = [.int .u64 u, .int .i64 i, .slice A n c, .bool t] ∧ u ≤ 18446744073709551615 ∧ i ≤ 9223372036854775807 ∧ Byt W W.heap.size A n l ∧ n ≤ c := by
  obtain ⟨xs, m, _, _, hlen, hsz, hg⟩ := DataW.trod_struct Tryd.underlying68 h
  rw [cells_rv] at hlen
  match cs, hlen, xs, hsz with
  | [c0, c1, c2, c3], _, [y0, y1, y2, y3], _ =>
    have g0 : DataW.trod enc Tryd.prog W 0 (fun _ => true) true m 66 (([c0, c1, c2, c3].drop 0).take (Tryd.prog.cellsOf 66)) = some y0 := hg 0 _ rfl
    have g1 : DataW.trod enc Tryd.prog W 0 (fun _ => true) true m 2 (([c0, c1, c2, c3].drop 1).take (Tryd.prog.cellsOf 2)) = some y1 := hg 1 _ rfl
    have g2 : DataW.trod enc Tryd.prog W 0 (fun _ => true) true m 26 (([c0, c1, c2, c3].drop 2).take (Tryd.prog.cellsOf 26)) = some y2 := hg 2 _ rfl
    have g3 : DataW.trod enc Tryd.prog W 0 (fun _ => true) true m 4 (([c0, c1, c2, c3].drop 3).take (Tryd.prog.cellsOf 4)) = some y3 := hg 3 _ rfl
    rw [cells_u64] at g0
    rw [cells_i64] at g1
    rw [cells_bytes] at g2
    rw [cells_bool] at g3
    obtain ⟨n0, e0, _, w0⟩ := DataW.trod_int Tryd.underlying66 g0
    obtain ⟨n1, e1, _, w1⟩ := DataW.trod_int Tryd.underlying2 g1
    obtain ⟨A, n, c, l, e2, hb, hnc⟩ := bytes_cells g2
    obtain ⟨n3, e3, _⟩ := DataW.trod_bool Tryd.underlying4 g3
    obtain ⟨u, rfl, hu⟩ := wf_u64 w0
    have e0' : c0 = .int .u64 u := by simpa using e0
    have e1' : c1 = .int .i64 n1 := by simpa using e1
    have e2' : c2 = .slice A n c := by simpa using e2
    have e3' : c3 = .bool n3 := by simpa using e3
    exact ⟨u, n1, A, n, c, n3, l, by rw [e0', e1', e2', e3'], hu, wf_i64 w1, hb, hnc⟩
end

set_option maxRecDepth 100000 in
theorem open_fld {H : Type} {enc : TypeId × Value → H} {W : World} {base : Nat} {v : Value} {d : DataW H} {p : List MemPlace}
    (hok : Value.okWide Tryd.prog W .any base 57 v) (h : DataW.Trod enc Tryd.prog W 0 (fun _ => true) true 57 v d p) :
    ∃ k f, v = .agg #[.int .i64 k, .bool f] := by
  obtain ⟨cs, rfl, _⟩ := okWide_struct Tryd.underlying57 hok
  obtain ⟨fuel, hf⟩ := h
  obtain ⟨k, f, e⟩ := field_cells hf
  have e' : cs.toList = [.int .i64 k, .bool f] := by simpa [Value.cells] using e
  obtain ⟨cs⟩ := cs
  exact ⟨k, f, by simpa using e'⟩
set_option maxRecDepth 100000 in
theorem open_val {H : Type} {enc : TypeId × Value → H} {W : World} {base : Nat} {v : Value} {d : DataW H} {p : List MemPlace}
    (hok : Value.okWide Tryd.prog W .any base 68 v) (h : DataW.Trod enc Tryd.prog W 0 (fun _ => true) true 68 v d p) :
    ∃ (u : Nat) (i : Int) (A : Option Addr) (n c : Nat) (t : Bool) (l : List UInt8), v = .agg #[.int .u64 u, .int .i64 i, .slice A n c, .bool t] ∧ u ≤ 18446744073709551615 ∧ i ≤ 9223372036854775807 ∧ Byt W W.heap.size A n l ∧ n ≤ c := by
  obtain ⟨cs, rfl, _⟩ := okWide_struct Tryd.underlying68 hok
  obtain ⟨fuel, hf⟩ := h
  obtain ⟨u, i, A, n, c, t, l, e, r⟩ := value_cells hf
  have e' : cs.toList = [.int .u64 u, .int .i64 i, .slice A n c, .bool t] := by simpa [Value.cells] using e
  obtain ⟨cs⟩ := cs
  exact ⟨u, i, A, n, c, t, l, by simpa using e', r⟩
end Go.Proofs.YtdpddkpfllioiaaDoor
