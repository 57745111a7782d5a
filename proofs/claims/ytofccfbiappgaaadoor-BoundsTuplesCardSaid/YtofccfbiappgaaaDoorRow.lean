/-
  How arguments are read: a slice of bytes that came in, as a list of bytes.
  From the row's condition on the table of the widths to its twelve cells.
  How an argument is read that is an array of two: the general part.
  How arguments are read: a field, a value of the document's types (structs by value).
  From the row's condition on the two tables to their cells; how arguments are read: slices of fields, of values, and two of those.
-/
import Derived.Test.YtofccfbiappgaaaDoorRows
import Derived.Test.YtofccfbiappgaaaDoorMem
import Derived.ProofKit
import Derived.OpenShut
import Derived.ShutString
import Derived.ChangeOld
import Derived.Test.YtofccfbiappgaaaDoorNums
import Derived.LaidMore
import Derived.Stop.Joined
import Derived.Test.YtofccfbiappgaaaDoorTup
import Derived.Stop.LaidErr
import Derived.Deep.Slices
namespace Go.Proofs.YtofccfbiappgaaaDoor
open Go.ChangeShapes Go.WideShapes Go.ChangeAt Go.RowKit
open Go.ChangeMaps (open_string shut_string)

set_option maxRecDepth 100000 in
theorem own : ownKnob Tryd.prog.godebug = none := by kernel_rfl
set_option maxRecDepth 100000 in
theorem laidOut : laidOutB Tryd.prog = true := by kernel_rfl
set_option maxRecDepth 100000 in
theorem cells_u8 : Tryd.prog.cellsOf 5 = 1 := by kernel_rfl

theorem lt_of_cell {w : World} {a : Addr} {v : Value} (h : w.cell? a = some v) : a.block < w.heap.size := by
  rcases Nat.lt_or_ge a.block w.heap.size with hlt | hge
  · exact hlt
  · simp [World.cell?, Array.getElem?_eq_none hge] at h

/-- The bytes of a row of numbers. -/
theorem byt_of_cells {w : World} {x : Addr} {zs : List Int} {len cap : Nat} (hl : len ≤ cap) (hm : cap ≤ maxLen) (hz : zs.length = cap)
    (hc : ∀ i, i < zs.length → w.cell? (x.add i) = some (.int .u8 (zs.getD i 0))) (hw : ∀ n ∈ zs, (Lit.int .u8 n).wf = true) :
    ∃ l, Byt w w.heap.size (some x) len l := by
  refine ⟨(zs.take len).map fun n => UInt8.ofNat n.toNat, by simp; omega, by omega, fun hn => ⟨x, rfl, ?_, fun j u hu => ?_⟩⟩
  · have := lt_of_cell (hc 0 (by omega))
    rwa [block_of_add] at this
  · rw [List.getElem?_map, List.getElem?_take] at hu
    split at hu
    · rename_i hj
      have hjz : j < zs.length := by omega
      rw [List.getElem?_eq_getElem hjz] at hu
      simp only [Option.map_some, Option.some.injEq] at hu
      subst hu
      rw [hc j hjz]
      have hwf := hw zs[j] (List.getElem_mem hjz)
      have hb : 0 ≤ zs[j] ∧ zs[j] ≤ 255 := by simpa [Lit.wf, IntKind.min, IntKind.max, IntKind.signed, IntKind.bits] using hwf
      have e : zs.getD j 0 = zs[j] := by simp [List.getD, List.getElem?_eq_getElem hjz]
      rw [e, UInt8.toNat_ofNat', Nat.mod_eq_of_lt (by simp; omega)]
      congr 2
      omega
    · simp at hu

set_option maxRecDepth 100000 in
theorem open_byt {H : Type} {enc : TypeId × Value → H} {W : World} {base : Nat} {v : Value} {d : DataW H} {p : List MemPlace}
    (hok : Value.okWide Tryd.prog W .any base 22 v) (h : DataW.Trod enc Tryd.prog W 0 (fun _ => true) true 22 v d p) :
    ∃ A n c l, v = .slice A n c ∧ Byt W W.heap.size A n l ∧ n ≤ c := by
  obtain ⟨a0, len0, cap0, rfl⟩ := okWide_slice Tryd.underlying22 hok
  obtain ⟨fuel, hf⟩ := h
  rcases open_ints Tryd.underlying22 Tryd.underlying5 cells_u8 hf with ⟨hcs, _⟩ | ⟨x, l, c, zs, hcs, _, hl, hm, hz, _, hcell, hwz⟩
  · simp [Value.cells] at hcs
    obtain ⟨rfl, rfl, rfl⟩ := hcs
    exact ⟨none, 0, 0, [], rfl, Byt.none_, Nat.le_refl _⟩
  · simp [Value.cells] at hcs
    obtain ⟨rfl, rfl, rfl⟩ := hcs
    obtain ⟨bl, hb⟩ := byt_of_cells hl hm (by simpa using hz) hcell hwz
    exact ⟨_, _, _, bl, rfl, hb, hl⟩
end Go.Proofs.YtofccfbiappgaaaDoor

namespace Go.Proofs.YtofccfbiappgaaaDoor
open Go.ChangeShapes Go.WideShapes Go.ChangeAt Go.RowKit

set_option maxRecDepth 100000 in
theorem gWidths : Tryd.prog.globalNamed "spunyarn/ienc.widths" = some 0 := by kernel_rfl
set_option maxRecDepth 100000 in
theorem tWidths : (Tryd.prog.globals[0]?).map (·.type) = some 109 := by kernel_rfl
set_option maxRecDepth 100000 in
theorem cells_int : Tryd.prog.cellsOf 3 = 1 := by kernel_rfl
set_option maxRecDepth 100000 in
theorem cells_i64 : Tryd.prog.cellsOf 2 = 1 := by kernel_rfl
set_option maxRecDepth 100000 in
theorem cells_num : Tryd.prog.cellsOf 104 = 3 := by kernel_rfl
set_option maxRecDepth 100000 in
theorem cells_nums : Tryd.prog.cellsOf 109 = 12 := by kernel_rfl

set_option maxRecDepth 100000 in
theorem num_cells {H : Type} {enc : TypeId × Value → H} {w : World} {base : Nat} {spare : Nat → Bool} {held : Bool} {fuel : Nat} {cs : List Value} {a b c : Int} {x : DataW H × List MemPlace}
    (h : DataW.trod enc Tryd.prog w base spare held fuel 104 cs = some x) (hx' : x.1 = .agg [.lit (.int .i64 a), .lit (.int .i64 b), .lit (.int .i64 c)]) : cs = [.int .i64 a, .int .i64 b, .int .i64 c] := by
  obtain ⟨xs, n, _, hx, hlen, hsz, hg⟩ := DataW.trod_struct Tryd.underlying104 h
  rw [cells_num] at hlen
  match cs, hlen, xs, hsz with
  | [c0, c1, c2], _, [y0, y1, y2], _ =>
    have g0 : DataW.trod enc Tryd.prog w base spare held n 3 (([c0, c1, c2].drop 0).take (Tryd.prog.cellsOf 3)) = some y0 := hg 0 _ rfl
    have g1 : DataW.trod enc Tryd.prog w base spare held n 2 (([c0, c1, c2].drop 1).take (Tryd.prog.cellsOf 2)) = some y1 := hg 1 _ rfl
    have g2 : DataW.trod enc Tryd.prog w base spare held n 2 (([c0, c1, c2].drop 2).take (Tryd.prog.cellsOf 2)) = some y2 := hg 2 _ rfl
    rw [cells_int] at g0
    rw [cells_i64] at g1 g2
    obtain ⟨n0, e0, f0, _⟩ := DataW.trod_int Tryd.underlying3 g0
    obtain ⟨n1, e1, f1, _⟩ := DataW.trod_int Tryd.underlying2 g1
    obtain ⟨n2, e2, f2, _⟩ := DataW.trod_int Tryd.underlying2 g2
    subst hx f0 f1 f2
    simp only [List.map_cons, List.map_nil, DataW.agg.injEq, List.cons.injEq, DataW.lit.injEq, Lit.int.injEq, true_and, and_true] at hx'
    obtain ⟨rfl, rfl, rfl⟩ := hx'
    have e0' : c0 = .int .i64 n0 := by simpa using e0
    have e1' : c1 = .int .i64 n1 := by simpa using e1
    have e2' : c2 = .int .i64 n2 := by simpa using e2
    rw [e0', e1', e2']

set_option maxRecDepth 100000 in
theorem of_laid {W : World} (h : laidMetH Tryd.prog [("spunyarn/ienc.widths", Rows.laid_spunyarn_ienc_widths)] W) : Tab W := by
  rw [MakeChecks.laidMetH_plain _ _ _ (by kernel_rfl)] at h
  obtain ⟨ps, ⟨g0, t0, cs0, f0, p0, q0, hg0, ht0, hv0, hd0, _, _⟩, _, _⟩ := h
  obtain rfl := Option.some.inj (gWidths.symm.trans hg0)
  obtain rfl := Option.some.inj (tWidths.symm.trans ht0)
  have hc := World.var?_cell hg0 hv0
  obtain ⟨xs, m, _, hx, hlen, hsz, hel⟩ := DataW.trod_array Tryd.underlying109 hd0
  obtain ⟨cs⟩ := cs0
  rw [cells_nums] at hlen
  match cs, hlen, xs, hsz with
  | [c0, c1, c2, c3, c4, c5, c6, c7, c8, c9, c10, c11], _, [y0, y1, y2, y3], _ =>
    simp only [Prod.mk.injEq, Rows.laid_spunyarn_ienc_widths, DataW.agg.injEq, List.map_cons, List.map_nil, List.cons.injEq, and_true] at hx
    obtain ⟨⟨k0, k1, k2, k3⟩, _⟩ := hx
    have r0 := num_cells (show DataW.trod _ Tryd.prog W 0 _ false m 104 [c0, c1, c2] = some y0 from hel 0 (by decide)) k0.symm
    have r1 := num_cells (show DataW.trod _ Tryd.prog W 0 _ false m 104 [c3, c4, c5] = some y1 from hel 1 (by decide)) k1.symm
    have r2 := num_cells (show DataW.trod _ Tryd.prog W 0 _ false m 104 [c6, c7, c8] = some y2 from hel 2 (by decide)) k2.symm
    have r3 := num_cells (show DataW.trod _ Tryd.prog W 0 _ false m 104 [c9, c10, c11] = some y3 from hel 3 (by decide)) k3.symm
    simp only [List.cons.injEq, and_true] at r0 r1 r2 r3
    obtain ⟨rfl, rfl, rfl⟩ := r0
    obtain ⟨rfl, rfl, rfl⟩ := r1
    obtain ⟨rfl, rfl, rfl⟩ := r2
    obtain ⟨rfl, rfl, rfl⟩ := r3
    exact ⟨lt_of_cell (a := ⟨0, 0, none⟩) (hc 0), hc 0, hc 1, hc 2, hc 3, hc 4, hc 5, hc 6, hc 7, hc 8, hc 9, hc 10, hc 11⟩

set_option maxRecDepth 100000 in
/-- The door's own heap meets the condition. -/
theorem door_met (os : Os) (args : Array Value) : laidMetH Tryd.prog [("spunyarn/ienc.widths", Rows.laid_spunyarn_ienc_widths)] ((World.doorLaid Tryd.prog 400 os).forCall (fun _ _ => 0) ⟨#[], args, []⟩).memory :=
  laidMetH_of_parts3 (fuel := 8) (laidMet_of_run' 8 (by kernel_rfl) (by kernel_rfl)) (by kernel_rfl) (by kernel_rfl)
end Go.Proofs.YtofccfbiappgaaaDoor

namespace Go.Proofs.YtofccfbiappgaaaDoor
open Go.ChangeShapes Go.WideShapes Go.ChangeAt Go.RowKit

theorem trod_pair_of {H : Type} {enc : TypeId × Value → H} {P : Program} {w : World} {base : Nat} {spare : Nat → Bool} {held : Bool} {t e : TypeId} {fuel : Nat} {a b : Value} {x : DataW H × List MemPlace}
    (ht : P.underlying t = some (.array 2 e)) (hce : P.cellsOf e = 1) (h : DataW.trod enc P w base spare held fuel t [a, b] = some x) :
    ∃ y z n, DataW.trod enc P w base spare held n e [a] = some y ∧ DataW.trod enc P w base spare held n e [b] = some z := by
  cases fuel with
  | zero => simp [DataW.trod] at h
  | succ n =>
    unfold DataW.trod at h
    rw [ht] at h
    have r2 : List.range 2 = [0, 1] := rfl
    simp [r2, hce] at h
    obtain ⟨_, h⟩ := h
    rcases ha : DataW.trod enc P w base spare held n e [a] with _ | y
    · simp [ha] at h
    · rcases hb : DataW.trod enc P w base spare held n e [b] with _ | z
      · simp [ha, hb] at h
      · exact ⟨y, z, n, ha, hb⟩

theorem okWide_arr {P : Program} {w : World} {r : Reach} {base : Nat} {t e : TypeId} {v : Value} {n : Nat} (ht : P.underlying t = some (.array n e)) (h : Value.okWide P w r base t v) : ∃ cs, v = .agg cs ∧ cs.size = P.cellsOf t := by
  simp only [Value.okWide, ht] at h
  obtain ⟨cs, h1, h2, _⟩ := h
  exact ⟨cs, h1, h2⟩
end Go.Proofs.YtofccfbiappgaaaDoor

namespace Go.Proofs.YtofccfbiappgaaaDoor
open Go.ChangeShapes Go.WideShapes Go.ChangeAt Go.RowKit

set_option maxRecDepth 100000 in
theorem cells_bool : Tryd.prog.cellsOf 4 = 1 := by kernel_rfl
set_option maxRecDepth 100000 in
theorem cells_u64 : Tryd.prog.cellsOf 45 = 1 := by kernel_rfl
set_option maxRecDepth 100000 in
theorem cells_bytes : Tryd.prog.cellsOf 22 = 1 := by kernel_rfl
set_option maxRecDepth 100000 in
theorem cells_rf : Tryd.prog.cellsOf 77 = 2 := by kernel_rfl
set_option maxRecDepth 100000 in
theorem cells_rv : Tryd.prog.cellsOf 47 = 4 := by kernel_rfl
theorem wf_u64 {y : Int} (hy : (Lit.int .u64 y).wf = true) : ∃ n : Nat, y = n ∧ n ≤ 18446744073709551615 := by
  have hb : 0 ≤ y ∧ y ≤ 18446744073709551615 := by simpa [Lit.wf, IntKind.min, IntKind.max, IntKind.signed, IntKind.bits] using hy
  exact ⟨y.toNat, by omega, by omega⟩
theorem wf_i64 {y : Int} (hy : (Lit.int .i64 y).wf = true) : y ≤ 9223372036854775807 := by
  have hb : -9223372036854775808 ≤ y ∧ y ≤ 9223372036854775807 := by simpa [Lit.wf, IntKind.min, IntKind.max, IntKind.signed, IntKind.bits] using hy
  exact hb.2

section
variable {H : Type} {enc : TypeId × Value → H} {W : World} {fuel : Nat} {cs : List Value} {x : DataW H × List MemPlace}
set_option maxRecDepth 100000 in
theorem bytes_cells (h : DataW.trod enc Tryd.prog W 0 (fun _ => true) true fuel 22 cs = some x) : ∃ A n c l, cs = [.slice A n c] ∧ Byt W W.heap.size A n l ∧ n ≤ c := by
  rcases open_ints Tryd.underlying22 Tryd.underlying5 cells_u8 h with ⟨hcs, _⟩ | ⟨x, l, c, zs, hcs, _, hl, hm, hz, _, hcell, hwz⟩
  · exact ⟨none, 0, 0, [], hcs, Byt.none_, Nat.le_refl _⟩
  · obtain ⟨bl, hb⟩ := byt_of_cells hl hm (by simpa using hz) hcell hwz
    exact ⟨_, _, _, bl, hcs, hb, hl⟩
set_option maxRecDepth 100000 in
theorem field_cells (h : DataW.trod enc Tryd.prog W 0 (fun _ => true) true fuel 77 cs = some x) : ∃ k f, cs = [.int .i64 k, .bool f] := by
  obtain ⟨xs, n, _, _, hlen, hsz, hg⟩ := DataW.trod_struct Tryd.underlying77 h
  rw [cells_rf] at hlen
  match cs, hlen, xs, hsz with
  | [c0, c1], _, [y0, y1], _ =>
    have g0 : DataW.trod enc Tryd.prog W 0 (fun _ => true) true n 3 (([c0, c1].drop 0).take (Tryd.prog.cellsOf 3)) = some y0 := hg 0 _ rfl
    have g1 : DataW.trod enc Tryd.prog W 0 (fun _ => true) true n 4 (([c0, c1].drop 1).take (Tryd.prog.cellsOf 4)) = some y1 := hg 1 _ rfl
    rw [cells_int] at g0
    rw [cells_bool] at g1
    obtain ⟨n0, e0, _, _⟩ := DataW.trod_int Tryd.underlying3 g0
    obtain ⟨n1, e1, _⟩ := DataW.trod_bool Tryd.underlying4 g1
    have e0' : c0 = .int .i64 n0 := by simpa using e0
    have e1' : c1 = .bool n1 := by simpa using e1
    exact ⟨n0, n1, by rw [e0', e1']⟩
set_option maxRecDepth 100000 in
theorem value_cells (h : DataW.trod enc Tryd.prog W 0 (fun _ => true) true fuel 47 cs = some x) :
    ∃ (u : Nat) (i : Int) (A : Option Addr) (n c : Nat) (t : Bool) (l : List UInt8), cs = [.int .u64 u, .int .i64 i, .slice A n c, .bool t] ∧ u ≤ 18446744073709551615 ∧ i ≤ 9223372036854775807 ∧ Byt W W.heap.size A n l ∧ n ≤ c := by
  obtain ⟨xs, m, _, _, hlen, hsz, hg⟩ := DataW.trod_struct Tryd.underlying47 h
  rw [cells_rv] at hlen
  match cs, hlen, xs, hsz with
  | [c0, c1, c2, c3], _, [y0, y1, y2, y3], _ =>
    have g0 : DataW.trod enc Tryd.prog W 0 (fun _ => true) true m 45 (([c0, c1, c2, c3].drop 0).take (Tryd.prog.cellsOf 45)) = some y0 := hg 0 _ rfl
    have g1 : DataW.trod enc Tryd.prog W 0 (fun _ => true) true m 2 (([c0, c1, c2, c3].drop 1).take (Tryd.prog.cellsOf 2)) = some y1 := hg 1 _ rfl
    have g2 : DataW.trod enc Tryd.prog W 0 (fun _ => true) true m 22 (([c0, c1, c2, c3].drop 2).take (Tryd.prog.cellsOf 22)) = some y2 := hg 2 _ rfl
    have g3 : DataW.trod enc Tryd.prog W 0 (fun _ => true) true m 4 (([c0, c1, c2, c3].drop 3).take (Tryd.prog.cellsOf 4)) = some y3 := hg 3 _ rfl
    rw [cells_u64] at g0
    rw [cells_i64] at g1
    rw [cells_bytes] at g2
    rw [cells_bool] at g3
    obtain ⟨n0, e0, _, w0⟩ := DataW.trod_int Tryd.underlying45 g0
    obtain ⟨n1, e1, _, w1⟩ := DataW.trod_int Tryd.underlying2 g1
    obtain ⟨A, n, c, l, e2, hb, hnc⟩ := bytes_cells g2
    obtain ⟨n3, e3, _⟩ := DataW.trod_bool Tryd.underlying4 g3
    obtain ⟨u, rfl, hu⟩ := wf_u64 w0
    have e0' : c0 = .int .u64 u := by simpa using e0
    have e1' : c1 = .int .i64 n1 := by simpa using e1
    have e2' : c2 = .slice A n c := by simpa using e2
    have e3' : c3 = .bool n3 := by simpa using e3
    exact ⟨u, n1, A, n, c, n3, l, by rw [e0', e1', e2', e3'], hu, wf_i64 w1, hb, hnc⟩
end

set_option maxRecDepth 100000 in
theorem open_fld {H : Type} {enc : TypeId × Value → H} {W : World} {base : Nat} {v : Value} {d : DataW H} {p : List MemPlace}
    (hok : Value.okWide Tryd.prog W .any base 77 v) (h : DataW.Trod enc Tryd.prog W 0 (fun _ => true) true 77 v d p) :
    ∃ k f, v = .agg #[.int .i64 k, .bool f] := by
  obtain ⟨cs, rfl, _⟩ := okWide_struct Tryd.underlying77 hok
  obtain ⟨fuel, hf⟩ := h
  obtain ⟨k, f, e⟩ := field_cells hf
  have e' : cs.toList = [.int .i64 k, .bool f] := by simpa [Value.cells] using e
  obtain ⟨cs⟩ := cs
  exact ⟨k, f, by simpa using e'⟩
set_option maxRecDepth 100000 in
theorem open_val {H : Type} {enc : TypeId × Value → H} {W : World} {base : Nat} {v : Value} {d : DataW H} {p : List MemPlace}
    (hok : Value.okWide Tryd.prog W .any base 47 v) (h : DataW.Trod enc Tryd.prog W 0 (fun _ => true) true 47 v d p) :
    ∃ (u : Nat) (i : Int) (A : Option Addr) (n c : Nat) (t : Bool) (l : List UInt8), v = .agg #[.int .u64 u, .int .i64 i, .slice A n c, .bool t] ∧ u ≤ 18446744073709551615 ∧ i ≤ 9223372036854775807 ∧ Byt W W.heap.size A n l ∧ n ≤ c := by
  obtain ⟨cs, rfl, _⟩ := okWide_struct Tryd.underlying47 hok
  obtain ⟨fuel, hf⟩ := h
  obtain ⟨u, i, A, n, c, t, l, e, r⟩ := value_cells hf
  have e' : cs.toList = [.int .u64 u, .int .i64 i, .slice A n c, .bool t] := by simpa [Value.cells] using e
  obtain ⟨cs⟩ := cs
  exact ⟨u, i, A, n, c, t, l, by simpa using e', r⟩
end Go.Proofs.YtofccfbiappgaaaDoor

namespace Go.Proofs.YtofccfbiappgaaaDoor
open Go.ChangeShapes Go.WideShapes Go.ChangeAt Go.RowKit

set_option maxRecDepth 100000 in
theorem cells_str : Tryd.prog.cellsOf 9 = 1 := by kernel_rfl
/-- Of something for each place below m a list. -/
theorem list_of {α : Type} {m : Nat} {Q : Nat → α → Prop} (h : ∀ i, i < m → ∃ a, Q i a) : ∃ l : List α, l.length = m ∧ ∀ (i : Nat) (a : α), l[i]? = some a → Q i a := by
  induction m with
  | zero => exact ⟨[], rfl, fun i a h => by simp at h⟩
  | succ m ih =>
    obtain ⟨l, hl, hq⟩ := ih (fun i hi => h i (by omega))
    obtain ⟨a, ha⟩ := h m (by omega)
    refine ⟨l ++ [a], by simp [hl], fun i b hb => ?_⟩
    by_cases e : i < l.length
    · rw [List.getElem?_append_left e] at hb; exact hq i b hb
    · rw [List.getElem?_append_right (by omega)] at hb
      have : i - l.length = 0 := by
        have := (List.getElem?_eq_some_iff.1 hb).1; simp at this; omega
      rw [this] at hb
      simp at hb
      subst hb
      have : i = m := by omega
      subst this
      exact ha
section
variable {H : Type} {enc : TypeId × Value → H} {W : World}
theorem block_first {W : World} {a : Addr} {m k : Nat} {v : Value} (h : W.cell? (a.add (m * k)) = some v) : a.block < W.heap.size := by have := lt_of_cell h; rwa [block_of_add] at this
set_option maxRecDepth 100000 in
theorem fds_cells {fuel : Nat} {cs : List Value} {x : DataW H × List MemPlace} (hf : DataW.trod enc Tryd.prog W 0 (fun _ => true) true fuel 42 cs = some x) : ∃ A n c fs, cs = [.slice A n c] ∧ Fds W W.heap.size A n fs ∧ n ≤ c := by
  rcases Go.Deep.open_slice Tryd.underlying42 hf with ⟨hcs, _⟩ | ⟨a, len, cap, m, n, D, Pl, hcs, _, hl, hm, hmm, _, hi⟩
  · exact ⟨none, 0, 0, [], hcs, Fds.none_, Nat.le_refl _⟩
  · simp only [if_true] at hmm
    subst hmm
    rw [cells_rf] at hi
    obtain ⟨fs, hfs, hq⟩ := list_of (α := Fd) (m := len) (Q := fun j f => ∀ (i : Nat) (u : Value), (fcs f)[i]? = some u → W.cell? (a.add (j * 2 + i)) = some u) (fun j hj => by
      obtain ⟨cs', hc, ht'⟩ := hi j (by omega)
      obtain ⟨k, f, rfl⟩ := field_cells ht'
      obtain ⟨_, _, hat⟩ := World.cells?_some hc
      refine ⟨⟨k, f⟩, fun i u hu => ?_⟩
      have hi2 : i < 2 := (List.getElem?_eq_some_iff.1 hu).1
      have e := hat i (by omega)
      rw [add_of_add] at e
      rw [e]
      exact hu)
    refine ⟨_, _, _, fs, hcs, ⟨by simpa using hfs, by omega, by simp [fcs], fun hn => ⟨a, rfl, ?_, fun j i c u hj hi => ?_⟩⟩, hl⟩
    · have hp0 : fs[0]? = some (fs[0]'(by omega)) := List.getElem?_eq_getElem (by omega)
      have := lt_of_cell (hq 0 _ hp0 0 _ rfl)
      rwa [block_of_add] at this
    · rw [List.getElem?_map] at hj
      rcases hf : fs[j]? with _ | f
      · rw [hf] at hj; cases hj
      · rw [hf] at hj
        simp only [Option.map_some, Option.some.injEq] at hj
        subst hj
        exact hq j f hf i u hi
set_option maxRecDepth 100000 in
theorem vls_cells {fuel : Nat} {cs : List Value} {x : DataW H × List MemPlace} (hf : DataW.trod enc Tryd.prog W 0 (fun _ => true) true fuel 43 cs = some x) : ∃ A n c vs, cs = [.slice A n c] ∧ Vls W W.heap.size A n vs ∧ n ≤ c ∧ ∀ v ∈ vs, VB v := by
  rcases Go.Deep.open_slice Tryd.underlying43 hf with ⟨hcs, _⟩ | ⟨a, len, cap, m, n, D, Pl, hcs, _, hl, hm, hmm, _, hi⟩
  · exact ⟨none, 0, 0, [], hcs, Vls.none_, Nat.le_refl _, by simp⟩
  · simp only [if_true] at hmm
    subst hmm
    rw [cells_rv] at hi
    obtain ⟨ps, hps, hq⟩ := list_of (α := List Value × Vl) (m := len) (Q := fun j p => p.1.length = 4 ∧ VIs W W.heap.size p.1 p.2 ∧ VB p.2 ∧ ∀ (i : Nat) (u : Value), p.1[i]? = some u → W.cell? (a.add (j * 4 + i)) = some u) (fun j hj => by
      obtain ⟨cs', hc, ht'⟩ := hi j (by omega)
      obtain ⟨u, i, A, n', c, t, l, rfl, hu, hi', hb, hnc⟩ := value_cells ht'
      obtain ⟨_, _, hat⟩ := World.cells?_some hc
      refine ⟨([.int .u64 (u : Int), .int .i64 i, .slice A n' c, .bool t], ⟨u, i, l, t⟩), rfl, ⟨A, n', c, rfl, hb, hnc⟩, ⟨hu, hi'⟩, fun i u hu => ?_⟩
      have hi2 : i < 4 := (List.getElem?_eq_some_iff.1 hu).1
      have e := hat i (by omega)
      rw [add_of_add] at e
      rw [e]
      exact hu)
    have hmem : ∀ p ∈ ps, p.1.length = 4 ∧ VIs W W.heap.size p.1 p.2 ∧ VB p.2 := fun p hp => by
      obtain ⟨i, hi, e⟩ := List.mem_iff_getElem.1 hp
      have := hq i p (by rw [List.getElem?_eq_getElem hi, e])
      exact ⟨this.1, this.2.1, this.2.2.1⟩
    refine ⟨_, _, _, ps.map (·.2), hcs, ⟨ps.map (·.1), ⟨by simpa using hps, by omega, fun c hc => ?_, fun hn => ⟨a, rfl, ?_, fun j i c u hj hi => ?_⟩⟩, by simp, fun j c v hc hv => ?_⟩, hl, fun v hv => ?_⟩
    · obtain ⟨p, hp, rfl⟩ := List.mem_map.1 hc
      exact (hmem p hp).1
    · have hp0 : ps[0]? = some (ps[0]'(by omega)) := List.getElem?_eq_getElem (by omega)
      obtain ⟨q1, ⟨A, n', c', e, _⟩, _, q4⟩ := hq 0 _ hp0
      have := lt_of_cell (q4 0 _ (by rw [e]; rfl))
      rwa [block_of_add] at this
    · rw [List.getElem?_map] at hj
      rcases hf : ps[j]? with _ | p
      · rw [hf] at hj; cases hj
      · rw [hf] at hj
        simp only [Option.map_some, Option.some.injEq] at hj
        subst hj
        exact (hq j p hf).2.2.2 i u hi
    · rw [List.getElem?_map] at hc hv
      rcases hf : ps[j]? with _ | p
      · rw [hf] at hc; cases hc
      · rw [hf] at hc hv
        simp only [Option.map_some, Option.some.injEq] at hc hv
        subst hc hv
        exact (hq j p hf).2.1
    · obtain ⟨p, hp, rfl⟩ := List.mem_map.1 hv
      exact (hmem p hp).2.2
set_option maxRecDepth 100000 in
theorem open_fds {base : Nat} {v : Value} {d : DataW H} {p : List MemPlace}
    (hok : Value.okWide Tryd.prog W .any base 42 v) (h : DataW.Trod enc Tryd.prog W 0 (fun _ => true) true 42 v d p) : ∃ A n c fs, v = .slice A n c ∧ Fds W W.heap.size A n fs ∧ n ≤ c := by
  obtain ⟨a0, len0, cap0, rfl⟩ := okWide_slice Tryd.underlying42 hok
  obtain ⟨fuel, hf⟩ := h
  obtain ⟨A, n, c, fs, hcs, r⟩ := fds_cells hf
  simp [Value.cells] at hcs
  obtain ⟨rfl, rfl, rfl⟩ := hcs
  exact ⟨_, _, _, fs, rfl, r⟩
set_option maxRecDepth 100000 in
theorem open_vls {base : Nat} {v : Value} {d : DataW H} {p : List MemPlace}
    (hok : Value.okWide Tryd.prog W .any base 43 v) (h : DataW.Trod enc Tryd.prog W 0 (fun _ => true) true 43 v d p) : ∃ A n c vs, v = .slice A n c ∧ Vls W W.heap.size A n vs ∧ n ≤ c ∧ ∀ v ∈ vs, VB v := by
  obtain ⟨a0, len0, cap0, rfl⟩ := okWide_slice Tryd.underlying43 hok
  obtain ⟨fuel, hf⟩ := h
  obtain ⟨A, n, c, vs, hcs, r⟩ := vls_cells hf
  simp [Value.cells] at hcs
  obtain ⟨rfl, rfl, rfl⟩ := hcs
  exact ⟨_, _, _, vs, rfl, r⟩
end
end Go.Proofs.YtofccfbiappgaaaDoor
