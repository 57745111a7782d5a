/-
  From the row's condition on the table of the widths to its twelve cells.
-/
import Derived.Test.YtdpddkpfllioiaaDoorRow
import Derived.Test.YtdpddkpfllioiaaDoorIencBool
import Derived.LaidMore
import Derived.Stop.Joined
namespace Go.Proofs.YtdpddkpfllioiaaDoor
open Go.ChangeShapes Go.WideShapes Go.ChangeAt Go.RowKit

theorem gWidths : Tryd.prog.globalNamed "spunyarn/ienc.widths" = some 2 := by kernel_rfl
theorem tWidths : (Tryd.prog.globals[2]?).map (·.type) = some 158 := by kernel_rfl
theorem cells_int : Tryd.prog.cellsOf 3 = 1 := by kernel_rfl
theorem cells_i64 : Tryd.prog.cellsOf 2 = 1 := by kernel_rfl
theorem cells_num : Tryd.prog.cellsOf 126 = 3 := by kernel_rfl
theorem cells_nums : Tryd.prog.cellsOf 158 = 12 := by kernel_rfl

set_option maxRecDepth 100000 in
theorem num_cells {H : Type} {enc : TypeId × Value → H} {w : World} {base : Nat} {spare : Nat → Bool} {held : Bool} {fuel : Nat} {cs : List Value} {a b c : Int} {x : DataW H × List MemPlace}
    (h : DataW.trod enc Tryd.prog w base spare held fuel 126 cs = some x) (hx' : x.1 = .agg [.lit (.int .i64 a), .lit (.int .i64 b), .lit (.int .i64 c)]) : cs = [.int .i64 a, .int .i64 b, .int .i64 c] := by
  obtain ⟨xs, n, _, hx, hlen, hsz, hg⟩ := DataW.trod_struct Tryd.underlying126 h
  rw [cells_num] at hlen
  match cs, hlen, xs, hsz with
  | [c0, c1, c2], _, [y0, y1, y2], _ =>
    have g0 : DataW.trod enc Tryd.prog w base spare held n 3 (([c0, c1, c2].drop 0).take (Tryd.prog.cellsOf 3)) = some y0 := hg 0 _ rfl
    have g1 : DataW.trod enc Tryd.prog w base spare held n 2 (([c0, c1, c2].drop 1).take (Tryd.prog.cellsOf 2)) = some y1 := hg 1 _ rfl
    have g2 : DataW.trod enc Tryd.prog w base spare held n 2 (([c0, c1, c2].drop 2).take (Tryd.prog.cellsOf 2)) = some y2 := hg 2 _ rfl
    rw [cells_int] at g0
    rw [cells_i64] at g1 g2
    obtain ⟨n0, e0, f0, _⟩ := DataW.trod_int Tryd.underlying3 g0
    obtain ⟨n1, e1, f1, _⟩ := DataW.trod_int Tryd.underlying2 g1
    obtain ⟨n2, e2, f2, _⟩ := DataW.trod_int Tryd.underlying2 g2
    subst hx f0 f1 f2
    simp only [List.map_cons, List.map_nil, DataW.agg.injEq, List.cons.injEq, DataW.lit.injEq, Lit.int.injEq, true_and, and_true] at hx'
    obtain ⟨rfl, rfl, rfl⟩ := hx'
    have e0' : c0 = .int .i64 n0 := by simpa using e0
    have e1' : c1 = .int .i64 n1 := by simpa using e1
    have e2' : c2 = .int .i64 n2 := by simpa using e2
    rw [e0', e1', e2']

set_option maxRecDepth 100000 in
theorem of_laid {W : World} (h : laidMetH Tryd.prog [("spunyarn/ienc.widths", Rows.laid_spunyarn_ienc_widths)] W) : Tab W := by
  rw [MakeChecks.laidMetH_plain _ _ _ (by kernel_rfl)] at h
  obtain ⟨ps, ⟨g0, t0, cs0, f0, p0, q0, hg0, ht0, hv0, hd0, _, _⟩, _, _⟩ := h
  obtain rfl := Option.some.inj (gWidths.symm.trans hg0)
  obtain rfl := Option.some.inj (tWidths.symm.trans ht0)
  have hc := World.var?_cell hg0 hv0
  obtain ⟨xs, m, _, hx, hlen, hsz, hel⟩ := DataW.trod_array Tryd.underlying158 hd0
  obtain ⟨cs⟩ := cs0
  rw [cells_nums] at hlen
  match cs, hlen, xs, hsz with
  | [c0, c1, c2, c3, c4, c5, c6, c7, c8, c9, c10, c11], _, [y0, y1, y2, y3], _ =>
    simp only [Prod.mk.injEq, Rows.laid_spunyarn_ienc_widths, DataW.agg.injEq, List.map_cons, List.map_nil, List.cons.injEq, and_true] at hx
    obtain ⟨⟨k0, k1, k2, k3⟩, _⟩ := hx
    have r0 := num_cells (show DataW.trod _ Tryd.prog W 0 _ false m 126 [c0, c1, c2] = some y0 from hel 0 (by decide)) k0.symm
    have r1 := num_cells (show DataW.trod _ Tryd.prog W 0 _ false m 126 [c3, c4, c5] = some y1 from hel 1 (by decide)) k1.symm
    have r2 := num_cells (show DataW.trod _ Tryd.prog W 0 _ false m 126 [c6, c7, c8] = some y2 from hel 2 (by decide)) k2.symm
    have r3 := num_cells (show DataW.trod _ Tryd.prog W 0 _ false m 126 [c9, c10, c11] = some y3 from hel 3 (by decide)) k3.symm
    simp only [List.cons.injEq, and_true] at r0 r1 r2 r3
    obtain ⟨rfl, rfl, rfl⟩ := r0
    obtain ⟨rfl, rfl, rfl⟩ := r1
    obtain ⟨rfl, rfl, rfl⟩ := r2
    obtain ⟨rfl, rfl, rfl⟩ := r3
    exact ⟨lt_of_cell (a := ⟨2, 0, none⟩) (hc 0), hc 0, hc 1, hc 2, hc 3, hc 4, hc 5, hc 6, hc 7, hc 8, hc 9, hc 10, hc 11⟩

/-- The door's own heap meets the condition. -/
theorem door_met (os : Os) (args : Array Value) : laidMetH Tryd.prog [("spunyarn/ienc.widths", Rows.laid_spunyarn_ienc_widths)] ((World.doorLaid Tryd.prog 400 os).forCall (fun _ _ => 0) ⟨#[], args, []⟩).memory :=
  laidMetH_of_parts3 (fuel := 8) (laidMet_of_run' 8 (by kernel_rfl) (by kernel_rfl)) (by kernel_rfl) (by kernel_rfl)
end Go.Proofs.YtdpddkpfllioiaaDoor
