/-
  From the row's condition on the two tables to their cells; how arguments are read: slices of fields, of values, and two of those.
-/
import Derived.Test.YtdpddkpfllioiaaDoorIencTab
import Derived.Test.YtdpddkpfllioiaaDoorFieldRow
import Derived.Test.YtdpddkpfllioiaaDoorTupleFar
import Derived.Stop.LaidErr
import Derived.Deep.Slices
namespace Go.Proofs.YtdpddkpfllioiaaDoor
open Go.ChangeShapes Go.WideShapes Go.ChangeAt Go.RowKit

theorem Tabs.tab {w : World} (h : Tabs w) : Tab w := h.1
theorem Tabs.nam {w : World} (h : Tabs w) : Nam w := h.2
theorem gNames : Tryd.prog.globalNamed "spunyarn/tuple.names" = some 0 := by kernel_rfl
theorem tNames : (Tryd.prog.globals[0]?).map (·.type) = some 73 := by kernel_rfl
theorem cells_str : Tryd.prog.cellsOf 9 = 1 := by kernel_rfl
theorem cells_strs : Tryd.prog.cellsOf 73 = 11 := by kernel_rfl
abbrev laid2 : List (String × DataW Unit) := [("spunyarn/ienc.widths", Rows.laid_spunyarn_ienc_widths), ("spunyarn/tuple.names", Rows.laid_spunyarn_tuple_names)]
set_option maxRecDepth 100000 in
theorem str_cell {H : Type} {enc : TypeId × Value → H} {w : World} {base : Nat} {spare : Nat → Bool} {held : Bool} {fuel : Nat} {c : Value} {l : List UInt8} {x : DataW H × List MemPlace}
    (h : DataW.trod enc Tryd.prog w base spare held fuel 9 [c] = some x) (hx : x.1 = .lit (.string l)) : c = sv l := by
  obtain ⟨s, hc, rfl, _⟩ := DataW.trod_string Tryd.underlying9 h
  simp only [List.cons.injEq, and_true] at hc
  simp only [DataW.lit.injEq, Lit.string.injEq] at hx
  rw [hc, ← hx, sv, bst_of]
set_option maxRecDepth 100000 in
theorem of_laid2 {W : World} (h : laidMetH Tryd.prog laid2 W) : Tabs W := by
  rw [MakeChecks.laidMetH_plain _ _ _ (by kernel_rfl)] at h
  refine ⟨?_, ?_⟩
  · refine of_laid ?_
    rw [MakeChecks.laidMetH_plain _ _ _ (by kernel_rfl)]
    obtain ⟨ps, ⟨g0, t0, cs0, f0, p0, q0, hg0, ht0, hv0, hd0, hr, hp⟩, hnd, hk⟩ := h
    have hsub : (MemPlace.row ⟨g0, 0, none⟩ cs0.size ++ p0).Sublist ps := by
      rw [hp]
      first
        | exact List.sublist_append_left _ _
        | (rw [← List.append_assoc]; exact List.sublist_append_left _ _)
    refine ⟨MemPlace.row ⟨g0, 0, none⟩ cs0.size ++ p0, ⟨g0, t0, cs0, f0, p0, [], hg0, ht0, hv0, hd0, rfl, by simp⟩, hnd.sublist hsub, ?_⟩
    intro b off hb
    exact hk b off (hsub.subset hb)
  · obtain ⟨ps, ⟨g0, t0, cs0, f0, p0, q0, hg0, ht0, hv0, hd0, _, _⟩, _, _⟩ := laidMet.tail h
    obtain rfl := Option.some.inj (gNames.symm.trans hg0)
    obtain rfl := Option.some.inj (tNames.symm.trans ht0)
    have hc := World.var?_cell hg0 hv0
    obtain ⟨xs, m, _, hx, hlen, hsz, hel⟩ := DataW.trod_array Tryd.underlying73 hd0
    obtain ⟨cs⟩ := cs0
    rw [cells_strs] at hlen
    match cs, hlen, xs, hsz with
    | [c0, c1, c2, c3, c4, c5, c6, c7, c8, c9, c10], _, [y0, y1, y2, y3, y4, y5, y6, y7, y8, y9, y10], _ =>
      simp only [Prod.mk.injEq, Rows.laid_spunyarn_tuple_names, DataW.agg.injEq, List.map_cons, List.map_nil, List.cons.injEq, and_true] at hx
      obtain ⟨⟨k0, k1, k2, k3, k4, k5, k6, k7, k8, k9, k10⟩, _⟩ := hx
      have r0 := str_cell (show DataW.trod _ Tryd.prog W 0 _ false m 9 [c0] = some y0 from hel 0 (by decide)) k0.symm
      have r1 := str_cell (show DataW.trod _ Tryd.prog W 0 _ false m 9 [c1] = some y1 from hel 1 (by decide)) k1.symm
      have r2 := str_cell (show DataW.trod _ Tryd.prog W 0 _ false m 9 [c2] = some y2 from hel 2 (by decide)) k2.symm
      have r3 := str_cell (show DataW.trod _ Tryd.prog W 0 _ false m 9 [c3] = some y3 from hel 3 (by decide)) k3.symm
      have r4 := str_cell (show DataW.trod _ Tryd.prog W 0 _ false m 9 [c4] = some y4 from hel 4 (by decide)) k4.symm
      have r5 := str_cell (show DataW.trod _ Tryd.prog W 0 _ false m 9 [c5] = some y5 from hel 5 (by decide)) k5.symm
      have r6 := str_cell (show DataW.trod _ Tryd.prog W 0 _ false m 9 [c6] = some y6 from hel 6 (by decide)) k6.symm
      have r7 := str_cell (show DataW.trod _ Tryd.prog W 0 _ false m 9 [c7] = some y7 from hel 7 (by decide)) k7.symm
      have r8 := str_cell (show DataW.trod _ Tryd.prog W 0 _ false m 9 [c8] = some y8 from hel 8 (by decide)) k8.symm
      have r9 := str_cell (show DataW.trod _ Tryd.prog W 0 _ false m 9 [c9] = some y9 from hel 9 (by decide)) k9.symm
      have r10 := str_cell (show DataW.trod _ Tryd.prog W 0 _ false m 9 [c10] = some y10 from hel 10 (by decide)) k10.symm
      subst r0 r1 r2 r3 r4 r5 r6 r7 r8 r9 r10
      refine ⟨lt_of_cell (a := ⟨0, 0, none⟩) (hc 0), fun i hi => ?_⟩
      rcases (by omega : i = 0 ∨ i = 1 ∨ i = 2 ∨ i = 3 ∨ i = 4 ∨ i = 5 ∨ i = 6 ∨ i = 7 ∨ i = 8 ∨ i = 9 ∨ i = 10) with rfl | rfl | rfl | rfl | rfl | rfl | rfl | rfl | rfl | rfl | rfl
      · exact hc 0
      · exact hc 1
      · exact hc 2
      · exact hc 3
      · exact hc 4
      · exact hc 5
      · exact hc 6
      · exact hc 7
      · exact hc 8
      · exact hc 9
      · exact hc 10
/-- The door's own heap meets the condition. -/
theorem door_met2 (os : Os) (args : Array Value) : laidMetH Tryd.prog laid2 ((World.doorLaid Tryd.prog 400 os).forCall (fun _ _ => 0) ⟨#[], args, []⟩).memory :=
  laidMetH_of_parts3 (fuel := 13) (laidMet_of_run' 13 (by kernel_rfl) (by kernel_rfl)) (by kernel_rfl) (by kernel_rfl)

/-- Of something for each place below m a list. -/
theorem list_of {α : Type} {m : Nat} {Q : Nat → α → Prop} (h : ∀ i, i < m → ∃ a, Q i a) : ∃ l : List α, l.length = m ∧ ∀ (i : Nat) (a : α), l[i]? = some a → Q i a := by
  induction m with
  | zero => exact ⟨[], rfl, fun i a h => by simp at h⟩
  | succ m ih =>
    obtain ⟨l, hl, hq⟩ := ih (fun i hi => h i (by omega))
    obtain ⟨a, ha⟩ := h m (by omega)
    refine ⟨l ++ [a], by simp [hl], fun i b hb => ?_⟩
    by_cases e : i < l.length
    · rw [List.getElem?_append_left e] at hb; exact hq i b hb
    · rw [List.getElem?_append_right (by omega)] at hb
      have : i - l.length = 0 := by
        have := (List.getElem?_eq_some_iff.1 hb).1; simp at this; omega
      rw [this] at hb
      simp at hb
      subst hb
      have : i = m := by omega
      subst this
      exact ha
section
variable {H : Type} {enc : TypeId × Value → H} {W : World}
theorem block_first {W : World} {a : Addr} {m k : Nat} {v : Value} (h : W.cell? (a.add (m * k)) = some v) : a.block < W.heap.size := by have := lt_of_cell h; rwa [block_of_add] at this
set_option maxRecDepth 100000 in
theorem fds_cells {fuel : Nat} {cs : List Value} {x : DataW H × List MemPlace} (hf : DataW.trod enc Tryd.prog W 0 (fun _ => true) true fuel 22 cs = some x) : ∃ A n c fs, cs = [.slice A n c] ∧ Fds W W.heap.size A n fs ∧ n ≤ c := by
  rcases Go.Deep.open_slice Tryd.underlying22 hf with ⟨hcs, _⟩ | ⟨a, len, cap, m, n, D, Pl, hcs, _, hl, hm, hmm, _, hi⟩
  · exact ⟨none, 0, 0, [], hcs, Fds.none_, Nat.le_refl _⟩
  · simp only [if_true] at hmm
    subst hmm
    rw [cells_rf] at hi
    obtain ⟨fs, hfs, hq⟩ := list_of (α := Fd) (m := len) (Q := fun j f => ∀ (i : Nat) (u : Value), (fcs f)[i]? = some u → W.cell? (a.add (j * 2 + i)) = some u) (fun j hj => by
      obtain ⟨cs', hc, ht'⟩ := hi j (by omega)
      obtain ⟨k, f, rfl⟩ := field_cells ht'
      obtain ⟨_, _, hat⟩ := World.cells?_some hc
      refine ⟨⟨k, f⟩, fun i u hu => ?_⟩
      have hi2 : i < 2 := (List.getElem?_eq_some_iff.1 hu).1
      have e := hat i (by omega)
      rw [add_of_add] at e
      rw [e]
      exact hu)
    refine ⟨_, _, _, fs, hcs, ⟨by simpa using hfs, by omega, by simp [fcs], fun hn => ⟨a, rfl, ?_, fun j i c u hj hi => ?_⟩⟩, hl⟩
    · have hp0 : fs[0]? = some (fs[0]'(by omega)) := List.getElem?_eq_getElem (by omega)
      have := lt_of_cell (hq 0 _ hp0 0 _ rfl)
      rwa [block_of_add] at this
    · rw [List.getElem?_map] at hj
      rcases hf : fs[j]? with _ | f
      · rw [hf] at hj; cases hj
      · rw [hf] at hj
        simp only [Option.map_some, Option.some.injEq] at hj
        subst hj
        exact hq j f hf i u hi
set_option maxRecDepth 100000 in
theorem vls_cells {fuel : Nat} {cs : List Value} {x : DataW H × List MemPlace} (hf : DataW.trod enc Tryd.prog W 0 (fun _ => true) true fuel 23 cs = some x) : ∃ A n c vs, cs = [.slice A n c] ∧ Vls W W.heap.size A n vs ∧ n ≤ c ∧ ∀ v ∈ vs, VB v := by
  rcases Go.Deep.open_slice Tryd.underlying23 hf with ⟨hcs, _⟩ | ⟨a, len, cap, m, n, D, Pl, hcs, _, hl, hm, hmm, _, hi⟩
  · exact ⟨none, 0, 0, [], hcs, Vls.none_, Nat.le_refl _, by simp⟩
  · simp only [if_true] at hmm
    subst hmm
    rw [cells_rv] at hi
    obtain ⟨ps, hps, hq⟩ := list_of (α := List Value × Vl) (m := len) (Q := fun j p => p.1.length = 4 ∧ VIs W W.heap.size p.1 p.2 ∧ VB p.2 ∧ ∀ (i : Nat) (u : Value), p.1[i]? = some u → W.cell? (a.add (j * 4 + i)) = some u) (fun j hj => by
      obtain ⟨cs', hc, ht'⟩ := hi j (by omega)
      obtain ⟨u, i, A, n', c, t, l, rfl, hu, hi', hb, hnc⟩ := value_cells ht'
      obtain ⟨_, _, hat⟩ := World.cells?_some hc
      refine ⟨([.int .u64 (u : Int), .int .i64 i, .slice A n' c, .bool t], ⟨u, i, l, t⟩), rfl, ⟨A, n', c, rfl, hb, hnc⟩, ⟨hu, hi'⟩, fun i u hu => ?_⟩
      have hi2 : i < 4 := (List.getElem?_eq_some_iff.1 hu).1
      have e := hat i (by omega)
      rw [add_of_add] at e
      rw [e]
      exact hu)
    have hmem : ∀ p ∈ ps, p.1.length = 4 ∧ VIs W W.heap.size p.1 p.2 ∧ VB p.2 := fun p hp => by
      obtain ⟨i, hi, e⟩ := List.mem_iff_getElem.1 hp
      have := hq i p (by rw [List.getElem?_eq_getElem hi, e])
      exact ⟨this.1, this.2.1, this.2.2.1⟩
    refine ⟨_, _, _, ps.map (·.2), hcs, ⟨ps.map (·.1), ⟨by simpa using hps, by omega, fun c hc => ?_, fun hn => ⟨a, rfl, ?_, fun j i c u hj hi => ?_⟩⟩, by simp, fun j c v hc hv => ?_⟩, hl, fun v hv => ?_⟩
    · obtain ⟨p, hp, rfl⟩ := List.mem_map.1 hc
      exact (hmem p hp).1
    · have hp0 : ps[0]? = some (ps[0]'(by omega)) := List.getElem?_eq_getElem (by omega)
      obtain ⟨q1, ⟨A, n', c', e, _⟩, _, q4⟩ := hq 0 _ hp0
      have := lt_of_cell (q4 0 _ (by rw [e]; rfl))
      rwa [block_of_add] at this
    · rw [List.getElem?_map] at hj
      rcases hf : ps[j]? with _ | p
      · rw [hf] at hj; cases hj
      · rw [hf] at hj
        simp only [Option.map_some, Option.some.injEq] at hj
        subst hj
        exact (hq j p hf).2.2.2 i u hi
    · rw [List.getElem?_map] at hc hv
      rcases hf : ps[j]? with _ | p
      · rw [hf] at hc; cases hc
      · rw [hf] at hc hv
        simp only [Option.map_some, Option.some.injEq] at hc hv
        subst hc hv
        exact (hq j p hf).2.1
    · obtain ⟨p, hp, rfl⟩ := List.mem_map.1 hv
      exact (hmem p hp).2.2
set_option maxRecDepth 100000 in
theorem open_fds {base : Nat} {v : Value} {d : DataW H} {p : List MemPlace}
    (hok : Value.okWide Tryd.prog W .any base 22 v) (h : DataW.Trod enc Tryd.prog W 0 (fun _ => true) true 22 v d p) : ∃ A n c fs, v = .slice A n c ∧ Fds W W.heap.size A n fs ∧ n ≤ c := by
  obtain ⟨a0, len0, cap0, rfl⟩ := okWide_slice Tryd.underlying22 hok
  obtain ⟨fuel, hf⟩ := h
  obtain ⟨A, n, c, fs, hcs, r⟩ := fds_cells hf
  simp [Value.cells] at hcs
  obtain ⟨rfl, rfl, rfl⟩ := hcs
  exact ⟨_, _, _, fs, rfl, r⟩
set_option maxRecDepth 100000 in
theorem open_vls {base : Nat} {v : Value} {d : DataW H} {p : List MemPlace}
    (hok : Value.okWide Tryd.prog W .any base 23 v) (h : DataW.Trod enc Tryd.prog W 0 (fun _ => true) true 23 v d p) : ∃ A n c vs, v = .slice A n c ∧ Vls W W.heap.size A n vs ∧ n ≤ c ∧ ∀ v ∈ vs, VB v := by
  obtain ⟨a0, len0, cap0, rfl⟩ := okWide_slice Tryd.underlying23 hok
  obtain ⟨fuel, hf⟩ := h
  obtain ⟨A, n, c, vs, hcs, r⟩ := vls_cells hf
  simp [Value.cells] at hcs
  obtain ⟨rfl, rfl, rfl⟩ := hcs
  exact ⟨_, _, _, vs, rfl, r⟩
end
end Go.Proofs.YtdpddkpfllioiaaDoor
