/-
  Proved here: any two tuples' order by any schema, as tuple.Cmp tells it, is the document's; if they may be, their bytes, as tuple.Put tells them, are in that order, none are the beginning of others; what is put is taken by tuple.Get, and what is taken is put as the same; nothing that came in is turned. The one condition is the card's own: the tables of the widths and of the kinds' names lie as the program's text lays them (tied).
-/
import Derived.Test.YtdpddkpfllioiaaDoorTupleOrderW
import Derived.Test.YtdpddkpfllioiaaDoorTie
import Derived.Test.YtdpddkpfllioiaaDoorCards
import Derived.SevenTiedAt
namespace Go.Proofs.YtdpddkpfllioiaaDoor.tupleOrder
open Go.ChangeShapes Go.WideShapes Go.ChangeAt Go.RowKit

theorem cells_rvl : Tryd.prog.cellsOf 23 = 1 := by kernel_rfl
theorem cells_two : Tryd.prog.cellsOf 60 = 2 := by kernel_rfl
set_option maxRecDepth 100000 in
theorem open_two {H : Type} {enc : TypeId × Value → H} {W : World} {base : Nat} {v : Value} {d : DataW H} {p : List MemPlace}
    (hok : Value.okWide Tryd.prog W .any base 60 v) (h : DataW.Trod enc Tryd.prog W 0 (fun _ => true) true 60 v d p) :
    ∃ A n c vs A' n' c' vs', v = .agg #[.slice A n c, .slice A' n' c'] ∧ (Vls W W.heap.size A n vs ∧ n ≤ c ∧ ∀ v ∈ vs, VB v) ∧ (Vls W W.heap.size A' n' vs' ∧ n' ≤ c' ∧ ∀ v ∈ vs', VB v) := by
  obtain ⟨cs, rfl, hsz⟩ := okWide_arr Tryd.underlying60 hok
  rw [cells_two] at hsz
  obtain ⟨cs⟩ := cs
  match cs, hsz with
  | [c0, c1], _ =>
    obtain ⟨fuel, hf⟩ := h
    have hf' : DataW.trod enc Tryd.prog W 0 (fun _ => true) true fuel 60 [c0, c1] = some (d, p) := by simpa [Value.cells] using hf
    obtain ⟨xs, m, _, _, _, hxl, hel⟩ := DataW.trod_array Tryd.underlying60 hf'
    match xs, hxl with
    | [y0, y1], _ =>
      obtain ⟨A, n, c, vs, e, r⟩ := vls_cells (show DataW.trod enc Tryd.prog W 0 (fun _ => true) true m 23 [c0] = some y0 from hel 0 (by decide))
      obtain ⟨A', n', c', vs', e', r'⟩ := vls_cells (show DataW.trod enc Tryd.prog W 0 (fun _ => true) true m 23 [c1] = some y1 from hel 1 (by decide))
      simp only [List.cons.injEq, and_true] at e e'
      subst e e'
      exact ⟨A, n, c, vs, A', n', c', vs', rfl, r, r'⟩

theorem walk (A : Option Addr) (n c : Nat) (fs : List Fd) (A1 : Option Addr) (n1 c1 : Nat) (a : List Vl) (A2 : Option Addr) (n2 c2 : Nat) (b : List Vl) (Ab : Option Addr) (m cb : Nat) (raw : List UInt8) (w : World) (hT : Tabs w) (ha : Fds w w.heap.size A n fs) (hac : n ≤ c) (h1 : Vls w w.heap.size A1 n1 a ∧ n1 ≤ c1 ∧ ∀ v ∈ a, VB v) (h2 : Vls w w.heap.size A2 n2 b ∧ n2 ≤ c2 ∧ ∀ v ∈ b, VB v) (hb : Byt w w.heap.size Ab m raw) (hbc : m ≤ cb) :
    Calls Tryd.prog 6 #[.slice A n c, .agg #[.slice A1 n1 c1, .slice A2 n2 c2], .slice Ab m cb] w fun e w' => e = .returned (.bool true) ∧ Below w.heap.size w w' := by
  by_cases hg : getsE fs raw = 0
  · exact walk_yes A n c fs A1 n1 c1 a A2 n2 c2 b Ab m cb raw w hT ha hac h1 h2 hb hbc hg
  · exact walk_no A n c fs A1 n1 c1 a A2 n2 c2 b Ab m cb raw w hT ha hac h1 h2 hb hbc hg

set_option maxRecDepth 100000 in
theorem lifted (os : Os) (started : os.Started) (H : Type) (enc : TypeId × Value → H) :
    ReturnsInHanded {} Tryd.checked os 6 .any (fun w args => (Rows.tupleOrderSpec.pre enc Tryd.prog Tryd.f6 [] false w args ∧ laidMetH Tryd.prog laid2 w) ∧ sizedMet enc Tryd.prog Tryd.f6 (OpenSpec.ofChange Rows.tupleOrderSpec) false w args) (Rows.tupleOrderSpec.post enc Tryd.prog Tryd.f6 false true false false) := by
  refine returnsInHanded_of_change_and (C := Tryd.checked) (X := fun w _ => laidMetH Tryd.prog laid2 w) (fun _ _ _ hh h => h.of_heap hh) own started (by kernel_rfl) Tryd.func6
    (ChangeSpec.witness_shaped (enc := enc) (C := Tryd.checked) (os := os) (X := fun w _ => laidMetH Tryd.prog laid2 w) false (World.doorLaid Tryd.prog 400 os) #[.slice none 0 0, .agg #[.slice none 0 0, .slice none 0 0], .slice none 0 0] 8 rfl (World.shaped_of_RefB (by kernel_rfl) (by kernel_rfl)) (by kernel_rfl) (by kernel_rfl) (by kernel_rfl) (door_met2 os _)) ?_
  intro W base args ds gs before hval0 hW _ _ hL _
  have hval : ∀ (j : Nat) t v, Tryd.f6.params[j]? = some t → args[j]? = some v → Value.okWide Tryd.prog W .any base t v := hval0
  have hW' := hW
  obtain ⟨p, q, hA0, hV, rfl, hfz, hnd⟩ := hW
  have hA : DataW.TrodAll enc Tryd.prog W 0 (fun _ => true) true Tryd.f6.params.toList args.toList ds p := hA0
  rw [Tryd.params6] at hA hval
  obtain ⟨v0, vs0, d0, ds0, p0, q0, hargs, rfl, rfl, h0, r0⟩ := trodAll_cons hA
  obtain ⟨v1, vs1, d1, ds1, p1, q1, rfl, rfl, rfl, h1, r1⟩ := trodAll_cons r0
  obtain ⟨v2, vs2, d2, ds2, p2, q2, rfl, rfl, rfl, h2, r2⟩ := trodAll_cons r1
  obtain ⟨rfl, rfl, rfl⟩ := trodAll_nil r2
  obtain rfl : args = #[v0, v1, v2] := by cases args; simp_all
  obtain ⟨rfl, rfl⟩ := trodVars_none hV
  have k0 := h0
  have lt0 : ∀ x ∈ p0, x.block < W.heap.size := by obtain ⟨m, hm⟩ := k0; exact DataW.trod_lt m _ _ _ hm
  have k1 := h1
  have lt1 : ∀ x ∈ p1, x.block < W.heap.size := by obtain ⟨m, hm⟩ := k1; exact DataW.trod_lt m _ _ _ hm
  have k2 := h2
  have lt2 : ∀ x ∈ p2, x.block < W.heap.size := by obtain ⟨m, hm⟩ := k2; exact DataW.trod_lt m _ _ _ hm
  obtain ⟨A0, n0, c0, l0, rfl, b0, nc0⟩ := open_fds (hval 0 22 v0 rfl rfl) h0
  obtain ⟨A1, n1, c1, l1, Ax1, nx1, cx1, lx1, rfl, b1, bx1⟩ := open_two (hval 1 60 v1 rfl rfl) h1
  obtain ⟨A2, n2, c2, l2, rfl, b2, nc2⟩ := open_byt (hval 2 26 v2 rfl rfl) h2
  clear hA0 hval0
  refine (walk A0 n0 c0 l0 A1 n1 c1 l1 Ax1 nx1 cx1 lx1 A2 n2 c2 l2 W (of_laid2 hL) b0 nc0 b1 bx1 b2 nc2).mono fun e W' ⟨he, bel⟩ => ?_
  subst he
  exact ⟨_, rfl, _, _, _, [], _, [], hW', trodAll_mk1 (shut_bool Tryd.underlying4 _), (trodAll_cons_mk (Below.trod laidOut (by kernel_rfl) (of_decide_eq_true (by kernel_rfl)) k0 bel lt0) (trodAll_cons_mk (Below.trod laidOut (by kernel_rfl) (of_decide_eq_true (by kernel_rfl)) k1 bel lt1) (trodAll_cons_mk (Below.trod laidOut (by kernel_rfl) (of_decide_eq_true (by kernel_rfl)) k2 bel lt2) trodAll_mk0))), rfl, bel.frame _, fun h => by cases h⟩

theorem proved : Rows.TupleOrderSaid :=
  OpenClaim.holds_of_wide 6 Tryd.f6 rfl rfl rfl rfl rfl rfl rfl ⟨rfl, rfl, rfl, rfl, rfl⟩ rfl rfl rfl rfl rfl (by kernel_rfl) Tryd.func6 (by kernel_rfl)
    (of_decide_eq_true (by kernel_rfl)) (by unfold Func.isWrapper; first | (rw [if_pos (by decide +kernel)]; kernel_rfl) | (rw [if_neg (by decide +kernel)]; exact ⟨rfl, rfl⟩))
    (fun os started H enc _ => lifted os started H enc)
#print axioms proved

theorem card_holds : Rows.TupleOrderCardSaid :=
  Claim7.holds_tied_plain_at .later [] [.data, .data] true _ false
    proved (fun _ h => by cases h) (by kernel_rfl) (fun _ h => by cases h) tupleOrder_row_tie rfl ⟨rfl, rfl⟩ (by kernel_rfl) rfl
    (fun f fn hf hfn => by
      obtain rfl : f = 6 := Option.some.inj ((show Tryd.prog.funcNamed "spunyarn/spunyarnlaw06.TupleOrder" = some 6 by kernel_rfl).symm.trans hf) |>.symm
      obtain rfl : fn = Tryd.f6 := (Option.some.inj (Tryd.func6.symm.trans hfn)).symm
      exact ⟨by kernel_rfl, fun j t ht => by
        rw [Tryd.params6] at ht
        have hm : t ∈ [22, 60, 26] := by simpa using Array.mem_of_getElem? ht
        have hall : ([22, 60, 26].all fun u => !Tryd.prog.wantsStandIn u) = true := by kernel_rfl
        exact (show Tryd.prog.wantsStandIn t = false by simpa using List.all_eq_true.1 hall t hm)⟩)
    (by kernel_rfl)
#print axioms card_holds
end Go.Proofs.YtdpddkpfllioiaaDoor.tupleOrder
