/-
  A node that was made is taken in: behind the others, with the document's.
-/
import Derived.Test.YtgelmhldicmmdaaGreatWdAs
namespace Go.Proofs.YtgelmhldicmmdaaGreat
open Go.RowKit

theorem fold_spl (l : List Value) (o : Nat) (a : Array Value) (h : o + l.length ≤ a.size) : ((l.zipIdx o).foldl (fun (cs : Array Value) (p : Value × Nat) => cs.setIfInBounds (0 + p.2) p.1) a).toList = spl a.toList o l := by
  induction l generalizing o a with
  | nil => simp [spl_nil]
  | cons v r ih =>
    rw [List.zipIdx_cons, List.foldl_cons, ih (o + 1) _ (by simp only [Array.size_setIfInBounds, List.length_cons] at h ⊢; omega), Nat.zero_add, Array.toList_setIfInBounds]
    exact spl_cons (by simp only [List.length_cons] at h; simp only [Array.length_toList]; omega)
/-- A slice of one great struct. -/
theorem run_build_one {P : Program} {t e : TypeId} {k : Nat} (ht : P.underlying t = some (.slice e)) (z : Array Value) (hk : 0 < k ∧ k ≤ 16777216) (hi : (P.info? e).map (fun i => (i.zero, i.size)) = some (some (.agg z), k)) (hz : z.size = k) (cells : Array Value) (hc : cells.size = k) (w : World) :
    (Instr.buildSlice t 1 #[(0, .agg cells)]).run P w = .ok (.slice (some ⟨w.heap.size, 0, none⟩) 1 1) (w.alloc (.cells cells e)) := by
  obtain ⟨i, hi1, hi2, hi3⟩ : ∃ i, P.info? e = some i ∧ i.zero = some (.agg z) ∧ i.size = k := by
    rcases hq : P.info? e with _ | i
    · rw [hq] at hi; cases hi
    · rw [hq] at hi
      simp only [Option.map_some, Option.some.injEq, Prod.mk.injEq] at hi
      exact ⟨i, rfl, hi.1, hi.2⟩
  have hne : ¬ k = 0 := by omega
  have hle : ¬ (2 ^ 24 < k) := by omega
  have hf : Instr.fill (fun i => some (i * k, k)) ((Array.range k).map fun x => z[x % z.size]!) [(0, .agg cells)] = some cells := by
    have e1 : ((Array.range k).map fun x => z[x % z.size]!).size = k := by simp
    simp only [Instr.fill, Value.cells, hc, Nat.zero_mul, Nat.zero_add, e1, ne_eq, not_true_eq_false, decide_false, Bool.false_or, Nat.lt_irrefl, Bool.false_eq_true, if_false, gt_iff_lt]
    congr 1
    apply Array.ext'
    have := fold_spl cells.toList 0 ((Array.range k).map fun x => z[x % z.size]!) (by simp [hc])
    rw [← Array.foldl_toList, Array.toList_zipIdx]
    simp only [Nat.zero_add] at this
    rw [this]
    unfold spl
    simp [hc]
  unfold Instr.buildSlice
  simp [run_underlying ht, sizeOf, typeInfo, hi1, hi3, hne, hle, zeroValue, hi2, Value.cells, newRow, newObj]
  rw [hf]
  rfl
theorem wp_build_one {P : Program} {o : Oper} {a : Act} {w : World} {K : Act → World → Prop} {Q : Exit → Act → World → Prop} (t : TypeId) (x : Operand) (ho : o.op = .buildSlice t 1 #[(0, x)]) {e : TypeId} {k : Nat} (ht : P.underlying t = some (.slice e)) (z : Array Value) (hk : 0 < k ∧ k ≤ 16777216)
    (hi : (P.info? e).map (fun i => (i.zero, i.size)) = some (some (.agg z), k)) (hz : z.size = k) (cells : Array Value) (hx : a.eval x = .agg cells) (hc : cells.size = k)
    (h : K (a.put o.dst (.slice (some ⟨w.heap.size, 0, none⟩) 1 1)) (w.alloc (.cells cells e))) : o.wp P a w K Q := by
  unfold Oper.wp execOp
  simp only [ho, hx, List.map_toArray, List.map_cons, List.map_nil]
  simp [run_build_one ht z hk hi hz cells hc]
  exact h

set_option linter.unusedSimpArgs false in
set_option maxRecDepth 100000 in
set_option maxHeartbeats 4000000 in
theorem wfresh_any {fb : FB} {w0 w : World} {X : Nat} {cnt md : Int} {l : List (Nat × Nd)} {ds : List (List Value)} {vl vw : Value} {g : Nat} {x : Nd} (h : Wb fb w0 w X cnt md (l ++ [(g, x)]) l ds vl vw) (L : List Value) (hL : Dn L) (hmd : 0 ≤ md ∧ md ≤ 1000) (hf : l.length ≤ 1000) (hfd : ds.length ≤ 1000) :
    Calls Tryz.prog 17 #[ptrN X, ptrN g, .agg L.toArray] w fun e w' => e = .returned (.bool true) ∧ ∃ vl' vw', Wb fb w0 w' X cnt (md + 1) (l ++ [(g, x)]) (l ++ [(g, x)]) (ds ++ [L]) vl' vw' ∧ Kept (NX fb X vl vw) w w' := by
  obtain ⟨Wa, hWa, la, ba, sa⟩ := dn_box L w
  obtain ⟨A1, k1, rfl, _⟩ := h.lst.slice
  obtain ⟨A2, k2, rfl, _⟩ := h.row.slice
  have ha := h.on ba
  have HLn := Lib.hid hL
  have ca1 := ha.cL
  obtain ⟨Wc, hWc⟩ : ∃ Wc, Wa.alloc (.cells #[ptrN g] 46) = Wc := ⟨_, rfl⟩
  have bc : Below Wa.heap.size Wa Wc := by rw [← hWc]; exact (Below.refl _ _).alloc (Nat.le_refl _) _
  have sc : Wc.heap.size = w.heap.size + 1 + 1 := by rw [← hWc]; simp [sa]
  have hc := ha.on bc
  have lc : Lst Wc w.heap.size L := Blk.below la bc (Blk.lt la)
  have nc : Blk Wc (w.heap.size + 1) #[ptrN g] := by rw [← hWc, ← sa]; exact Blk.new Wa _ _
  have HInf1 := Lib.hid (show (Tryz.prog.info? 46).map (fun i => (i.zero, i.size, i.bytes)) = some (some (.pointer none), 1, 8) by kernel_rfl)
  have HLst := Lib.hid hc.lst
  have HNew1 := Lib.hid (show ∀ (j : Nat) (u : Value), [ptrN g][j]? = some u → Wc.cell? ((⟨w.heap.size + 1, 0, none⟩ : Addr).add j) = some u from fun j u hu => by
    rw [Addr.add_lit, Nat.zero_add, nc.cell j]
    simpa using hu)
  have HBase1 := Lib.hid (show w0.heap.size ≤ Wc.heap.size from hc.below.size)
  have lwc : w.heap.size < Wc.heap.size := Blk.lt lc
  have nown : ∀ i, NX fb X (.slice A1 l.length k1) (.slice A2 ds.length k2) i → i ≠ w.heap.size := fun i q e => by have := h.lt i q; omega
  have HG1 := Lib.hid (fun (v1 : Value) (w1 : World) (hm : MineR w1 w0.heap.size 46 1 v1 (l.length + 1) (ptrs l ++ [[ptrN g]])) (hg : Wc.grownBy w1 (Value.slice A1 l.length k1).ownBlock) (ho : v1.ownBlock = (Value.slice A1 l.length k1).ownBlock ∨ v1.ownBlock = some Wc.heap.size) => And.intro (hc.grow1 (x := x) hm hg ho)
    (show Lst (w1.setCell ⟨X, 1, none⟩ v1) w.heap.size L ∧ Kept (NX fb X (.slice A1 l.length k1) (.slice A2 ds.length k2)) w (w1.setCell ⟨X, 1, none⟩ v1) from ⟨(Kept.set_ (D := (· = X)) w1 ⟨X, 1, none⟩ v1 rfl).blk ((Kept.of_grown hg).blk lc (fun e => nown _ (.inr (.inl e)) rfl)) (fun e => nown X (.inl rfl) e.symm),
      ((Kept.of_below (ba.trans (bc.mono ba.size))).trans ((Kept.of_grown hg).mono (fun i e => .inr (.inl e)))).trans ((Kept.set_ (D := (· = X)) w1 ⟨X, 1, none⟩ v1 rfl).mono (fun i e => .inl e))⟩))
  have SG := Lib.hid sc
  have HX0 := Lib.hid (fun e => nown X (.inl rfl) e)
  clear ha hc la lc nc ba bc lwc nown hL
  generalize hcs : L.toArray = cs at hWa
  subst hcs
  go_enter Tryz.func17, Tryz.ntmps17
  go_upto_region 1 with fail
  try rw [hWa]
  clear hWa
  go_wp2_with (at_builtin
               try rw [hWc]
               refine wpList_append_rws _ rfl (.tmp 11) (.tmp 13) _ rfl Tryz.underlying33 HInf1.out (by rfl) (by decide) w0.heap.size (.slice A1 l.length k1) l.length (ptrs l) rfl HLst.out ⟨w.heap.size + 1, 0, none⟩ 1 [ptrN g] rfl rfl HNew1.out (by intro u hu; simp at hu; subst hu; rfl) (by omega) (by unfold maxLen; omega) HBase1.out ?_
               intro v1 w1 hm1 hg1 ho1
               obtain ⟨B1, j1, rfl, _⟩ := hm1.slice
               obtain ⟨⟨p1, p2, p3⟩, p4, p5⟩ := HG1.out _ _ hm1 hg1 ho1
               have HP3 := Lib.hid p3
               have HP4 := Lib.hid p4
               have HP5 := Lib.hid p5
               clear hm1 hg1 ho1 p3 p4 p5)
  obtain ⟨w2, hw2⟩ : ∃ w2, w1.setCell ⟨X, 1, none⟩ (.slice B1 (l.length + 1) j1) = w2 := ⟨_, rfl⟩
  rw [hw2] at HP3 HP4 HP5
  try rw [hw2]
  clear hw2 p1 p2 HG1 HLst HNew1 HBase1 HInf1
  obtain ⟨w3, hw3⟩ : ∃ w3, w2.drew.alloc (.cells L.toArray 59) = w3 := ⟨_, rfl⟩
  have b3 : Below w2.heap.size w2 w3 := by rw [← hw3]; exact (Below.refl _ _).drew.alloc (Nat.le_refl _) _
  have h3 := HP3.out.on b3
  have l3 := Blk.below HP4.out b3 (Blk.lt HP4.out)
  have n3 : Lst w3 w2.heap.size L := by rw [← hw3]; exact Blk.new w2.drew _ _
  have HW3 := Lib.hid hw3
  have HS2 := Lib.hid (show w2.drew.rangeAt w.heap.size 0 L from Lst.all (show Lst w2.drew w.heap.size L from HP4.out))
  have HS3 := Lib.hid (Lst.all l3)
  have HRow := Lib.hid h3.row
  have HNew := Lib.hid (show ∀ (j : Nat) (u : Value), L[j]? = some u → w3.cell? ((⟨w2.heap.size, 0, none⟩ : Addr).add j) = some u from fun j u hu => by
    rw [Addr.add_lit, Nat.zero_add, Lst.at_ n3]
    exact hu)
  have HBase := Lib.hid (show w0.heap.size ≤ w3.heap.size from h3.below.size)
  have cA := HP3.out.cW
  have cB := h3.cW
  have c3 : w3.cell? ⟨X, 3, none⟩ = some (.int .i64 md) := by rw [Lst.at_ h3.blk]; rfl
  have HLsz := Lib.hid (show L.toArray.size = 261 by rw [List.size_toArray]; exact HLn.out.len)
  obtain ⟨zs, hzs⟩ : ∃ zs, zeroN.toArray = zs := ⟨_, rfl⟩
  have HZs := Lib.hid (show (Tryz.prog.info? 59).map (fun i => (i.zero, i.size)) = some (some (.agg zs), 261) by rw [← hzs]; kernel_rfl)
  have HInf := Lib.hid (show (Tryz.prog.info? 59).map (fun i => (i.zero, i.size, i.bytes)) = some (some (.agg zs), 261, 2104) by rw [← hzs]; kernel_rfl)
  have HZz := Lib.hid (show zs.size = 261 by rw [← hzs, List.size_toArray]; exact zeroN_length)
  have HZz2 := Lib.hid (show (Value.agg zs).cells.size = 261 from HZz.out)
  have nX3 : ¬ X = w.heap.size := fun e => HX0.out e
  have ew : IntKind.i64.wrap (md + 1) = md + 1 := by rw [IntKind.wrap_i64]; omega
  have HF4 := Lib.hid (fun (v3 : Value) (w4 : World) (hm : MineR w4 w0.heap.size 59 261 v3 (ds.length + 1) (ds ++ [L])) (hg : w3.grownBy w4 (Value.slice A2 ds.length k2).ownBlock) (ho : v3.ownBlock = (Value.slice A2 ds.length k2).ownBlock ∨ v3.ownBlock = some w3.heap.size) =>
    show w4.cell? ⟨X, 2, none⟩ = some (.slice A2 ds.length k2) ∧ w4.frozen? ⟨X, 2, none⟩ = false ∧ w4.rangeAt w.heap.size 0 L ∧ (Wb fb w0 ((w4.setCell ⟨X, 2, none⟩ v3).setCell ⟨X, 3, none⟩ (.int .i64 (md + 1))) X cnt (md + 1) (l ++ [(g, x)]) (l ++ [(g, x)]) (ds ++ [L]) (.slice B1 (l.length + 1) j1) v3 ∧ Kept (NX fb X (.slice A1 l.length k1) (.slice A2 ds.length k2)) w ((w4.setCell ⟨X, 2, none⟩ v3).setCell ⟨X, 3, none⟩ (.int .i64 (md + 1)))) ∧
      (w4.setCell ⟨X, 2, none⟩ v3).rangeAt w.heap.size 0 L ∧ w4.cell? ⟨X, 3, none⟩ = some (.int .i64 md) ∧ w4.frozen? ⟨X, 3, none⟩ = false ∧ True from by
    obtain ⟨g1, g2, g3⟩ := h3.grow2 hm hg ho
    have k4 := Kept.of_grown hg
    have l4 : Lst w4 w.heap.size L := k4.blk l3 (fun e => by
      have hx1 := h3.row.lt _ e
      have hx2 := h.lt _ (.inr (.inr (.inl e)))
      omega)
    have x4 := k4.blk h3.blk h3.ne2
    refine ⟨g1, g2, Lst.all l4, ⟨g3.told (md + 1), (((HP5.out.trans (Kept.of_below b3)).trans (k4.mono (fun i e => .inr (.inr (.inl e))))).trans ((Kept.set_ (D := (· = X)) w4 ⟨X, 2, none⟩ v3 rfl).mono (fun i e => .inl e))).trans ((Kept.set_ (D := (· = X)) _ ⟨X, 3, none⟩ _ rfl).mono (fun i e => .inl e))⟩, Lst.all (show Lst _ _ _ from (Kept.set_ (D := (· = X)) w4 ⟨X, 2, none⟩ v3 rfl).blk l4 (fun e => nX3 e.symm)), ?_, Blk.fz x4 _, trivial⟩
    rw [Lst.at_ x4]; rfl)
  clear b3 h3 l3 n3 hw3 hzs HP3 HP4 c3
  refine wp_region_held_drew (S := (fun w' => w'.rangeAt w.heap.size 0 L)) (by kernel_rfl) HS2.out (fun hHeld => ?_)
  refine wpAnyH_take (i := 0) (oi := { dst := some 17, op := Op.move (Operand.tmp 0), type := 25, pos := "law.go:44", after := #[], guard := none }) (v := ?v1) rfl (by kernel_rfl) (by kernel_rfl) (by kernel_rfl) (fun _ _ _ h => h) (Or.inl ⟨by rfl, ?hy1⟩) hHeld ?rest1
  case hy1 => (intro w' hSw; (try dsimp only at hSw); go_simp; (try with_reducible rfl))
  try simp only [Act.put, List.setIfInBounds_toArray, List.set_cons_zero, List.set_cons_succ]
  refine wpAnyH_take (i := 1) (oi := { dst := some 18, op := Op.move (Operand.tmp 0), type := 25, pos := "law.go:44", after := #[], guard := none }) (v := ?v2) rfl (by kernel_rfl) (by kernel_rfl) (by kernel_rfl) (fun _ _ _ h => h) (Or.inl ⟨by rfl, ?hy2⟩) hHeld ?rest2
  case hy2 => (intro w' hSw; (try dsimp only at hSw); go_simp; (try with_reducible rfl))
  try simp only [Act.put, List.setIfInBounds_toArray, List.set_cons_zero, List.set_cons_succ]
  refine wpAnyH_take (i := 2) (oi := { dst := some 19, op := Op.nilCheck (Operand.tmp 18), type := 0, pos := "law.go:44", after := #[{ on := 1, ground := Ground.data }], guard := none }) (v := ?v3) rfl (by kernel_rfl) (by kernel_rfl) (by kernel_rfl) (fun _ _ _ h => h) (Or.inl ⟨by rfl, ?hy3⟩) hHeld ?rest3
  case hy3 => (intro w' hSw; (try dsimp only at hSw); go_simp; (try with_reducible rfl))
  try simp only [Act.put, List.setIfInBounds_toArray, List.set_cons_zero, List.set_cons_succ]
  refine wpAnyH_take (i := 3) (oi := { dst := some 20, op := Op.fieldAddr 36 (Operand.tmp 19) 2, type := 0, pos := "law.go:44", after := #[{ on := 2, ground := Ground.data }], guard := none }) (v := ?v4) rfl (by kernel_rfl) (by kernel_rfl) (by kernel_rfl) (fun _ _ _ h => h) (Or.inl ⟨by rfl, ?hy4⟩) hHeld ?rest4
  case hy4 => (intro w' hSw; (try dsimp only at hSw); go_simp; (try with_reducible rfl))
  try simp only [Act.put, List.setIfInBounds_toArray, List.set_cons_zero, List.set_cons_succ]
  refine wpAnyH_take (i := 5) (oi := { dst := some 22, op := Op.load 59 (Operand.tmp 5), type := 59, pos := "law.go:44", after := #[], guard := none }) (v := .agg L.toArray) rfl (by kernel_rfl) (by kernel_rfl) (by kernel_rfl) (fun _ _ _ h => h) (yieldsIf_load_mid (by rfl) 59 (.tmp 5) rfl w.heap.size 0 (by rfl) L _ (fun _ h => h) Tryz.underlying59 rfl HLn.out.sz) hHeld ?_
  try simp only [Act.put, List.setIfInBounds_toArray, List.set_cons_zero, List.set_cons_succ]
  refine wpAnyH_ready (rs := [4, 6]) (by kernel_rfl) (by simp) (AllReadyH.cons (o := { dst := some 21, op := Op.load 34 (Operand.tmp 20), type := 34, pos := "law.go:44", after := #[{ on := 3, ground := Ground.data }], guard := none }) rfl (fun K hK => ?_) (AllReadyH.cons (o := { dst := some 23, op := Op.buildSlice 34 1 #[(0, Operand.tmp 22)], type := 34, pos := "law.go:44", after := #[{ on := 5, ground := Ground.data }], guard := none }) rfl (fun K hK => ?_) AllReadyH.nil))
  · go_simp
    refine hK.out _ _ HS2.out (fun hHeld' => ?_)
    clear hK K hHeld
    have hHeld := hHeld'
    clear hHeld'
    try simp only [Act.put, List.setIfInBounds_toArray, List.set_cons_zero, List.set_cons_succ]
    refine wpAnyH_ready (rs := [6]) (by kernel_rfl) (by simp) (AllReadyH.cons (o := { dst := some 23, op := Op.buildSlice 34 1 #[(0, Operand.tmp 22)], type := 34, pos := "law.go:44", after := #[{ on := 5, ground := Ground.data }], guard := none }) rfl (fun K hK => ?_) AllReadyH.nil)
    rw [if_pos (by rfl)]
    refine wp_build_one (P := Tryz.prog) 34 (.tmp 22) rfl Tryz.underlying34 zs (by decide) HZs.out HZz.out L.toArray (by rfl) HLsz.out ?_
    rw [HW3.out]
    refine hK.out _ _ HS3.out (fun hHeld' => ?_)
    clear hK K hHeld
    have hHeld := hHeld'
    clear hHeld'
    try simp only [Act.put, List.setIfInBounds_toArray, List.set_cons_zero, List.set_cons_succ]
    refine wpAnyH_ready (rs := [7]) (by kernel_rfl) (by simp) (AllReadyH.cons (o := { dst := some 24, op := Op.call { callee := Callee.builtin Builtin.append, args := #[Operand.tmp 21, Operand.tmp 23], argTypes := #[34, 34] }, type := 34, pos := "law.go:44", after := #[{ on := 4, ground := Ground.data }, { on := 6, ground := Ground.data }], guard := none }) rfl (fun K hK => ?_) AllReadyH.nil)
    rw [if_pos (by rfl)]
    refine wp_append_rws _ (.tmp 21) (.tmp 23) _ rfl Tryz.underlying34 HInf.out HZz2.out (by decide) w0.heap.size (.slice A2 ds.length k2) ds.length ds (by rfl) HRow.out ⟨w2.heap.size, 0, none⟩ 1 L (by rfl) HLn.out.len HNew.out HLn.out.one (by omega) (by unfold maxLen; omega) HBase.out ?_
    intro v3 w4 hm3 hg3 ho3
    obtain ⟨A3, c3, rfl, _⟩ := hm3.slice
    obtain ⟨p1, p2, p3, p4, p5, p6, p7, p8⟩ := HF4.out _ _ hm3 hg3 ho3
    have HE := Lib.hid p4
    have HP := Lib.hid p5
    clear hm3 hg3 ho3 p4 p5
    refine hK.out _ _ p3 (fun hHeld' => ?_)
    clear hK K hHeld
    have hHeld := hHeld'
    clear hHeld'
    try simp only [Act.put, List.setIfInBounds_toArray, List.set_cons_zero, List.set_cons_succ]
    refine wpAnyH_take (i := 8) (oi := { dst := some 25, op := Op.nilCheck (Operand.tmp 17), type := 0, pos := "law.go:44", after := #[{ on := 0, ground := Ground.data }, { on := 0, ground := Ground.phase }, { on := 1, ground := Ground.phase }, { on := 2, ground := Ground.phase }, { on := 3, ground := Ground.phase }, { on := 4, ground := Ground.phase }, { on := 5, ground := Ground.phase }, { on := 6, ground := Ground.phase }, { on := 7, ground := Ground.phase }], guard := none }) (v := ?v5) rfl (by kernel_rfl) (by kernel_rfl) (by kernel_rfl) (fun _ _ _ h => h) (Or.inl ⟨by rfl, ?hy5⟩) hHeld ?rest5
    case hy5 => (intro w' hSw; (try dsimp only at hSw); go_simp; (try with_reducible rfl))
    try simp only [Act.put, List.setIfInBounds_toArray, List.set_cons_zero, List.set_cons_succ]
    refine wpAnyH_take (i := 9) (oi := { dst := some 26, op := Op.fieldAddr 36 (Operand.tmp 25) 2, type := 0, pos := "law.go:44", after := #[{ on := 8, ground := Ground.data }, { on := 0, ground := Ground.phase }, { on := 1, ground := Ground.phase }, { on := 2, ground := Ground.phase }, { on := 3, ground := Ground.phase }, { on := 4, ground := Ground.phase }, { on := 5, ground := Ground.phase }, { on := 6, ground := Ground.phase }, { on := 7, ground := Ground.phase }], guard := none }) (v := ?v6) rfl (by kernel_rfl) (by kernel_rfl) (by kernel_rfl) (fun _ _ _ h => h) (Or.inl ⟨by rfl, ?hy6⟩) hHeld ?rest6
    case hy6 => (intro w' hSw; (try dsimp only at hSw); go_simp; (try with_reducible rfl))
    try simp only [Act.put, List.setIfInBounds_toArray, List.set_cons_zero, List.set_cons_succ]
    refine wpAnyH_ready (rs := [10]) (by kernel_rfl) (by simp) (AllReadyH.cons (o := { dst := none, op := Op.store 34 (Operand.tmp 26) (Operand.tmp 24), type := 0, pos := "law.go:44", after := #[{ on := 9, ground := Ground.data }, { on := 7, ground := Ground.data }, { on := 7, ground := Ground.chain }, { on := 0, ground := Ground.phase }, { on := 1, ground := Ground.phase }, { on := 2, ground := Ground.phase }, { on := 3, ground := Ground.phase }, { on := 4, ground := Ground.phase }, { on := 5, ground := Ground.phase }, { on := 6, ground := Ground.phase }, { on := 7, ground := Ground.phase }], guard := none }) rfl (fun K hK => ?_) AllReadyH.nil)
    go_simp
    refine hK.out _ _ HP.out (fun hHeld' => ?_)
    clear hK K hHeld
    have hHeld := hHeld'
    clear hHeld'
    try simp only [Act.put, List.setIfInBounds_toArray, List.set_cons_zero, List.set_cons_succ]
    refine wpAnyH_done (by kernel_rfl) ?_ _
    go_wp2
    go_ret
    exact ⟨rfl, _, _, HE.out.1, HE.out.2⟩
  · rw [if_pos (by rfl)]
    refine wp_build_one (P := Tryz.prog) 34 (.tmp 22) rfl Tryz.underlying34 zs (by decide) HZs.out HZz.out L.toArray (by rfl) HLsz.out ?_
    rw [HW3.out]
    refine hK.out _ _ HS3.out (fun hHeld' => ?_)
    clear hK K hHeld
    have hHeld := hHeld'
    clear hHeld'
    try simp only [Act.put, List.setIfInBounds_toArray, List.set_cons_zero, List.set_cons_succ]
    refine wpAnyH_ready (rs := [4]) (by kernel_rfl) (by simp) (AllReadyH.cons (o := { dst := some 21, op := Op.load 34 (Operand.tmp 20), type := 34, pos := "law.go:44", after := #[{ on := 3, ground := Ground.data }], guard := none }) rfl (fun K hK => ?_) AllReadyH.nil)
    go_simp
    refine hK.out _ _ HS3.out (fun hHeld' => ?_)
    clear hK K hHeld
    have hHeld := hHeld'
    clear hHeld'
    try simp only [Act.put, List.setIfInBounds_toArray, List.set_cons_zero, List.set_cons_succ]
    refine wpAnyH_ready (rs := [7]) (by kernel_rfl) (by simp) (AllReadyH.cons (o := { dst := some 24, op := Op.call { callee := Callee.builtin Builtin.append, args := #[Operand.tmp 21, Operand.tmp 23], argTypes := #[34, 34] }, type := 34, pos := "law.go:44", after := #[{ on := 4, ground := Ground.data }, { on := 6, ground := Ground.data }], guard := none }) rfl (fun K hK => ?_) AllReadyH.nil)
    rw [if_pos (by rfl)]
    refine wp_append_rws _ (.tmp 21) (.tmp 23) _ rfl Tryz.underlying34 HInf.out HZz2.out (by decide) w0.heap.size (.slice A2 ds.length k2) ds.length ds (by rfl) HRow.out ⟨w2.heap.size, 0, none⟩ 1 L (by rfl) HLn.out.len HNew.out HLn.out.one (by omega) (by unfold maxLen; omega) HBase.out ?_
    intro v3 w4 hm3 hg3 ho3
    obtain ⟨A3, c3, rfl, _⟩ := hm3.slice
    obtain ⟨p1, p2, p3, p4, p5, p6, p7, p8⟩ := HF4.out _ _ hm3 hg3 ho3
    have HE := Lib.hid p4
    have HP := Lib.hid p5
    clear hm3 hg3 ho3 p4 p5
    refine hK.out _ _ p3 (fun hHeld' => ?_)
    clear hK K hHeld
    have hHeld := hHeld'
    clear hHeld'
    try simp only [Act.put, List.setIfInBounds_toArray, List.set_cons_zero, List.set_cons_succ]
    refine wpAnyH_take (i := 8) (oi := { dst := some 25, op := Op.nilCheck (Operand.tmp 17), type := 0, pos := "law.go:44", after := #[{ on := 0, ground := Ground.data }, { on := 0, ground := Ground.phase }, { on := 1, ground := Ground.phase }, { on := 2, ground := Ground.phase }, { on := 3, ground := Ground.phase }, { on := 4, ground := Ground.phase }, { on := 5, ground := Ground.phase }, { on := 6, ground := Ground.phase }, { on := 7, ground := Ground.phase }], guard := none }) (v := ?v7) rfl (by kernel_rfl) (by kernel_rfl) (by kernel_rfl) (fun _ _ _ h => h) (Or.inl ⟨by rfl, ?hy7⟩) hHeld ?rest7
    case hy7 => (intro w' hSw; (try dsimp only at hSw); go_simp; (try with_reducible rfl))
    try simp only [Act.put, List.setIfInBounds_toArray, List.set_cons_zero, List.set_cons_succ]
    refine wpAnyH_take (i := 9) (oi := { dst := some 26, op := Op.fieldAddr 36 (Operand.tmp 25) 2, type := 0, pos := "law.go:44", after := #[{ on := 8, ground := Ground.data }, { on := 0, ground := Ground.phase }, { on := 1, ground := Ground.phase }, { on := 2, ground := Ground.phase }, { on := 3, ground := Ground.phase }, { on := 4, ground := Ground.phase }, { on := 5, ground := Ground.phase }, { on := 6, ground := Ground.phase }, { on := 7, ground := Ground.phase }], guard := none }) (v := ?v8) rfl (by kernel_rfl) (by kernel_rfl) (by kernel_rfl) (fun _ _ _ h => h) (Or.inl ⟨by rfl, ?hy8⟩) hHeld ?rest8
    case hy8 => (intro w' hSw; (try dsimp only at hSw); go_simp; (try with_reducible rfl))
    try simp only [Act.put, List.setIfInBounds_toArray, List.set_cons_zero, List.set_cons_succ]
    refine wpAnyH_ready (rs := [10]) (by kernel_rfl) (by simp) (AllReadyH.cons (o := { dst := none, op := Op.store 34 (Operand.tmp 26) (Operand.tmp 24), type := 0, pos := "law.go:44", after := #[{ on := 9, ground := Ground.data }, { on := 7, ground := Ground.data }, { on := 7, ground := Ground.chain }, { on := 0, ground := Ground.phase }, { on := 1, ground := Ground.phase }, { on := 2, ground := Ground.phase }, { on := 3, ground := Ground.phase }, { on := 4, ground := Ground.phase }, { on := 5, ground := Ground.phase }, { on := 6, ground := Ground.phase }, { on := 7, ground := Ground.phase }], guard := none }) rfl (fun K hK => ?_) AllReadyH.nil)
    go_simp
    refine hK.out _ _ HP.out (fun hHeld' => ?_)
    clear hK K hHeld
    have hHeld := hHeld'
    clear hHeld'
    try simp only [Act.put, List.setIfInBounds_toArray, List.set_cons_zero, List.set_cons_succ]
    refine wpAnyH_done (by kernel_rfl) ?_ _
    go_wp2
    go_ret
    exact ⟨rfl, _, _, HE.out.1, HE.out.2⟩
end Go.Proofs.YtgelmhldicmmdaaGreat
