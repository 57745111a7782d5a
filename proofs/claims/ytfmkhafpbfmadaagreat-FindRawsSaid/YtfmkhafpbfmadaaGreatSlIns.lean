/-
  slices.Insert of one thing where there is room, and slices.Delete of one, in a block whose cells are told as a list.
-/
import Derived.Test.YtfmkhafpbfmadaaGreatMem
import Derived.Test.YtfmkhafpbfmadaaGreatChecked
import Derived.Lib.Overlaps
import Derived.Lib.SliceRun
import Derived.ArgAppend
import Derived.Laws.Externs
import Derived.OwnWalk
namespace Go.Proofs.YtfmkhafpbfmadaaGreat
open Go.RowKit

section
variable {P : Program} {ops : Array Oper} {rest : List Oper} {o : Oper} {a : Act} {w w' : World} {Q : Exit → Act → World → Prop}
/-- append, copy, clear whose run is known. -/
theorem wpList_app_run (hgd : o.guard = none) (s x : Operand) (t t' : TypeId) (ho : o.op = .call { callee := .builtin .append, args := #[s, x], argTypes := #[t, t'] }) (v u : Value) (hs : a.eval s = v) (hx : a.eval x = u) {v' : Value}
    (hr : (Builtin.append_ #[t, t'] o.type #[v, u]).run P w = .ok v' w') (h : wpList P ops Q rest (a.put o.dst v') w') : wpList P ops Q (o :: rest) a w := by
  refine wpList_plain hgd fun _ hK => ?_
  unfold Oper.wp execOp
  simp only [ho, resolve, invoke, builtin, Sem.run_bind, Sem.run_pure, Result.andThen_ok, List.map_toArray, List.map_cons, List.map_nil, hs, hx, hr]
  exact hK _ _ h
theorem wpList_cpy_run (hgd : o.guard = none) (s x : Operand) (t t' : TypeId) (ho : o.op = .call { callee := .builtin .copy, args := #[s, x], argTypes := #[t, t'] }) (v u : Value) (hs : a.eval s = v) (hx : a.eval x = u) {v' : Value}
    (hr : (Builtin.copy_ #[t, t'] o.type #[v, u]).run P w = .ok v' w') (h : wpList P ops Q rest (a.put o.dst v') w') : wpList P ops Q (o :: rest) a w := by
  refine wpList_plain hgd fun _ hK => ?_
  unfold Oper.wp execOp
  simp only [ho, resolve, invoke, builtin, Sem.run_bind, Sem.run_pure, Result.andThen_ok, List.map_toArray, List.map_cons, List.map_nil, hs, hx, hr]
  exact hK _ _ h
theorem step_app_run {K : Act → World → Prop} {E : Prop} (hg : o.guard = none) (s x : Operand) (t t' : TypeId) (hop : o.op = .call { callee := .builtin .append, args := #[s, x], argTypes := #[t, t'] }) (v u : Value) (hs : a.eval s = v) (hx : a.eval x = u) {v' : Value}
    (hr : (Builtin.append_ #[t, t'] o.type #[v, u]).run P w = .ok v' w') (hK : K (a.put o.dst v') w') : if Region.wanted o (yielded ops a.tmps) = true then Oper.wp P o a w K Q else E := by
  rw [if_pos (by simp [Region.wanted, hg])]
  unfold Oper.wp
  simp [execOp, hop, resolve, invoke, builtin, hs, hx, hr, Result.andThen]
  exact hK
theorem step_cpy_run {K : Act → World → Prop} {E : Prop} (hg : o.guard = none) (s x : Operand) (t t' : TypeId) (hop : o.op = .call { callee := .builtin .copy, args := #[s, x], argTypes := #[t, t'] }) (v u : Value) (hs : a.eval s = v) (hx : a.eval x = u) {v' : Value}
    (hr : (Builtin.copy_ #[t, t'] o.type #[v, u]).run P w = .ok v' w') (hK : K (a.put o.dst v') w') : if Region.wanted o (yielded ops a.tmps) = true then Oper.wp P o a w K Q else E := by
  rw [if_pos (by simp [Region.wanted, hg])]
  unfold Oper.wp
  simp [execOp, hop, resolve, invoke, builtin, hs, hx, hr, Result.andThen]
  exact hK
end

theorem Lst.drewN {w : World} {g : Nat} {l : List Value} (h : Lst w g l) (n : Nat) : Lst (w.drewN n) g l := h
theorem Lst.drew {w : World} {g : Nat} {l : List Value} (h : Lst w g l) : Lst w.drew g l := h

/-- A part of a block's cells goes elsewhere, in its own block or another one. -/
theorem copy_lst {P : Program} {dT sT e : TypeId} (ty : TypeId) (hu : P.underlying dT = some (.slice e)) (hs : (P.info? e).map (·.size) = some 1) {w : World} {g g' : Nat} {l l' : List Value} (h : Lst w g l) (h' : Lst w g' l')
    (o n dc o' m sc k : Nat) (vs : List Value) (hk : k = Nat.min m n) (hvs : vs = (l'.drop o').take k) (hm : o' + k ≤ l'.length) (ho : o + k ≤ l.length) (h1 : ∀ v ∈ l', v.oneCell' = true) :
    (Builtin.copy_ #[dT, sT] ty #[.slice (some ⟨g, o, none⟩) n dc, .slice (some ⟨g', o', none⟩) m sc]).run P w = .ok (goInt k) (w.setCells g o vs) := by
  have hl : vs.length = k := by subst hvs; simp; omega
  have := run_copy_cells (P := P) w dT sT ty e g o n dc ⟨g', o', none⟩ m sc vs hu hs (by rw [hl]; exact hk)
    (fun j v hj => by
      rw [Addr.add_lit, Lst.at_ h']
      subst hvs
      rw [List.getElem?_take] at hj
      split at hj
      · rwa [List.getElem?_drop] at hj
      · cases hj)
    (fun j hj => Lst.isSome h (by omega)) (fun j hj => Blk.fz h _) (fun v hv => h1 v (by subst hvs; exact List.mem_of_mem_drop (List.mem_of_mem_take hv)))
  rw [hl] at this
  exact this

/-- One more at place i of the first n. -/
def insL {α : Type} (vs : List α) (n i : Nat) (x : α) : List α := vs.take i ++ x :: ((vs.take n).drop i ++ vs.drop (n + 1))
theorem insL_end {vs : List Value} {n : Nat} {x : Value} : spl vs n [x] = insL vs n n x := by
  simp [spl, insL]
theorem insL_mid {vs : List Value} {n i : Nat} {x : Value} (hi : i ≤ n) (hn : n < vs.length) : spl (spl vs (i + 1) ((vs.take n).drop i)) i [x] = insL vs n i x := by
  have hd : ((vs.take n).drop i).length = n - i := by simp; omega
  unfold spl insL
  rw [hd, show i + 1 + (n - i) = n + 1 from by omega]
  have e1 : (vs.take (i + 1) ++ (vs.take n).drop i ++ vs.drop (n + 1)).take i = vs.take i := by
    rw [List.append_assoc, List.take_append_of_le_length (by simp; omega), List.take_take, Nat.min_eq_left (by omega)]
  have e2 : (vs.take (i + 1) ++ (vs.take n).drop i ++ vs.drop (n + 1)).drop (i + [x].length) = (vs.take n).drop i ++ vs.drop (n + 1) := by
    rw [List.append_assoc, List.drop_append, List.drop_of_length_le (by simp; omega)]
    simp only [List.length_singleton, List.length_take, List.nil_append]
    rw [Nat.min_eq_left (by omega), Nat.sub_self, List.drop_zero]
  rw [e1, e2]
  simp

section
variable {α β : Type} {l : List α} {n i : Nat} {x : α}
theorem insL_map (f : α → β) : (insL l n i x).map f = insL (l.map f) n i (f x) := by simp [insL, List.map_take, List.map_drop]
theorem insL_length (hi : i ≤ n) (hn : n < l.length) : (insL l n i x).length = l.length := by
  simp only [insL, List.length_append, List.length_take, List.length_cons, List.length_drop]; omega
theorem insL_take (hi : i ≤ n) (hn : n < l.length) : (insL l n i x).take (n + 1) = (l.take n).take i ++ x :: (l.take n).drop i := by
  unfold insL
  rw [show l.take i ++ x :: ((l.take n).drop i ++ l.drop (n + 1)) = (l.take i ++ x :: (l.take n).drop i) ++ l.drop (n + 1) from by simp, List.take_append_of_le_length (by simp; omega), List.take_of_length_le (by simp; omega), List.take_take, Nat.min_eq_left hi]
end

set_option maxRecDepth 100000 in
theorem th_info : (Tryz.prog.info? 27).map (·.size) = some 1 := by kernel_rfl

set_option maxHeartbeats 600000 in
set_option maxRecDepth 100000 in
theorem insert_any (t n c i vb : Nat) (vs : List Value) (x : Value) (w : World) (ht : Lst w t vs) (hv : Lst w vb [x]) (hne : vb ≠ t) (hi : i ≤ n) (hn : n < c) (hc : c ≤ 16) (hl : vs.length = c)
    (h1 : ∀ v ∈ vs, v.oneCell' = true) (hx : x.oneCell' = true) :
    Calls Tryz.prog 119 #[.slice (some ⟨t, 0, none⟩) n c, .int .i64 (i : Int), .slice (some ⟨vb, 0, none⟩) 1 1] w fun e w' =>
      e = .returned (.slice (some ⟨t, 0, none⟩) (n + 1) c) ∧ Lst w' t (insL vs n i x) ∧ Kept (· = t) w w' := by
  have h1x : ∀ v ∈ [x], v.oneCell' = true := fun v hv => by simp at hv; subst hv; exact hx
  by_cases hin : i = n
  · subst hin
    obtain ⟨i0, hi0, hz1⟩ : ∃ i0, Tryz.prog.info? 27 = some i0 ∧ i0.size = 1 := by
      rcases h : Tryz.prog.info? 27 with _ | i0
      · have := th_info; rw [h] at this; cases this
      · have := th_info; rw [h] at this; exact ⟨i0, rfl, by simpa using this⟩
    have HR := Lib.hid (fun ty => run_append_room_cells (P := Tryz.prog) w 131 ty 27 i0 Tryz.underlying131 hi0 t 0 i c ⟨vb, 0, none⟩ 1 1 [x] (by rw [hz1]; rfl)
      (fun j u hj => by rw [Addr.add_lit, Lst.at_ hv]; rwa [Nat.zero_add]) h1x (by omega) (fun j hj => Lst.isSome ht (by rw [hz1]; simp at hj; omega)) (fun j hj => Blk.fz ht _))
    rw [hz1] at HR
    have HE := Lib.hid (show Lst (w.setCells t (0 + i * 1) [x]) t (insL vs i i x) ∧ Kept (· = t) w (w.setCells t (0 + i * 1) [x]) by
      rw [Nat.zero_add, Nat.mul_one]
      exact ⟨by rw [← insL_end]; exact Lst.setCells ht i [x] (by simp; omega), Kept.setCells _ _ _ _ _ rfl⟩)
    clear ht hv h1 h1x
    generalize w.setCells t (0 + i * 1) [x] = W at HR HE
    go_enter Tryz.func119, Tryz.ntmps119
    go_wp2_with (at_builtin; refine wpList_app_run rfl _ _ 131 131 rfl _ _ rfl rfl (HR.out _) ?_)
    go_ret
    exact ⟨rfl, HE.out.1, HE.out.2⟩
  · have hlt : i < n := by omega
    obtain ⟨tA, sA⟩ := Lst.shape hv
    obtain ⟨tB, sB⟩ := Lst.shape ht
    have hov : ∀ lb cb, (callFunc 121 #[.slice (some ⟨vb, 0, none⟩) 1 1, .slice (some ⟨t, i + 1, none⟩) lb cb]).run Tryz.prog w = .ok (.value (.bool false)) w := fun lb cb => by
      rw [run_callFunc_extern Tryz.func121 (by kernel_rfl) (by kernel_rfl) (by kernel_rfl) (e := Extern.SlicesOverlaps.overlaps #[131, 131] #[4]) (by kernel_rfl),
        Lib.run_overlaps_apart w 131 4 27 Tryz.underlying131 1 (fun W => by
          rcases h : Tryz.prog.info? 27 with _ | i0
          · have := th_info; rw [h] at this; cases this
          · have := th_info; rw [h] at this; simp [sizeOf, typeInfo, h]; simpa using this) ⟨vb, 0, none⟩ ⟨t, i + 1, none⟩ 1 1 lb cb hne tA tB _ _ sA sB (by omega) (Blk.fz hv _) (Blk.fz hv _)]
      rfl
    obtain ⟨ds, hds⟩ : ∃ ds, ds = (vs.take n).drop i := ⟨_, rfl⟩
    have hdl : ds.length = n - i := by subst hds; simp; omega
    have hcp1 := Lib.hid (fun ty dc sc => copy_lst (P := Tryz.prog) (dT := 131) (sT := 131) ty Tryz.underlying131 th_info (Lst.drew ht) (Lst.drew ht) (i + 1) (n - i) dc i (n + 1 - i) sc (n - i) ds
      (by simp only [Nat.min_def]; split <;> omega) (by rw [hds, List.drop_take]) (by omega) (by omega) h1)
    obtain ⟨W1, hW1⟩ : ∃ W1, W1 = w.drew.setCells t (i + 1) ds := ⟨_, rfl⟩
    have ht1 : Lst W1 t (spl vs (i + 1) ds) := by subst hW1; exact Lst.setCells (Lst.drew ht) _ _ (by omega)
    have hv1 : Lst W1 vb [x] := by subst hW1; exact (Kept.setCells (· = t) w.drew t (i + 1) ds rfl).blk (Lst.drew hv) hne
    have k1 : Kept (· = t) w W1 := by subst hW1; exact (Kept.refl _ _).drew.trans (Kept.setCells _ _ _ _ _ rfl)
    have hcp2 := Lib.hid (fun ty dc => copy_lst (P := Tryz.prog) (dT := 131) (sT := 131) ty Tryz.underlying131 th_info ht1 hv1 i (n + 1 - i) dc 0 1 1 1 [x] (by simp only [Nat.min_def]; split <;> omega) rfl (Nat.le_refl _) (by rw [spl_length (by omega)]; omega) h1x)
    have HE := Lib.hid (show Lst (W1.setCells t i [x]) t (insL vs n i x) ∧ Kept (· = t) w (W1.setCells t i [x]) from
      ⟨by rw [← insL_mid hi (by omega), ← hds]; exact Lst.setCells ht1 i [x] (by rw [spl_length (by omega)]; simp; omega), k1.trans (Kept.setCells _ _ _ _ _ rfl)⟩)
    rw [← hW1] at hcp1
    clear ht hv h1 h1x ht1 hv1 k1 hW1
    generalize W1.setCells t i [x] = W2 at hcp2 HE
    have hb2 : ¬ (c = i + 1) := by omega
    have hb4 : ¬ (c = i) := by omega
    have q1 : IntKind.i64.wrap ((i : Int) + 1) = (i : Int) + 1 := by rw [IntKind.wrap_i64]; omega
    have q2 : (0 : Int) ≤ (i : Int) + 1 := by omega
    have q3 : (i : Int) + 1 ≤ (n : Int) + 1 := by omega
    have q4 : ((i : Int) + 1).toNat = i + 1 := by omega
    have q5 : (i : Int) ≤ (n : Int) + 1 := by omega
    have q6 : ((i : Int)).toNat = i := by omega
    go_enter Tryz.func119, Tryz.ntmps119
    go_wp2_with (simp only [hov])
    go_region_law (refine step_cpy_run rfl (.tmp 73) (.tmp 76) 131 131 rfl (.slice (some ⟨t, i + 1, none⟩) (n - i) (c - (i + 1))) (.slice (some ⟨t, i, none⟩) (n + 1 - i) (c - i)) (by simp [Act.eval, Act.put]) (by simp [Act.eval, Act.put]) (hcp1.out _ _ _) ?_)
    have hcp3 := hcp2.out
    go_wp2
    go_ret
    exact ⟨rfl, HE.out.1, HE.out.2⟩

/-- One less: the one at place i of the first n. -/
def delL {α : Type} (vs : List α) (n i : Nat) (z : α) : List α := vs.take i ++ ((vs.take n).drop (i + 1) ++ z :: vs.drop n)
section
variable {α β : Type} {l : List α} {n i : Nat} {x : α}
theorem delL_map (f : α → β) : (delL l n i x).map f = delL (l.map f) n i (f x) := by simp [delL, List.map_take, List.map_drop]
theorem delL_length (hi : i < n) (hn : n ≤ l.length) : (delL l n i x).length = l.length := by
  simp only [delL, List.length_append, List.length_take, List.length_cons, List.length_drop]; omega
theorem delL_take (hi : i < n) (hn : n ≤ l.length) : (delL l n i x).take (n - 1) = (l.take n).take i ++ (l.take n).drop (i + 1) := by
  unfold delL
  rw [← List.append_assoc, List.take_append_of_le_length (by simp; omega), List.take_of_length_le (by simp; omega), List.take_take, Nat.min_eq_left (by omega)]
end
theorem delL_is {vs : List Value} {i k : Nat} {z : Value} (hn : i + 1 + k ≤ vs.length) : spl (spl vs i ((vs.take (i + 1 + k)).drop (i + 1))) (i + k) [z] = delL vs (i + 1 + k) i z := by
  have hd : ((vs.take (i + 1 + k)).drop (i + 1)).length = k := by simp; omega
  obtain ⟨ds, hds⟩ : ∃ ds, ds = (vs.take (i + 1 + k)).drop (i + 1) := ⟨_, rfl⟩
  unfold delL
  rw [← hds] at hd ⊢
  have e0 : spl vs i ds = vs.take i ++ ds ++ vs.drop (i + k) := by simp [spl, hd]
  rw [e0]
  unfold spl
  have l1 : (vs.take i ++ ds).length = i + k := by simp [hd]; omega
  rw [List.take_append_of_le_length (by omega), List.take_of_length_le (by omega), List.drop_append, List.drop_of_length_le (by simp [hd]; omega), List.drop_drop, l1]
  simp only [List.length_singleton, List.nil_append, List.append_assoc, List.cons_append]
  rw [show i + k + (i + k + 1 - (i + k)) = i + 1 + k from by omega]

end Go.Proofs.YtfmkhafpbfmadaaGreat
