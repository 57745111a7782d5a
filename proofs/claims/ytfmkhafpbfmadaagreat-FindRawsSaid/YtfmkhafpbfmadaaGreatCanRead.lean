/-
  What canon.Count, Depth, Fine, List and Points tell: by one round for each node.
-/
import Derived.Test.YtfmkhafpbfmadaaGreatStops
import Derived.Test.YtfmkhafpbfmadaaGreatCmp
import Derived.Test.YtfmkhafpbfmadaaGreatText
import Derived.Test.YtfmkhafpbfmadaaGreatKrow
import Derived.Laws.ResultCell
import Derived.Deep.RegionHeld3
namespace Go.Proofs.YtfmkhafpbfmadaaGreat
open Go.RowKit Go.Shelf
attribute [local go_sem] Oper.semAt_some

def cntV (vs : List Vt) : Nat := vs.countP (·.x.has)
theorem cntV_snoc (vs : List Vt) (v : Vt) : cntV (vs ++ [v]) = cntV vs + (if v.x.has then 1 else 0) := by simp [cntV, List.countP_append, List.countP_singleton]
theorem cntV_le (vs : List Vt) : cntV vs ≤ vs.length := List.countP_le_length
def dpV (vs : List Vt) : Nat := vs.foldl (fun m v => max m v.deep) 0
theorem dpV_snoc (vs : List Vt) (v : Vt) : dpV (vs ++ [v]) = max (dpV vs) v.deep := by simp [dpV]
theorem dpV_le {vs : List Vt} (h : ∀ v ∈ vs, v.deep ≤ 1000000) : dpV vs ≤ 1000000 := by
  unfold dpV
  have : ∀ (l : List Vt) (m : Nat), m ≤ 1000000 → (∀ v ∈ l, v.deep ≤ 1000000) → l.foldl (fun m v => max m v.deep) m ≤ 1000000 := by
    intro l
    induction l with
    | nil => intro m hm _; exact hm
    | cons a r ih => intro m hm hl; exact ih _ (by have := hl a (by simp); show max m a.deep ≤ 1000000; omega) (fun v hv => hl v (by simp [hv]))
  exact this vs 0 (by omega) h
def Vt.occ (v : Vt) : Nat := v.nk + (if v.x.has then 1 else 0)
def Vt.fine (v : Vt) : Bool := decide (v.way.length ≤ 65535) && (v.x.leaf || decide (2 ≤ v.occ))
def Vt.kind (v : Vt) : Int := if v.x.leaf then 1 else kindN v.nk
theorem round_deep {l m : Nat} : (Fence.wide.inRound l).depth.isSome = true → 1 ≤ m := fun h => by simp [Fence.wide, Fence.inRound] at h
/-- A tree that is not too great to be gone through. -/
def Fits (t : Option (Nn × Fo)) : Prop := (∀ v ∈ otvis t, v.way.length ≤ 1000000 ∧ v.deep ≤ 1000000) ∧ (otvis t).length ≤ 16777216

theorem below_put {n₀ : Nat} {w W : World} (h : Below n₀ w W) {D : Nat} {o o' : Obj} (hD : n₀ ≤ D) (hK : W.heap[D]? = some o) : Below n₀ w (W.putObj D o') := by
  have hlt := (Array.getElem?_eq_some_iff.1 hK).1
  exact h.trans ((Kept.put_obj W D o').below (by omega) (fun i e => by omega))
theorem Blk.put_far {W : World} {g D : Nat} {cs : Array Value} {o o' : Obj} (h : Blk W g cs) (hK : W.heap[D]? = some o) (ho : o.isCells = false) : Blk (W.putObj D o') g cs := by
  obtain ⟨t, h⟩ := h
  refine ⟨t, (World.putObj_heap_other (fun e => ?_)).trans h⟩
  subst e
  rw [h] at hK
  cases hK
  cases ho
theorem Still.others {w w' : World} (h : Still w w') : KeepsOthers w w' := by
  obtain ⟨k, rfl⟩ := h
  exact ⟨Nat.le_refl _, fun _ _ h _ => h⟩
theorem KeepsOthers.of_below {w w' : World} (h : Below w.heap.size w w') : KeepsOthers w w' := ⟨h.size, fun k _ h1 _ => (h.block k (Array.getElem?_eq_some_iff.1 h1).1).trans h1⟩
theorem kind_vt (v : Vt) (ek : List Ent) (h : ek.length = v.nk) : kindD (v.x.nd ek) = v.kind := by unfold kindD Vt.kind; rw [← h]
theorem occ_vt (v : Vt) (ek : List Ent) (h : ek.length = v.nk) : occN (v.x.nd ek) = (v.occ : Int) := by
  show (if v.x.has = true then (ek.length : Int) + 1 else (ek.length : Int)) = _
  unfold Vt.occ
  rw [← h]
  cases v.x.has <;> simp
def listV (vs : List Vt) : List (List UInt8 × List Value) := vs.filterMap fun v => if v.x.has then some (v.way, [.int .u64 v.x.val]) else none
theorem listV_snoc (vs : List Vt) (v : Vt) : listV (vs ++ [v]) = if v.x.has then listV vs ++ [(v.way, [.int .u64 v.x.val])] else listV vs := by
  unfold listV
  rw [List.filterMap_append]
  cases h : v.x.has <;> simp [h]
def pointV (vs : List Vt) : List (List UInt8 × List Value) := vs.filterMap fun v => if v.x.leaf then none else some (v.way, [.int .i64 v.kind, .bool v.x.has])
theorem pointV_snoc (vs : List Vt) (v : Vt) : pointV (vs ++ [v]) = if v.x.leaf then pointV vs else pointV vs ++ [(v.way, [.int .i64 v.kind, .bool v.x.has])] := by
  unfold pointV
  rw [List.filterMap_append]
  cases h : v.x.leaf <;> simp [h]
theorem lit_cells {w : World} {g : Nat} {cs : List Value} (h : Blk w g cs.toArray) : ∀ (j : Nat) (u : Value), cs[j]? = some u → w.cell? ((⟨g, 0, none⟩ : Addr).add j) = some u := fun j u hj => by
  have e : (⟨g, 0, none⟩ : Addr).add j = ⟨g, j, none⟩ := by
    unfold Addr.add
    split
    · rename_i h0; rw [h0]
    · simp
  rw [e, h.cell j]
  simpa using hj
set_option maxRecDepth 100000 in
theorem info_pair : (Tryz.prog.info? 34).map (fun i => (i.zero, i.size, i.bytes)) = some (some (.agg #[.slice none 0 0, .int .u64 0]), 2, 32) := by kernel_rfl
/-- bytes.Clone, with the room that stands behind. -/
def CrPost (w : World) (l : List UInt8) (e : Ending) (w' : World) : Prop :=
  ∃ A c, e = .returned (.slice A l.length c) ∧ Byt w' w'.heap.size A l.length l ∧ (∀ i, Pb A l i → w.heap.size ≤ i) ∧ Below w.heap.size w w' ∧ l.length ≤ c
set_option maxRecDepth 100000 in
set_option maxHeartbeats 400000 in
theorem bcloner_any (A : Option Addr) (n c B : Nat) (l : List UInt8) (w : World) (ha : Byt w B A n l) (hB : B ≤ w.heap.size) (hn : n ≤ 140737488355328) : Calls Tryz.prog 33 #[.slice A n c] w (CrPost w l) := by
  cases A with
  | none =>
    have h0 : l = [] := by
      cases l with
      | nil => rfl
      | cons u l => obtain ⟨ad, e, _⟩ := ha.2.2 (by have := ha.1; simp at this; omega); cases e
    subst h0
    clear ha
    have hnil := nilb_yes n c
    go_enter Tryz.func33, Tryz.ntmps33
    go_wp2
    go_ret
    exact ⟨none, 0, rfl, Byt.none_, fun i q => absurd rfl q.1, Below.refl _ _, Nat.le_refl _⟩
  | some ad =>
    have HA := Lib.hid ha
    clear ha
    have hnil := nilb_no ad n c
    go_enter Tryz.func33, Tryz.ntmps33
    go_wp2_with (at_builtin
                 refine wpList_append_byt _ rfl (.tmp 5) (.tmp 6) _ rfl Tryz.underlying23 info_u8 w.heap.size (.slice (some ⟨w.heap.size, 0, none⟩) 0 0) 0 [] rfl (Mine.made w _ _ 0 (by unfold maxLen; omega) (Nat.le_refl _)) B (some ad) n c l rfl (HA.out.alloc hB _) (by omega) (by simp) ?_
                 intro v2 w2 hm2 hg2 _
                 rw [Nat.zero_add, List.nil_append] at hm2
                 have HM2 := Lib.hid hm2
                 have C2 := Lib.hid (((Below.refl w.heap.size w).alloc (Nat.le_refl _) _).grown hg2 (by simp) (by simp [Value.ownBlock]))
                 clear hm2 hg2)
    go_wp2
    go_ret
    obtain ⟨A2, c2, rfl⟩ := HM2.out.slice
    have hl := HA.out.1
    subst hl
    refine ⟨A2, c2, rfl, HM2.out.byt, fun i hi => ?_, C2.out, HM2.out.room⟩
    obtain ⟨hne, ad2, rfl, rfl⟩ := hi
    obtain ⟨g2, cap, hv, hlo, _⟩ := World.ownsRow.form HM2.out (List.length_pos_iff.2 hne)
    injection hv with hv
    injection hv with hv
    subst hv
    exact hlo
theorem kindN_ne (n : Nat) : ¬ (kindN n : Int) = 1 := by unfold kindN; split <;> (try split) <;> (try split) <;> omega

set_option maxRecDepth 100000 in
set_option maxHeartbeats 2000000 in
theorem cdepth_any (t : Option (Nn × Fo)) (p : Option Addr) (w : World) (ht : OTre w (· < w.heap.size) t p) (hf : Fits t) :
    Calls Tryz.prog 22 #[.pointer p] w fun e w' => e = .returned (.int .i64 (dpV (otvis t) : Int)) ∧ Below w.heap.size w w' := by
  obtain ⟨n, hn1⟩ : ∃ n : Nat, 1 ≤ n := ⟨1, Nat.le_refl _⟩
  have HN1 := Lib.hid hn1
  clear hn1
  refine (callsIn_wide (n := n)).1 ?_
  refine callsIn_of_wp_marks Tryz.func22 rfl trivial ?_
  simp only [Tryz.ntmps22, List.size_toArray, List.length_cons, List.length_nil, Nat.reduceAdd, Nat.reduceSub, Array.replicate_succ, Array.replicate_zero, List.push_toArray, List.append_toArray, List.nil_append, List.cons_append]
  obtain ⟨W0, hW0⟩ : ∃ W, w.alloc (.cells #[.int .i64 0] 3) = W := ⟨_, rfl⟩
  have b0 : Below w.heap.size w W0 := by rw [← hW0]; exact (Below.refl _ _).alloc (Nat.le_refl _) _
  have s0 : W0.heap.size = w.heap.size + 1 := by rw [← hW0]; simp
  have c0 : Blk W0 w.heap.size #[.int .i64 0] := by rw [← hW0]; exact Blk.new w 3 _
  have H1 := Lib.hid (stops_any p W0)
  have HW0 := Lib.hid hW0
  clear hW0
  gi_wp2_with fail
  rw [HW0.out]
  refine ⟨trivial, wide_deep, ?_⟩
  refine (callsIn_wide.2 H1.out).mono ?_
  rintro e W1 ⟨rfl, rfl⟩
  gi_wp2_with fail
  obtain ⟨W2, hW2⟩ : ∃ W, W0.alloc (.cells #[.pointer p] 27) = W := ⟨_, rfl⟩
  have b2 : Below W0.heap.size W0 W2 := by rw [← hW2]; exact (Below.refl _ _).alloc (Nat.le_refl _) _
  have s2 : W2.heap.size = w.heap.size + 2 := by rw [← hW2]; simp; omega
  have bw : Below w.heap.size w W2 := b0.trans (b2.mono (by omega))
  have c2 : W2.cell? ⟨w.heap.size + 1, 0, none⟩ = some (.pointer p) := by rw [← hW2, ← s0]; exact (Blk.new W0 27 #[.pointer p]).cell 0
  have tw : OTre W2 (· < w.heap.size) t p := by
    cases t with
    | none => exact ht
    | some xk => obtain ⟨g, e, h⟩ := ht; exact ⟨g, e, h.below (fun _ q => q) bw⟩
  have hseq := stops1_seqs (n₀ := w.heap.size) (Bx := w.heap.size + 1) t (by omega) c2 tw hf.1
  have cI := c0.below b2 (by omega)
  rw [hW2]
  refine range_mine (n₀ := w.heap.size) HN1.out (gf := 56) (lb := #[.pointer (some ⟨w.heap.size + 1, 0, none⟩)]) rfl (enters_of Tryz.func56 (by kernel_rfl) rfl) (by omega) hseq
    (fun pre N W => Below w.heap.size w W ∧ Blk W w.heap.size #[.int .i64 (dpV pre : Int)] ∧ ¬ N w.heap.size) (fun _ _ => False) ?hI (fun _ _ _ q _ => q) ⟨bw, cI, fun q => q⟩
    (fun bx gg A k c d => { tmps := #[.pointer p, undef, .int .i64 0, .pointer (some ⟨w.heap.size, 0, none⟩), .pointer (some ⟨bx, 0, none⟩), .pointer p, .func (.func 56) #[] #[.pointer (some ⟨w.heap.size + 1, 0, none⟩)], visV gg A k c d, undef, undef, undef, undef, undef], defers := [] }) ?assign ?body ?done ?stop
  case hI =>
    rintro pre N N' A B ⟨i1, i2, i3⟩ hs hN
    refine ⟨i1.trans hs.below, i2.step hs i3, fun q => ?_⟩
    rcases hN _ q with q | q
    · exact i3 q
    · have := i2.lt; omega
  case assign =>
    intro l gg A k c d W K hK
    gi_wp2_with fail
    exact hK _ (Blk.new _ _ _) ((Below.refl _ _).alloc (Nat.le_refl _) _) (KeepsOthers.alloc _ _) (by simp)
  case body =>
    rintro l pre v N bx gg A k c U ⟨i1, i2, i3⟩ ⟨post, hpost⟩ hN hnU hv hb hbx hNx
    have e2 : U.cell? ⟨bx, 2, none⟩ = some (.int .i64 (v.deep : Int)) := hb.cell 2
    have c6 : U.cell? ⟨w.heap.size, 0, none⟩ = some (.int .i64 (dpV pre : Int)) := i2.cell 0
    have z6 : U.frozen? ⟨w.heap.size, 0, none⟩ = false := i2.fz 0
    have I1 := Lib.hid i1
    have I2 := Lib.hid i2
    have SN := Lib.hid (dpV_snoc pre v)
    replace i3 : ¬ N w.heap.size := fun q => i3 (.inl q)
    clear hv hb i1 i2 hpost hseq tw
    obtain ⟨dq, hdq⟩ : ∃ dq, dpV (pre ++ [v]) = dq := ⟨_, rfl⟩
    have DQ := Lib.hid hdq
    rw [hdq] at SN
    clear hdq
    generalize dpV pre = d1 at c6 I2 SN
    generalize v.deep = d2 at e2 SN
    have HQ := Lib.hid (fun (z : Int) (hz : z = (dq : Int)) => show KeepsOthers U (U.setCell ⟨w.heap.size, 0, none⟩ (.int .i64 z)) ∧ Kept (fun i => w.heap.size ≤ i ∧ ¬ N i) U (U.setCell ⟨w.heap.size, 0, none⟩ (.int .i64 z)) ∧ Below w.heap.size w (U.setCell ⟨w.heap.size, 0, none⟩ (.int .i64 z)) ∧ Blk (U.setCell ⟨w.heap.size, 0, none⟩ (.int .i64 z)) w.heap.size #[.int .i64 (dq : Int)] ∧ ¬ N w.heap.size from by
      subst hz
      exact ⟨KeepsOthers.setCell _ _ _, Kept.set_ _ _ _ ⟨Nat.le_refl _, i3⟩, I1.out.trans ((Below.refl _ _).setCell (p := ⟨w.heap.size, 0, none⟩) (Nat.le_refl _) _), by simpa using I2.out.set_ 0 (.int .i64 (dq : Int)), i3⟩)
    gi_wp2
    all_goals
      refine ⟨(HQ.out _ ?_).1, (HQ.out _ ?_).2.1, (HQ.out _ ?_).2.2.1, ?_, i3⟩
      iterate 3 (rw [SN.out]; omega)
      rw [show dpV (pre ++ [v]) = dq from DQ.out]
      exact (HQ.out _ (by rw [SN.out]; omega)).2.2.2.1
  case done =>
    rintro D N W hD ⟨i1, i2, i3⟩ hK
    have c6 : W.cell? ⟨w.heap.size, 0, none⟩ = some (.int .i64 (dpV (otvis t) : Int)) := i2.cell 0
    have HE := Lib.hid (below_put i1 (o' := .deferred none) (by omega) hK)
    have HK := Lib.hid hK
    clear i1 i2 hK hseq tw
    gi_wp2
    refine ⟨by simp, .inl ⟨_, _, rfl, run_takeDeferred HK.out, ?_⟩⟩
    exact ⟨_, results_tmp rfl _ _ _, rfl, HE.out⟩
  case stop =>
    rintro D c W hD h hK
    exact h.elim

set_option maxRecDepth 100000 in
set_option maxHeartbeats 2000000 in
theorem clist_any (t : Option (Nn × Fo)) (p : Option Addr) (w : World) (ht : OTre w (· < w.heap.size) t p) (hf : Fits t) :
    Calls Tryz.prog 27 #[.pointer p] w fun e w' => ∃ A c ys, e = .returned (.slice A ys.length c) ∧ ys.length ≤ c ∧ Kys w' w'.heap.size A 2 ys ∧ ys.map (fun y => (y.key, y.more)) = listV (otvis t) ∧ Below w.heap.size w w' := by
  obtain ⟨n, hn1⟩ : ∃ n : Nat, 1 ≤ n := ⟨1, Nat.le_refl _⟩
  have HN1 := Lib.hid hn1
  clear hn1
  refine (callsIn_wide (n := n)).1 ?_
  refine callsIn_of_wp_marks Tryz.func27 rfl trivial ?_
  simp only [Tryz.ntmps27, List.size_toArray, List.length_cons, List.length_nil, Nat.reduceAdd, Nat.reduceSub, Array.replicate_succ, Array.replicate_zero, List.push_toArray, List.append_toArray, List.nil_append, List.cons_append]
  obtain ⟨W0, hW0⟩ : ∃ W, w.alloc (.cells #[.slice none 0 0] 40) = W := ⟨_, rfl⟩
  have b0 : Below w.heap.size w W0 := by rw [← hW0]; exact (Below.refl _ _).alloc (Nat.le_refl _) _
  have s0 : W0.heap.size = w.heap.size + 1 := by rw [← hW0]; simp
  have c0 : Blk W0 w.heap.size #[.slice none 0 0] := by rw [← hW0]; exact Blk.new w 40 _
  have H1 := Lib.hid (stops_any p W0)
  have HW0 := Lib.hid hW0
  clear hW0
  gi_wp2_with fail
  rw [HW0.out]
  refine ⟨trivial, wide_deep, ?_⟩
  refine (callsIn_wide.2 H1.out).mono ?_
  rintro e W1 ⟨rfl, rfl⟩
  gi_wp2_with fail
  obtain ⟨W2, hW2⟩ : ∃ W, W0.alloc (.cells #[.pointer p] 27) = W := ⟨_, rfl⟩
  have b2 : Below W0.heap.size W0 W2 := by rw [← hW2]; exact (Below.refl _ _).alloc (Nat.le_refl _) _
  have s2 : W2.heap.size = w.heap.size + 2 := by rw [← hW2]; simp; omega
  have bw : Below w.heap.size w W2 := b0.trans (b2.mono (by omega))
  have c2 : W2.cell? ⟨w.heap.size + 1, 0, none⟩ = some (.pointer p) := by rw [← hW2, ← s0]; exact (Blk.new W0 27 #[.pointer p]).cell 0
  have tw : OTre W2 (· < w.heap.size) t p := by
    cases t with
    | none => exact ht
    | some xk => obtain ⟨g, e, h⟩ := ht; exact ⟨g, e, h.below (fun _ q => q) bw⟩
  have hseq := stops1_seqs (n₀ := w.heap.size) (Bx := w.heap.size + 1) t (by omega) c2 tw hf.1
  have cI := c0.below b2 (by omega)
  rw [hW2]
  refine range_mine (n₀ := w.heap.size) HN1.out (gf := 56) (lb := #[.pointer (some ⟨w.heap.size + 1, 0, none⟩)]) rfl (enters_of Tryz.func56 (by kernel_rfl) rfl) (by omega) hseq
    (fun pre N W => Below w.heap.size w W ∧ ∃ ys, Krow w.heap.size W N w.heap.size 34 2 ys ∧ ys.map (fun y => (y.key, y.more)) = listV pre) (fun _ _ => False) ?hI (fun _ _ _ q _ => q) ⟨bw, [], Krow.nil _ _ cI (fun q => q) (Nat.le_refl _), rfl⟩
    (fun bx gg A k c d => { tmps := #[.pointer p, undef, .slice none 0 0, .pointer (some ⟨w.heap.size, 0, none⟩), .pointer (some ⟨bx, 0, none⟩), undef, undef, .pointer p, .func (.func 56) #[] #[.pointer (some ⟨w.heap.size + 1, 0, none⟩)], visV gg A k c d, undef, undef, undef, undef, undef, undef, undef, undef, undef, undef, undef, undef, undef, undef, undef, undef], defers := [] }) ?assign ?body ?done ?stop
  case hI =>
    rintro pre N N' A B ⟨i1, ys, i2, i3⟩ hs hN
    exact ⟨i1.trans hs.below, ys, i2.step hs hN, i3⟩
  case assign =>
    intro l gg A k c d W K hK
    gi_wp2_with fail
    exact hK _ (Blk.new _ _ _) ((Below.refl _ _).alloc (Nat.le_refl _) _) (KeepsOthers.alloc _ _) (by simp)
  case body =>
    rintro l pre v N bx gg A k c U ⟨i1, ys, i2, i3⟩ ⟨post, hpost⟩ hN hnU hv hb hbx hNx
    obtain ⟨be, A', ek, t1, _, _⟩ := hv.nod
    have e0 : U.cell? ⟨bx, 0, none⟩ = some (.pointer (some ⟨gg, 0, none⟩)) := hb.cell 0
    have H := Lib.hid (show Calls Tryz.prog 45 #[.pointer (some ⟨gg, 0, none⟩)] U fun e w' => e = .returned (.tuple #[.int .u64 v.x.val, .bool v.x.has]) ∧ Still U w' from val_any t1)
    have hwl : v.way.length ≤ 1000000 := (hf.1 v (by rw [hpost]; simp)).1
    have hys : ys.length ≤ pre.length := by
      have := congrArg List.length i3
      rw [List.length_map] at this
      rw [this]
      exact List.length_filterMap_le _ _
    have hpl : pre.length + 1 ≤ 16777216 := by have h2 := hf.2; rw [hpost] at h2; simp at h2; omega
    obtain rfl : v.way.length = k := hv.byt.1
    have hbn0 : bx < U.heap.size := hb.lt
    have hNl : ∀ i, (N i ∨ i = bx) → i < U.heap.size := fun i q => q.elim (fun q => (hN i q).2) (fun e => e ▸ hbn0)
    have hbC : ¬ bx = w.heap.size := fun e => i2.nC (.inr e.symm)
    obtain ⟨A0, c0', r1, r2, r3⟩ := i2.row
    have ES0 : U.cell? ⟨bx, 0, none⟩ = some (.pointer (some ⟨gg, 0, none⟩)) ∧ U.cell? ⟨bx, 1, none⟩ = some (.slice A v.way.length c) := ⟨hb.cell 0, hb.cell 1⟩
    have HN2 := Lib.hid (show listV (pre ++ [v]) = if v.x.has then listV pre ++ [(v.way, [.int .u64 v.x.val])] else listV pre from listV_snoc pre v)
    have HX := Lib.hid (fun (U1 : World) (hs : Still U U1) => show KeepsOthers U U1 ∧ Kept (fun i => w.heap.size ≤ i ∧ ¬ N i) U U1 ∧ Below w.heap.size w U1 ∧ ∃ ys, Krow w.heap.size U1 N w.heap.size 34 2 ys ∧ ys.map (fun y => (y.key, y.more)) = listV pre from
      ⟨hs.others, Kept.still hs, i1.trans (hs.below _), ys, i2.step (Stp1.of_kept (Kept.still hs) (fun i q => q.elim (fun q => (hN i q).1) (fun e => e ▸ hbx)) hnU) (fun i q => .inl (.inl q)), i3⟩)
    have HW := Lib.hid (fun (U1 : World) (hs : Still U U1) => show (U1.heap.size = U.heap.size) ∧ Krow w.heap.size U1 (fun i => N i ∨ i = bx) w.heap.size 34 2 ys ∧ (U1.cell? ⟨bx, 0, none⟩ = some (.pointer (some ⟨gg, 0, none⟩)) ∧ U1.cell? ⟨bx, 1, none⟩ = some (.slice A v.way.length c)) ∧ Byt U1 U1.heap.size A v.way.length v.way ∧ U1.cell? ⟨w.heap.size, 0, none⟩ = some (.slice A0 ys.length c0') ∧ MineR U1 w.heap.size 34 2 (.slice A0 ys.length c0') ys.length (ys.map Ky.cells) from by
      obtain ⟨q, rfl⟩ := hs
      exact ⟨rfl, i2.step (Stp1.of_kept (Kept.still ⟨q, rfl⟩) (fun i q => q.elim (fun q => (hN i q).1) (fun e => e ▸ hbx)) hnU) (fun i q => .inl q), ES0, hv.byt, r1.cell 0, r2⟩)
    have HB1 := Lib.hid (Below.trans i1 (Below.refl w.heap.size U))
    have I3 := Lib.hid i3
    have HNU := Lib.hid hnU
    have HNN := Lib.hid hN
    have HNL := Lib.hid hNl
    have HYS := Lib.hid (show ys.length + 1 ≤ 16777216 by omega)
    clear t1 i1 i2 i3 r1 r2 r3 ES0 hv hb hpost hseq tw hN hNl hys hpl
    generalize v.x.has = hh at H HN2
    obtain ⟨vv, hvv⟩ : ∃ vv, v.x.val = vv := ⟨_, rfl⟩
    rw [hvv] at H HN2
    clear hvv
    gi_wp2_with fail
    refine ⟨trivial, round_deep (l := l), ?_⟩
    refine (CallsIn.inRound l (callsIn_wide.2 H.out)).mono ?_
    rintro e U1 ⟨rfl, hs⟩
    have HS1 := Lib.hid hs
    obtain ⟨y1, y2, y3, y4, y5, y6⟩ := HW.out U1 hs
    obtain ⟨x1, x2, x3, x4⟩ := HX.out U1 hs
    have X1 := Lib.hid x1
    have X2 := Lib.hid x2
    have X3 := Lib.hid x3
    have X4 := Lib.hid x4
    have K2 := Lib.hid y2
    have ES := Lib.hid y3
    have hbn : bx < U1.heap.size := by omega
    have KP := Lib.hid (fun (W' : World) (hb : Below U1.heap.size U1 W') => show W'.cell? ⟨bx, 0, none⟩ = some (.pointer (some ⟨gg, 0, none⟩)) ∧ W'.cell? ⟨bx, 1, none⟩ = some (.slice A v.way.length c) from ⟨(hb.cell (p := ⟨bx, 0, none⟩) hbn).trans y3.1, (hb.cell (p := ⟨bx, 1, none⟩) hbn).trans y3.2⟩)
    have KC := Lib.hid (fun (W' : World) (hb : Below U1.heap.size U1 W') => show W'.cell? ⟨w.heap.size, 0, none⟩ = some (.slice A0 ys.length c0') from (hb.cell (p := ⟨w.heap.size, 0, none⟩) (lt_cell y5)).trans y5)
    have HC := Lib.hid (fun (W' : World) (hb : Below U1.heap.size U1 W') => bcloner_any A v.way.length c _ v.way W' ((y4.below hb).more hb.size) (Nat.le_refl _) (by omega))
    have MR := Lib.hid (fun (W' : World) (hb : Below U1.heap.size U1 W') => show MineR W' w.heap.size 34 2 (.slice A0 ys.length c0') ys.length (ys.map Ky.cells) from y6.below hb (fun g hg => (y6.lt g hg).2))
    have KM := Lib.hid (fun (A2 : Option Addr) (c2 : Nat) (U3 U4 : World) (v3 : Value) (hb : Below U1.heap.size U1 U3) (z1 : Byt U3 U3.heap.size A2 v.way.length v.way) (z2 : ∀ i, Pb A2 v.way i → U1.heap.size ≤ i) (z4 : v.way.length ≤ c2) (m3 : MineR U4 w.heap.size 34 2 v3 (ys.length + 1) (ys.map Ky.cells ++ [[.slice A2 v.way.length c2, .int .u64 vv]])) (g3 : U3.grownBy U4 (Value.slice A0 ys.length c0').ownBlock) (o3 : v3.ownBlock = (Value.slice A0 ys.length c0').ownBlock ∨ v3.ownBlock = some U3.heap.size) => Krow.more y2 hb (fun i q => by have := HNL.out i q; omega) ⟨A2, c2, v.way, [.int .u64 vv]⟩ z1 z2 z4 y5 m3 g3 o3)
    have HNU1 := Lib.hid (show w.heap.size ≤ U1.heap.size by omega)
    clear hs y1 y2 y3 y4 y5 y6 x1 x2 x3 x4 H HW HX HNU
    cases hh with
    | false =>
      gi_wp2
      exact ⟨X1.out, X2.out, X3.out, by obtain ⟨ys', q1, q2⟩ := X4.out; exact ⟨ys', q1, by rw [HN2.out]; exact q2⟩⟩
    | true =>
      gi_wp2_with fail
      refine region_round (fun w' => w'.cell? ⟨bx, 0, none⟩ = some (.pointer (some ⟨gg, 0, none⟩)) ∧ w'.cell? ⟨bx, 1, none⟩ = some (.slice A v.way.length c)) (by kernel_rfl) (fun ⟨_, _, h⟩ => h) (noDefer_of (by kernel_rfl)) (KP.out _ (Below.refl U1.heap.size U1).drew) (fun hHeld => ?_)
      refine wpAnyH_take (i := 1) (oi := { dst := some 18, op := Op.fieldAddr 72 (Operand.tmp 4) 1, type := 0, pos := "canon.go:45", after := #[], guard := none }) (v := ?v1) rfl (by kernel_rfl) (by kernel_rfl) (by kernel_rfl) (fun _ _ _ h => h) (Or.inl ⟨by rfl, ?hy1⟩) hHeld ?rest1
      case hy1 => (intro w' hSw; (try dsimp only at hSw); go_simp; (try with_reducible rfl))
      try simp only [Act.put, List.setIfInBounds_toArray, List.set_cons_zero, List.set_cons_succ]
      refine wpAnyH_take (i := 2) (oi := { dst := some 19, op := Op.load 23 (Operand.tmp 18), type := 23, pos := "canon.go:45", after := #[{ on := 1, ground := Ground.data }], guard := none }) (v := ?v2) rfl (by kernel_rfl) (by kernel_rfl) (by kernel_rfl) (fun _ _ _ h => h) (Or.inl ⟨by rfl, ?hy2⟩) hHeld ?rest2
      case hy2 => (intro w' hSw; (try dsimp only at hSw); go_simp; (try with_reducible rfl))
      try simp only [Act.put, List.setIfInBounds_toArray, List.set_cons_zero, List.set_cons_succ]
      refine wpAnyH_take (i := 4) (oi := { dst := some 21, op := Op.move (Operand.tmp 5), type := 29, pos := "canon.go:45", after := #[], guard := none }) (v := ?v3) rfl (by kernel_rfl) (by kernel_rfl) (by kernel_rfl) (fun _ _ _ h => h) (Or.inl ⟨by rfl, ?hy3⟩) hHeld ?rest3
      case hy3 => (intro w' hSw; (try dsimp only at hSw); go_simp; (try with_reducible rfl))
      try simp only [Act.put, List.setIfInBounds_toArray, List.set_cons_zero, List.set_cons_succ]
      refine wpAnyH_ready (rs := [0, 3]) (by kernel_rfl) (by simp) (AllReadyH.cons (o := { dst := some 17, op := Op.load 40 (Operand.tmp 3), type := 40, pos := "canon.go:45", after := #[], guard := none }) rfl (fun K hK => ?_) (AllReadyH.cons (o := { dst := some 20, op := Op.call { callee := Callee.value (Operand.func 33), args := #[Operand.tmp 19], argTypes := #[23] }, type := 23, pos := "canon.go:45", after := #[{ on := 2, ground := Ground.data }], guard := none }) rfl (fun K hK => ?_) AllReadyH.nil))
      · have cz := KC.out _ ((Below.refl U1.heap.size U1).drew)
        go_simp
        refine hK.out _ _ (KP.out _ (Below.refl U1.heap.size U1).drew) (fun hHeld' => ?_)
        clear hK K hHeld
        have hHeld := hHeld'
        clear hHeld'
        try simp only [Act.put, List.setIfInBounds_toArray, List.set_cons_zero, List.set_cons_succ]
        refine wpAnyH_ready (rs := [3]) (by kernel_rfl) (by simp) (AllReadyH.cons (o := { dst := some 20, op := Op.call { callee := Callee.value (Operand.func 33), args := #[Operand.tmp 19], argTypes := #[23] }, type := 23, pos := "canon.go:45", after := #[{ on := 2, ground := Ground.data }], guard := none }) rfl (fun K hK => ?_) AllReadyH.nil)
        go_simp
        (with_reducible refine (HC.out _ (Below.refl U1.heap.size U1).drew).mono ?_)
        rintro e U2 ⟨A2, c2, rfl, z1, z2, z3, z4⟩
        have Z1 := Lib.hid z1
        have Z2 := Lib.hid z2
        have Z3 := Lib.hid (((Below.refl U1.heap.size U1).drew).trans (z3.mono ((Below.refl U1.heap.size U1).drew).size))
        have Z4 := Lib.hid z4
        clear z1 z2 z3 z4
        go_wp2_with fail
        refine hK.out _ _ (KP.out _ Z3.out) (fun hHeld' => ?_)
        clear hK K hHeld
        have hHeld := hHeld'
        clear hHeld'
        try simp only [Act.put, List.setIfInBounds_toArray, List.set_cons_zero, List.set_cons_succ]
        refine wpAnyH_take (i := 5) (oi := { dst := some 22, op := Op.build 34 #[(0, Operand.tmp 20), (1, Operand.tmp 21)], type := 34, pos := "canon.go:45", after := #[{ on := 3, ground := Ground.data }, { on := 4, ground := Ground.data }], guard := none }) (v := ?v4) rfl (by kernel_rfl) (by kernel_rfl) (by kernel_rfl) (fun _ _ _ h => h) (Or.inl ⟨by rfl, ?hy4⟩) hHeld ?rest4
        case hy4 => (intro w' hSw; (try dsimp only at hSw); go_simp; (try with_reducible rfl))
        try simp only [Act.put, List.setIfInBounds_toArray, List.set_cons_zero, List.set_cons_succ]
        refine wpAnyH_ready (rs := [6]) (by kernel_rfl) (by simp) (AllReadyH.cons (o := { dst := some 23, op := Op.buildSlice 40 1 #[(0, Operand.tmp 22)], type := 40, pos := "canon.go:45", after := #[{ on := 5, ground := Ground.data }], guard := none }) rfl (fun K hK => ?_) AllReadyH.nil)
        go_simp
        obtain ⟨U3, hU3⟩ : ∃ W, U2.alloc (.cells #[.slice A2 v.way.length c2, .int .u64 vv] 34) = W := ⟨_, rfl⟩
        have B3 := Lib.hid (show Below U1.heap.size U1 U3 by rw [← hU3]; exact (Z3.out).alloc (Z3.out).size _)
        have LB := Lib.hid (show Blk U3 U2.heap.size #[.slice A2 v.way.length c2, .int .u64 vv] by rw [← hU3]; exact Blk.new _ _ _)
        have Z1' := Lib.hid (show Byt U3 U3.heap.size A2 v.way.length v.way by rw [← hU3]; exact (Byt.alloc (B := U2.heap.size) ((Z1.out).more (Nat.le_refl _)) (Nat.le_refl _) _).more (by simp))
        rw [hU3]
        clear hU3
        refine hK.out _ _ (KP.out _ B3.out) (fun hHeld' => ?_)
        clear hK K hHeld
        have hHeld := hHeld'
        clear hHeld'
        try simp only [Act.put, List.setIfInBounds_toArray, List.set_cons_zero, List.set_cons_succ]
        refine wpAnyH_ready (rs := [7]) (by kernel_rfl) (by simp) (AllReadyH.cons (o := { dst := some 24, op := Op.call { callee := Callee.builtin Builtin.append, args := #[Operand.tmp 17, Operand.tmp 23], argTypes := #[40, 40] }, type := 40, pos := "canon.go:45", after := #[{ on := 0, ground := Ground.data }, { on := 6, ground := Ground.data }, { on := 3, ground := Ground.chain }], guard := none }) rfl (fun K hK => ?_) AllReadyH.nil)
        rw [if_pos (by rfl)]
        refine wp_append_rws _ (.tmp 17) (.tmp 23) _ rfl Tryz.underlying40 info_pair (by rfl) (by decide) w.heap.size (.slice A0 ys.length c0') ys.length (ys.map Ky.cells) (by rfl) (MR.out _ B3.out) ⟨U2.heap.size, 0, none⟩ 1 [.slice A2 v.way.length c2, .int .u64 vv] (by rfl) (by rfl) (lit_cells LB.out) (by intro u hu; simp at hu; rcases hu with rfl | rfl <;> rfl) (by have := HYS.out; omega) (by have := HYS.out; unfold maxLen; omega) (by have := B3.out.size; have := HNU1.out; omega) ?_
        intro v3 U4 m3 g3 o3
        obtain ⟨A3, c3, rfl, _⟩ := m3.slice
        obtain ⟨x1, x2, x3, x4, x5, x6, x7⟩ := KM.out A2 c2 U3 U4 _ B3.out Z1'.out Z2.out Z4.out m3 g3 o3
        have E1 := Lib.hid x3
        have E2 := Lib.hid x4
        have E3 := Lib.hid x5
        have S4 := Lib.hid (show U4.cell? ⟨bx, 0, none⟩ = some (.pointer (some ⟨gg, 0, none⟩)) ∧ U4.cell? ⟨bx, 1, none⟩ = some (.slice A v.way.length c) from ⟨(x6.cell (p := ⟨bx, 0, none⟩) hbn (fun q => x7 _ q (.inr rfl))).trans ES.out.1, (x6.cell (p := ⟨bx, 1, none⟩) hbn (fun q => x7 _ q (.inr rfl))).trans ES.out.2⟩)
        have S6 := Lib.hid (show (U4.setCell ⟨w.heap.size, 0, none⟩ (.slice A3 (ys.length + 1) c3)).cell? ⟨bx, 0, none⟩ = some (.pointer (some ⟨gg, 0, none⟩)) ∧ (U4.setCell ⟨w.heap.size, 0, none⟩ (.slice A3 (ys.length + 1) c3)).cell? ⟨bx, 1, none⟩ = some (.slice A v.way.length c) from ⟨(World.cell?_setCell_far _ _ _ _ (fun e => hbC e.symm)).trans S4.out.1, (World.cell?_setCell_far _ _ _ _ (fun e => hbC e.symm)).trans S4.out.2⟩)
        have c4 := x1
        have z4 := x2
        clear m3 g3 o3 x1 x2 x3 x4 x5 x6 x7
        refine hK.out _ _ S4.out (fun hHeld' => ?_)
        clear hK K hHeld
        have hHeld := hHeld'
        clear hHeld'
        try simp only [Act.put, List.setIfInBounds_toArray, List.set_cons_zero, List.set_cons_succ]
        refine wpAnyH_ready (rs := [8]) (by kernel_rfl) (by simp) (AllReadyH.cons (o := { dst := none, op := Op.store 40 (Operand.tmp 3) (Operand.tmp 24), type := 0, pos := "canon.go:45", after := #[{ on := 7, ground := Ground.data }, { on := 7, ground := Ground.chain }, { on := 0, ground := Ground.phase }, { on := 1, ground := Ground.phase }, { on := 2, ground := Ground.phase }, { on := 3, ground := Ground.phase }, { on := 4, ground := Ground.phase }, { on := 5, ground := Ground.phase }, { on := 6, ground := Ground.phase }, { on := 7, ground := Ground.phase }], guard := none }) rfl (fun K hK => ?_) AllReadyH.nil)
        go_simp
        refine hK.out _ _ S6.out (fun hHeld' => ?_)
        clear hK K hHeld
        have hHeld := hHeld'
        clear hHeld'
        try simp only [Act.put, List.setIfInBounds_toArray, List.set_cons_zero, List.set_cons_succ]
        refine wpAnyH_done (by kernel_rfl) ?_ _
        gi_wp2
        exact ⟨X1.out.trans E3.out, X2.out.trans (E2.out.mono (fun i q => ⟨q.1, fun z => q.2 (.inl z)⟩)), X3.out.trans (E2.out.below HNU1.out (fun i q => q.1)), ys ++ [⟨A2, c2, v.way, [.int .u64 vv]⟩], E1.out.step (Stp1.of_kept (Kept.refl _ _) (fun i q => q.elim (fun q => (HNN.out i q).1) (fun e => e ▸ hbx)) (E2.out.size |> Nat.le_trans HNU1.out)) (fun i q => .inl (.inl q)), by rw [HN2.out, List.map_append, I3.out]; rfl⟩
      · go_simp
        (with_reducible refine (HC.out _ (Below.refl U1.heap.size U1).drew).mono ?_)
        rintro e U2 ⟨A2, c2, rfl, z1, z2, z3, z4⟩
        have Z1 := Lib.hid z1
        have Z2 := Lib.hid z2
        have Z3 := Lib.hid (((Below.refl U1.heap.size U1).drew).trans (z3.mono ((Below.refl U1.heap.size U1).drew).size))
        have Z4 := Lib.hid z4
        clear z1 z2 z3 z4
        go_wp2_with fail
        refine hK.out _ _ (KP.out _ Z3.out) (fun hHeld' => ?_)
        clear hK K hHeld
        have hHeld := hHeld'
        clear hHeld'
        try simp only [Act.put, List.setIfInBounds_toArray, List.set_cons_zero, List.set_cons_succ]
        refine wpAnyH_take (i := 5) (oi := { dst := some 22, op := Op.build 34 #[(0, Operand.tmp 20), (1, Operand.tmp 21)], type := 34, pos := "canon.go:45", after := #[{ on := 3, ground := Ground.data }, { on := 4, ground := Ground.data }], guard := none }) (v := ?v5) rfl (by kernel_rfl) (by kernel_rfl) (by kernel_rfl) (fun _ _ _ h => h) (Or.inl ⟨by rfl, ?hy5⟩) hHeld ?rest5
        case hy5 => (intro w' hSw; (try dsimp only at hSw); go_simp; (try with_reducible rfl))
        try simp only [Act.put, List.setIfInBounds_toArray, List.set_cons_zero, List.set_cons_succ]
        refine wpAnyH_ready (rs := [0, 6]) (by kernel_rfl) (by simp) (AllReadyH.cons (o := { dst := some 17, op := Op.load 40 (Operand.tmp 3), type := 40, pos := "canon.go:45", after := #[], guard := none }) rfl (fun K hK => ?_) (AllReadyH.cons (o := { dst := some 23, op := Op.buildSlice 40 1 #[(0, Operand.tmp 22)], type := 40, pos := "canon.go:45", after := #[{ on := 5, ground := Ground.data }], guard := none }) rfl (fun K hK => ?_) AllReadyH.nil))
        · have cz := KC.out _ (Z3.out)
          go_simp
          refine hK.out _ _ (KP.out _ Z3.out) (fun hHeld' => ?_)
          clear hK K hHeld
          have hHeld := hHeld'
          clear hHeld'
          try simp only [Act.put, List.setIfInBounds_toArray, List.set_cons_zero, List.set_cons_succ]
          refine wpAnyH_ready (rs := [6]) (by kernel_rfl) (by simp) (AllReadyH.cons (o := { dst := some 23, op := Op.buildSlice 40 1 #[(0, Operand.tmp 22)], type := 40, pos := "canon.go:45", after := #[{ on := 5, ground := Ground.data }], guard := none }) rfl (fun K hK => ?_) AllReadyH.nil)
          go_simp
          obtain ⟨U3, hU3⟩ : ∃ W, U2.alloc (.cells #[.slice A2 v.way.length c2, .int .u64 vv] 34) = W := ⟨_, rfl⟩
          have B3 := Lib.hid (show Below U1.heap.size U1 U3 by rw [← hU3]; exact (Z3.out).alloc (Z3.out).size _)
          have LB := Lib.hid (show Blk U3 U2.heap.size #[.slice A2 v.way.length c2, .int .u64 vv] by rw [← hU3]; exact Blk.new _ _ _)
          have Z1' := Lib.hid (show Byt U3 U3.heap.size A2 v.way.length v.way by rw [← hU3]; exact (Byt.alloc (B := U2.heap.size) ((Z1.out).more (Nat.le_refl _)) (Nat.le_refl _) _).more (by simp))
          rw [hU3]
          clear hU3
          refine hK.out _ _ (KP.out _ B3.out) (fun hHeld' => ?_)
          clear hK K hHeld
          have hHeld := hHeld'
          clear hHeld'
          try simp only [Act.put, List.setIfInBounds_toArray, List.set_cons_zero, List.set_cons_succ]
          refine wpAnyH_ready (rs := [7]) (by kernel_rfl) (by simp) (AllReadyH.cons (o := { dst := some 24, op := Op.call { callee := Callee.builtin Builtin.append, args := #[Operand.tmp 17, Operand.tmp 23], argTypes := #[40, 40] }, type := 40, pos := "canon.go:45", after := #[{ on := 0, ground := Ground.data }, { on := 6, ground := Ground.data }, { on := 3, ground := Ground.chain }], guard := none }) rfl (fun K hK => ?_) AllReadyH.nil)
          rw [if_pos (by rfl)]
          refine wp_append_rws _ (.tmp 17) (.tmp 23) _ rfl Tryz.underlying40 info_pair (by rfl) (by decide) w.heap.size (.slice A0 ys.length c0') ys.length (ys.map Ky.cells) (by rfl) (MR.out _ B3.out) ⟨U2.heap.size, 0, none⟩ 1 [.slice A2 v.way.length c2, .int .u64 vv] (by rfl) (by rfl) (lit_cells LB.out) (by intro u hu; simp at hu; rcases hu with rfl | rfl <;> rfl) (by have := HYS.out; omega) (by have := HYS.out; unfold maxLen; omega) (by have := B3.out.size; have := HNU1.out; omega) ?_
          intro v3 U4 m3 g3 o3
          obtain ⟨A3, c3, rfl, _⟩ := m3.slice
          obtain ⟨x1, x2, x3, x4, x5, x6, x7⟩ := KM.out A2 c2 U3 U4 _ B3.out Z1'.out Z2.out Z4.out m3 g3 o3
          have E1 := Lib.hid x3
          have E2 := Lib.hid x4
          have E3 := Lib.hid x5
          have S4 := Lib.hid (show U4.cell? ⟨bx, 0, none⟩ = some (.pointer (some ⟨gg, 0, none⟩)) ∧ U4.cell? ⟨bx, 1, none⟩ = some (.slice A v.way.length c) from ⟨(x6.cell (p := ⟨bx, 0, none⟩) hbn (fun q => x7 _ q (.inr rfl))).trans ES.out.1, (x6.cell (p := ⟨bx, 1, none⟩) hbn (fun q => x7 _ q (.inr rfl))).trans ES.out.2⟩)
          have S6 := Lib.hid (show (U4.setCell ⟨w.heap.size, 0, none⟩ (.slice A3 (ys.length + 1) c3)).cell? ⟨bx, 0, none⟩ = some (.pointer (some ⟨gg, 0, none⟩)) ∧ (U4.setCell ⟨w.heap.size, 0, none⟩ (.slice A3 (ys.length + 1) c3)).cell? ⟨bx, 1, none⟩ = some (.slice A v.way.length c) from ⟨(World.cell?_setCell_far _ _ _ _ (fun e => hbC e.symm)).trans S4.out.1, (World.cell?_setCell_far _ _ _ _ (fun e => hbC e.symm)).trans S4.out.2⟩)
          have c4 := x1
          have z4 := x2
          clear m3 g3 o3 x1 x2 x3 x4 x5 x6 x7
          refine hK.out _ _ S4.out (fun hHeld' => ?_)
          clear hK K hHeld
          have hHeld := hHeld'
          clear hHeld'
          try simp only [Act.put, List.setIfInBounds_toArray, List.set_cons_zero, List.set_cons_succ]
          refine wpAnyH_ready (rs := [8]) (by kernel_rfl) (by simp) (AllReadyH.cons (o := { dst := none, op := Op.store 40 (Operand.tmp 3) (Operand.tmp 24), type := 0, pos := "canon.go:45", after := #[{ on := 7, ground := Ground.data }, { on := 7, ground := Ground.chain }, { on := 0, ground := Ground.phase }, { on := 1, ground := Ground.phase }, { on := 2, ground := Ground.phase }, { on := 3, ground := Ground.phase }, { on := 4, ground := Ground.phase }, { on := 5, ground := Ground.phase }, { on := 6, ground := Ground.phase }, { on := 7, ground := Ground.phase }], guard := none }) rfl (fun K hK => ?_) AllReadyH.nil)
          go_simp
          refine hK.out _ _ S6.out (fun hHeld' => ?_)
          clear hK K hHeld
          have hHeld := hHeld'
          clear hHeld'
          try simp only [Act.put, List.setIfInBounds_toArray, List.set_cons_zero, List.set_cons_succ]
          refine wpAnyH_done (by kernel_rfl) ?_ _
          gi_wp2
          exact ⟨X1.out.trans E3.out, X2.out.trans (E2.out.mono (fun i q => ⟨q.1, fun z => q.2 (.inl z)⟩)), X3.out.trans (E2.out.below HNU1.out (fun i q => q.1)), ys ++ [⟨A2, c2, v.way, [.int .u64 vv]⟩], E1.out.step (Stp1.of_kept (Kept.refl _ _) (fun i q => q.elim (fun q => (HNN.out i q).1) (fun e => e ▸ hbx)) (E2.out.size |> Nat.le_trans HNU1.out)) (fun i q => .inl (.inl q)), by rw [HN2.out, List.map_append, I3.out]; rfl⟩
        · go_simp
          obtain ⟨U3, hU3⟩ : ∃ W, U2.alloc (.cells #[.slice A2 v.way.length c2, .int .u64 vv] 34) = W := ⟨_, rfl⟩
          have B3 := Lib.hid (show Below U1.heap.size U1 U3 by rw [← hU3]; exact (Z3.out).alloc (Z3.out).size _)
          have LB := Lib.hid (show Blk U3 U2.heap.size #[.slice A2 v.way.length c2, .int .u64 vv] by rw [← hU3]; exact Blk.new _ _ _)
          have Z1' := Lib.hid (show Byt U3 U3.heap.size A2 v.way.length v.way by rw [← hU3]; exact (Byt.alloc (B := U2.heap.size) ((Z1.out).more (Nat.le_refl _)) (Nat.le_refl _) _).more (by simp))
          rw [hU3]
          clear hU3
          refine hK.out _ _ (KP.out _ B3.out) (fun hHeld' => ?_)
          clear hK K hHeld
          have hHeld := hHeld'
          clear hHeld'
          try simp only [Act.put, List.setIfInBounds_toArray, List.set_cons_zero, List.set_cons_succ]
          refine wpAnyH_ready (rs := [0]) (by kernel_rfl) (by simp) (AllReadyH.cons (o := { dst := some 17, op := Op.load 40 (Operand.tmp 3), type := 40, pos := "canon.go:45", after := #[], guard := none }) rfl (fun K hK => ?_) AllReadyH.nil)
          have cz := KC.out _ (B3.out)
          go_simp
          refine hK.out _ _ (KP.out _ B3.out) (fun hHeld' => ?_)
          clear hK K hHeld
          have hHeld := hHeld'
          clear hHeld'
          try simp only [Act.put, List.setIfInBounds_toArray, List.set_cons_zero, List.set_cons_succ]
          refine wpAnyH_ready (rs := [7]) (by kernel_rfl) (by simp) (AllReadyH.cons (o := { dst := some 24, op := Op.call { callee := Callee.builtin Builtin.append, args := #[Operand.tmp 17, Operand.tmp 23], argTypes := #[40, 40] }, type := 40, pos := "canon.go:45", after := #[{ on := 0, ground := Ground.data }, { on := 6, ground := Ground.data }, { on := 3, ground := Ground.chain }], guard := none }) rfl (fun K hK => ?_) AllReadyH.nil)
          rw [if_pos (by rfl)]
          refine wp_append_rws _ (.tmp 17) (.tmp 23) _ rfl Tryz.underlying40 info_pair (by rfl) (by decide) w.heap.size (.slice A0 ys.length c0') ys.length (ys.map Ky.cells) (by rfl) (MR.out _ B3.out) ⟨U2.heap.size, 0, none⟩ 1 [.slice A2 v.way.length c2, .int .u64 vv] (by rfl) (by rfl) (lit_cells LB.out) (by intro u hu; simp at hu; rcases hu with rfl | rfl <;> rfl) (by have := HYS.out; omega) (by have := HYS.out; unfold maxLen; omega) (by have := B3.out.size; have := HNU1.out; omega) ?_
          intro v3 U4 m3 g3 o3
          obtain ⟨A3, c3, rfl, _⟩ := m3.slice
          obtain ⟨x1, x2, x3, x4, x5, x6, x7⟩ := KM.out A2 c2 U3 U4 _ B3.out Z1'.out Z2.out Z4.out m3 g3 o3
          have E1 := Lib.hid x3
          have E2 := Lib.hid x4
          have E3 := Lib.hid x5
          have S4 := Lib.hid (show U4.cell? ⟨bx, 0, none⟩ = some (.pointer (some ⟨gg, 0, none⟩)) ∧ U4.cell? ⟨bx, 1, none⟩ = some (.slice A v.way.length c) from ⟨(x6.cell (p := ⟨bx, 0, none⟩) hbn (fun q => x7 _ q (.inr rfl))).trans ES.out.1, (x6.cell (p := ⟨bx, 1, none⟩) hbn (fun q => x7 _ q (.inr rfl))).trans ES.out.2⟩)
          have S6 := Lib.hid (show (U4.setCell ⟨w.heap.size, 0, none⟩ (.slice A3 (ys.length + 1) c3)).cell? ⟨bx, 0, none⟩ = some (.pointer (some ⟨gg, 0, none⟩)) ∧ (U4.setCell ⟨w.heap.size, 0, none⟩ (.slice A3 (ys.length + 1) c3)).cell? ⟨bx, 1, none⟩ = some (.slice A v.way.length c) from ⟨(World.cell?_setCell_far _ _ _ _ (fun e => hbC e.symm)).trans S4.out.1, (World.cell?_setCell_far _ _ _ _ (fun e => hbC e.symm)).trans S4.out.2⟩)
          have c4 := x1
          have z4 := x2
          clear m3 g3 o3 x1 x2 x3 x4 x5 x6 x7
          refine hK.out _ _ S4.out (fun hHeld' => ?_)
          clear hK K hHeld
          have hHeld := hHeld'
          clear hHeld'
          try simp only [Act.put, List.setIfInBounds_toArray, List.set_cons_zero, List.set_cons_succ]
          refine wpAnyH_ready (rs := [8]) (by kernel_rfl) (by simp) (AllReadyH.cons (o := { dst := none, op := Op.store 40 (Operand.tmp 3) (Operand.tmp 24), type := 0, pos := "canon.go:45", after := #[{ on := 7, ground := Ground.data }, { on := 7, ground := Ground.chain }, { on := 0, ground := Ground.phase }, { on := 1, ground := Ground.phase }, { on := 2, ground := Ground.phase }, { on := 3, ground := Ground.phase }, { on := 4, ground := Ground.phase }, { on := 5, ground := Ground.phase }, { on := 6, ground := Ground.phase }, { on := 7, ground := Ground.phase }], guard := none }) rfl (fun K hK => ?_) AllReadyH.nil)
          go_simp
          refine hK.out _ _ S6.out (fun hHeld' => ?_)
          clear hK K hHeld
          have hHeld := hHeld'
          clear hHeld'
          try simp only [Act.put, List.setIfInBounds_toArray, List.set_cons_zero, List.set_cons_succ]
          refine wpAnyH_done (by kernel_rfl) ?_ _
          gi_wp2
          exact ⟨X1.out.trans E3.out, X2.out.trans (E2.out.mono (fun i q => ⟨q.1, fun z => q.2 (.inl z)⟩)), X3.out.trans (E2.out.below HNU1.out (fun i q => q.1)), ys ++ [⟨A2, c2, v.way, [.int .u64 vv]⟩], E1.out.step (Stp1.of_kept (Kept.refl _ _) (fun i q => q.elim (fun q => (HNN.out i q).1) (fun e => e ▸ hbx)) (E2.out.size |> Nat.le_trans HNU1.out)) (fun i q => .inl (.inl q)), by rw [HN2.out, List.map_append, I3.out]; rfl⟩
  case done =>
    rintro D N W hD ⟨i1, ys, i2, i3⟩ hK
    obtain ⟨A0, c0', r1', r2, r3⟩ := (i2.step (N' := fun i => N i) (Stp1.put_obj N (.deferred none) hK rfl (by omega)) (fun i q => .inl q)).kys
    have hCl : w.heap.size < W.heap.size := by obtain ⟨_, _, q, _⟩ := i2.row; exact q.lt
    have r1 : W.cell? ⟨w.heap.size, 0, none⟩ = some (.slice A0 ys.length c0') := ((Kept.put_obj W D (.deferred none)).cell (p := ⟨w.heap.size, 0, none⟩) hCl (fun e => by simp at e; omega)).symm.trans r1'
    have HE := Lib.hid (below_put i1 (o' := .deferred none) (by omega) hK)
    have HY := Lib.hid r3
    have HK := Lib.hid hK
    have I3 := Lib.hid i3
    clear i1 i2 i3 r1' r3 hK hseq tw
    gi_wp2
    refine ⟨by simp, .inl ⟨_, _, rfl, run_takeDeferred HK.out, ?_⟩⟩
    exact ⟨_, results_tmp rfl _ _ _, A0, c0', ys, rfl, r2, HY.out, I3.out, HE.out⟩
  case stop =>
    rintro D c W hD h hK
    exact h.elim

end Go.Proofs.YtfmkhafpbfmadaaGreat
