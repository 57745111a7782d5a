/-
  What canon.Count, Depth, Fine, List and Points tell: by one round for each node.
-/
import Derived.Test.YtikmcmoegigfhaaGreatDoorStops
import Derived.Test.YtikmcmoegigfhaaGreatDoorCmp
import Derived.Test.YtikmcmoegigfhaaGreatDoorText
import Derived.Test.YtikmcmoegigfhaaGreatDoorKrow
import Derived.Laws.ResultCell
import Derived.Deep.RegionHeld3
namespace Go.Proofs.YtikmcmoegigfhaaGreatDoor
open Go.RowKit Go.Shelf
attribute [local go_sem] Oper.semAt_some

def cntV (vs : List Vt) : Nat := vs.countP (·.x.has)
theorem cntV_snoc (vs : List Vt) (v : Vt) : cntV (vs ++ [v]) = cntV vs + (if v.x.has then 1 else 0) := by simp [cntV, List.countP_append, List.countP_singleton]
theorem cntV_le (vs : List Vt) : cntV vs ≤ vs.length := List.countP_le_length
def dpV (vs : List Vt) : Nat := vs.foldl (fun m v => max m v.deep) 0
theorem dpV_snoc (vs : List Vt) (v : Vt) : dpV (vs ++ [v]) = max (dpV vs) v.deep := by simp [dpV]
theorem dpV_le {vs : List Vt} (h : ∀ v ∈ vs, v.deep ≤ 1000000) : dpV vs ≤ 1000000 := by
  unfold dpV
  have : ∀ (l : List Vt) (m : Nat), m ≤ 1000000 → (∀ v ∈ l, v.deep ≤ 1000000) → l.foldl (fun m v => max m v.deep) m ≤ 1000000 := by
    intro l
    induction l with
    | nil => intro m hm _; exact hm
    | cons a r ih => intro m hm hl; exact ih _ (by have := hl a (by simp); show max m a.deep ≤ 1000000; omega) (fun v hv => hl v (by simp [hv]))
  exact this vs 0 (by omega) h
def Vt.occ (v : Vt) : Nat := v.nk + (if v.x.has then 1 else 0)
def Vt.fine (v : Vt) : Bool := decide (v.way.length ≤ 65535) && (v.x.leaf || decide (2 ≤ v.occ))
def Vt.kind (v : Vt) : Int := if v.x.leaf then 1 else kindN v.nk
theorem round_deep {l m : Nat} : (Fence.wide.inRound l).depth.isSome = true → 1 ≤ m := fun h => by simp [Fence.wide, Fence.inRound] at h
/-- A tree that is not too great to be gone through. -/
def Fits (t : Option (Nn × Fo)) : Prop := (∀ v ∈ otvis t, v.way.length ≤ 1000000 ∧ v.deep ≤ 1000000) ∧ (otvis t).length ≤ 16777216

theorem below_put {n₀ : Nat} {w W : World} (h : Below n₀ w W) {D : Nat} {o o' : Obj} (hD : n₀ ≤ D) (hK : W.heap[D]? = some o) : Below n₀ w (W.putObj D o') := by
  have hlt := (Array.getElem?_eq_some_iff.1 hK).1
  exact h.trans ((Kept.put_obj W D o').below (by omega) (fun i e => by omega))
theorem Blk.put_far {W : World} {g D : Nat} {cs : Array Value} {o o' : Obj} (h : Blk W g cs) (hK : W.heap[D]? = some o) (ho : o.isCells = false) : Blk (W.putObj D o') g cs := by
  obtain ⟨t, h⟩ := h
  refine ⟨t, (World.putObj_heap_other (fun e => ?_)).trans h⟩
  subst e
  rw [h] at hK
  cases hK
  cases ho
theorem Still.others {w w' : World} (h : Still w w') : KeepsOthers w w' := by
  obtain ⟨k, rfl⟩ := h
  exact ⟨Nat.le_refl _, fun _ _ h _ => h⟩
theorem KeepsOthers.of_below {w w' : World} (h : Below w.heap.size w w') : KeepsOthers w w' := ⟨h.size, fun k _ h1 _ => (h.block k (Array.getElem?_eq_some_iff.1 h1).1).trans h1⟩
theorem kind_vt (v : Vt) (ek : List Ent) (h : ek.length = v.nk) : kindD (v.x.nd ek) = v.kind := by unfold kindD Vt.kind; rw [← h]
theorem occ_vt (v : Vt) (ek : List Ent) (h : ek.length = v.nk) : occN (v.x.nd ek) = (v.occ : Int) := by
  show (if v.x.has = true then (ek.length : Int) + 1 else (ek.length : Int)) = _
  unfold Vt.occ
  rw [← h]
  cases v.x.has <;> simp
def listV (vs : List Vt) : List (List UInt8 × List Value) := vs.filterMap fun v => if v.x.has then some (v.way, [.int .u64 v.x.val]) else none
theorem listV_snoc (vs : List Vt) (v : Vt) : listV (vs ++ [v]) = if v.x.has then listV vs ++ [(v.way, [.int .u64 v.x.val])] else listV vs := by
  unfold listV
  rw [List.filterMap_append]
  cases h : v.x.has <;> simp [h]
def pointV (vs : List Vt) : List (List UInt8 × List Value) := vs.filterMap fun v => if v.x.leaf then none else some (v.way, [.int .i64 v.kind, .bool v.x.has])
theorem pointV_snoc (vs : List Vt) (v : Vt) : pointV (vs ++ [v]) = if v.x.leaf then pointV vs else pointV vs ++ [(v.way, [.int .i64 v.kind, .bool v.x.has])] := by
  unfold pointV
  rw [List.filterMap_append]
  cases h : v.x.leaf <;> simp [h]
theorem lit_cells {w : World} {g : Nat} {cs : List Value} (h : Blk w g cs.toArray) : ∀ (j : Nat) (u : Value), cs[j]? = some u → w.cell? ((⟨g, 0, none⟩ : Addr).add j) = some u := fun j u hj => by
  have e : (⟨g, 0, none⟩ : Addr).add j = ⟨g, j, none⟩ := by
    unfold Addr.add
    split
    · rename_i h0; rw [h0]
    · simp
  rw [e, h.cell j]
  simpa using hj
set_option maxRecDepth 100000 in
theorem info_pair : (Tryz.prog.info? 59).map (fun i => (i.zero, i.size, i.bytes)) = some (some (.agg #[.slice none 0 0, .int .u64 0]), 2, 32) := by kernel_rfl
/-- bytes.Clone, with the room that stands behind. -/
def CrPost (w : World) (l : List UInt8) (e : Ending) (w' : World) : Prop :=
  ∃ A c, e = .returned (.slice A l.length c) ∧ Byt w' w'.heap.size A l.length l ∧ (∀ i, Pb A l i → w.heap.size ≤ i) ∧ Below w.heap.size w w' ∧ l.length ≤ c
set_option maxRecDepth 100000 in
set_option maxHeartbeats 400000 in
theorem bcloner_any (A : Option Addr) (n c B : Nat) (l : List UInt8) (w : World) (ha : Byt w B A n l) (hB : B ≤ w.heap.size) (hn : n ≤ 140737488355328) : Calls Tryz.prog 66 #[.slice A n c] w (CrPost w l) := by
  cases A with
  | none =>
    have h0 : l = [] := by
      cases l with
      | nil => rfl
      | cons u l => obtain ⟨ad, e, _⟩ := ha.2.2 (by have := ha.1; simp at this; omega); cases e
    subst h0
    clear ha
    have hnil := nilb_yes n c
    go_enter Tryz.func66, Tryz.ntmps66
    go_wp2
    go_ret
    exact ⟨none, 0, rfl, Byt.none_, fun i q => absurd rfl q.1, Below.refl _ _, Nat.le_refl _⟩
  | some ad =>
    have HA := Lib.hid ha
    clear ha
    have hnil := nilb_no ad n c
    go_enter Tryz.func66, Tryz.ntmps66
    go_wp2_with (at_builtin
                 refine wpList_append_byt _ rfl (.tmp 5) (.tmp 6) _ rfl Tryz.underlying23 info_u8 w.heap.size (.slice (some ⟨w.heap.size, 0, none⟩) 0 0) 0 [] rfl (Mine.made w _ _ 0 (by unfold maxLen; omega) (Nat.le_refl _)) B (some ad) n c l rfl (HA.out.alloc hB _) (by omega) (by simp) ?_
                 intro v2 w2 hm2 hg2 _
                 rw [Nat.zero_add, List.nil_append] at hm2
                 have HM2 := Lib.hid hm2
                 have C2 := Lib.hid (((Below.refl w.heap.size w).alloc (Nat.le_refl _) _).grown hg2 (by simp) (by simp [Value.ownBlock]))
                 clear hm2 hg2)
    go_wp2
    go_ret
    obtain ⟨A2, c2, rfl⟩ := HM2.out.slice
    have hl := HA.out.1
    subst hl
    refine ⟨A2, c2, rfl, HM2.out.byt, fun i hi => ?_, C2.out, HM2.out.room⟩
    obtain ⟨hne, ad2, rfl, rfl⟩ := hi
    obtain ⟨g2, cap, hv, hlo, _⟩ := World.ownsRow.form HM2.out (List.length_pos_iff.2 hne)
    injection hv with hv
    injection hv with hv
    subst hv
    exact hlo
theorem kindN_ne (n : Nat) : ¬ (kindN n : Int) = 1 := by unfold kindN; split <;> (try split) <;> (try split) <;> omega

set_option maxRecDepth 100000 in
set_option maxHeartbeats 2000000 in
theorem cdepth_any (t : Option (Nn × Fo)) (p : Option Addr) (w : World) (ht : OTre w (· < w.heap.size) t p) (hf : Fits t) :
    Calls Tryz.prog 16 #[.pointer p] w fun e w' => e = .returned (.int .i64 (dpV (otvis t) : Int)) ∧ Below w.heap.size w w' := by
  obtain ⟨n, hn1⟩ : ∃ n : Nat, 1 ≤ n := ⟨1, Nat.le_refl _⟩
  have HN1 := Lib.hid hn1
  clear hn1
  refine (callsIn_wide (n := n)).1 ?_
  refine callsIn_of_wp_marks Tryz.func16 rfl trivial ?_
  simp only [Tryz.ntmps16, List.size_toArray, List.length_cons, List.length_nil, Nat.reduceAdd, Nat.reduceSub, Array.replicate_succ, Array.replicate_zero, List.push_toArray, List.append_toArray, List.nil_append, List.cons_append]
  obtain ⟨W0, hW0⟩ : ∃ W, w.alloc (.cells #[.int .i64 0] 3) = W := ⟨_, rfl⟩
  have b0 : Below w.heap.size w W0 := by rw [← hW0]; exact (Below.refl _ _).alloc (Nat.le_refl _) _
  have s0 : W0.heap.size = w.heap.size + 1 := by rw [← hW0]; simp
  have c0 : Blk W0 w.heap.size #[.int .i64 0] := by rw [← hW0]; exact Blk.new w 3 _
  have H1 := Lib.hid (stops_any p W0)
  have HW0 := Lib.hid hW0
  clear hW0
  gi_wp2_with fail
  rw [HW0.out]
  refine ⟨trivial, wide_deep, ?_⟩
  refine (callsIn_wide.2 H1.out).mono ?_
  rintro e W1 ⟨rfl, rfl⟩
  gi_wp2_with fail
  obtain ⟨W2, hW2⟩ : ∃ W, W0.alloc (.cells #[.pointer p] 30) = W := ⟨_, rfl⟩
  have b2 : Below W0.heap.size W0 W2 := by rw [← hW2]; exact (Below.refl _ _).alloc (Nat.le_refl _) _
  have s2 : W2.heap.size = w.heap.size + 2 := by rw [← hW2]; simp; omega
  have bw : Below w.heap.size w W2 := b0.trans (b2.mono (by omega))
  have c2 : W2.cell? ⟨w.heap.size + 1, 0, none⟩ = some (.pointer p) := by rw [← hW2, ← s0]; exact (Blk.new W0 30 #[.pointer p]).cell 0
  have tw : OTre W2 (· < w.heap.size) t p := by
    cases t with
    | none => exact ht
    | some xk => obtain ⟨g, e, h⟩ := ht; exact ⟨g, e, h.below (fun _ q => q) bw⟩
  have hseq := stops1_seqs (n₀ := w.heap.size) (Bx := w.heap.size + 1) t (by omega) c2 tw hf.1
  have cI := c0.below b2 (by omega)
  rw [hW2]
  refine range_mine (n₀ := w.heap.size) HN1.out (gf := 59) (lb := #[.pointer (some ⟨w.heap.size + 1, 0, none⟩)]) rfl (enters_of Tryz.func59 (by kernel_rfl) rfl) (by omega) hseq
    (fun pre N W => Below w.heap.size w W ∧ Blk W w.heap.size #[.int .i64 (dpV pre : Int)] ∧ ¬ N w.heap.size) (fun _ _ => False) ?hI (fun _ _ _ q _ => q) ⟨bw, cI, fun q => q⟩
    (fun bx gg A k c d => { tmps := #[.pointer p, undef, .int .i64 0, .pointer (some ⟨w.heap.size, 0, none⟩), .pointer (some ⟨bx, 0, none⟩), .pointer p, .func (.func 59) #[] #[.pointer (some ⟨w.heap.size + 1, 0, none⟩)], visV gg A k c d, undef, undef, undef, undef, undef], defers := [] }) ?assign ?body ?done ?stop
  case hI =>
    rintro pre N N' A B ⟨i1, i2, i3⟩ hs hN
    refine ⟨i1.trans hs.below, i2.step hs i3, fun q => ?_⟩
    rcases hN _ q with q | q
    · exact i3 q
    · have := i2.lt; omega
  case assign =>
    intro l gg A k c d W K hK
    gi_wp2_with fail
    exact hK _ (Blk.new _ _ _) ((Below.refl _ _).alloc (Nat.le_refl _) _) (KeepsOthers.alloc _ _) (by simp)
  case body =>
    rintro l pre v N bx gg A k c U ⟨i1, i2, i3⟩ ⟨post, hpost⟩ hN hnU hv hb hbx hNx
    have e2 : U.cell? ⟨bx, 2, none⟩ = some (.int .i64 (v.deep : Int)) := hb.cell 2
    have c6 : U.cell? ⟨w.heap.size, 0, none⟩ = some (.int .i64 (dpV pre : Int)) := i2.cell 0
    have z6 : U.frozen? ⟨w.heap.size, 0, none⟩ = false := i2.fz 0
    have I1 := Lib.hid i1
    have I2 := Lib.hid i2
    have SN := Lib.hid (dpV_snoc pre v)
    replace i3 : ¬ N w.heap.size := fun q => i3 (.inl q)
    clear hv hb i1 i2 hpost hseq tw
    obtain ⟨dq, hdq⟩ : ∃ dq, dpV (pre ++ [v]) = dq := ⟨_, rfl⟩
    have DQ := Lib.hid hdq
    rw [hdq] at SN
    clear hdq
    generalize dpV pre = d1 at c6 I2 SN
    generalize v.deep = d2 at e2 SN
    have HQ := Lib.hid (fun (z : Int) (hz : z = (dq : Int)) => show KeepsOthers U (U.setCell ⟨w.heap.size, 0, none⟩ (.int .i64 z)) ∧ Kept (fun i => w.heap.size ≤ i ∧ ¬ N i) U (U.setCell ⟨w.heap.size, 0, none⟩ (.int .i64 z)) ∧ Below w.heap.size w (U.setCell ⟨w.heap.size, 0, none⟩ (.int .i64 z)) ∧ Blk (U.setCell ⟨w.heap.size, 0, none⟩ (.int .i64 z)) w.heap.size #[.int .i64 (dq : Int)] ∧ ¬ N w.heap.size from by
      subst hz
      exact ⟨KeepsOthers.setCell _ _ _, Kept.set_ _ _ _ ⟨Nat.le_refl _, i3⟩, I1.out.trans ((Below.refl _ _).setCell (p := ⟨w.heap.size, 0, none⟩) (Nat.le_refl _) _), by simpa using I2.out.set_ 0 (.int .i64 (dq : Int)), i3⟩)
    gi_wp2
    all_goals
      refine ⟨(HQ.out _ ?_).1, (HQ.out _ ?_).2.1, (HQ.out _ ?_).2.2.1, ?_, i3⟩
      iterate 3 (rw [SN.out]; omega)
      rw [show dpV (pre ++ [v]) = dq from DQ.out]
      exact (HQ.out _ (by rw [SN.out]; omega)).2.2.2.1
  case done =>
    rintro D N W hD ⟨i1, i2, i3⟩ hK
    have c6 : W.cell? ⟨w.heap.size, 0, none⟩ = some (.int .i64 (dpV (otvis t) : Int)) := i2.cell 0
    have HE := Lib.hid (below_put i1 (o' := .deferred none) (by omega) hK)
    have HK := Lib.hid hK
    clear i1 i2 hK hseq tw
    gi_wp2
    refine ⟨by simp, .inl ⟨_, _, rfl, run_takeDeferred HK.out, ?_⟩⟩
    exact ⟨_, results_tmp rfl _ _ _, rfl, HE.out⟩
  case stop =>
    rintro D c W hD h hK
    exact h.elim

set_option maxRecDepth 100000 in
set_option maxHeartbeats 2000000 in
theorem cfine_any (t : Option (Nn × Fo)) (p : Option Addr) (w : World) (ht : OTre w (· < w.heap.size) t p) (hf : Fits t) :
    Calls Tryz.prog 18 #[.pointer p] w fun e w' => e = .returned (.bool ((otvis t).all Vt.fine)) ∧ Below w.heap.size w w' := by
  obtain ⟨n, hn1⟩ : ∃ n : Nat, 1 ≤ n := ⟨1, Nat.le_refl _⟩
  have HN1 := Lib.hid hn1
  clear hn1
  refine (callsIn_wide (n := n)).1 ?_
  refine callsIn_of_wp_marks Tryz.func18 rfl trivial ?_
  simp only [Tryz.ntmps18, List.size_toArray, List.length_cons, List.length_nil, Nat.reduceAdd, Nat.reduceSub, Array.replicate_succ, Array.replicate_zero, List.push_toArray, List.append_toArray, List.nil_append, List.cons_append]
  obtain ⟨W0, hW0⟩ : ∃ W, w.alloc (.cells #[.bool false] 4) = W := ⟨_, rfl⟩
  have b0 : Below w.heap.size w W0 := by rw [← hW0]; exact (Below.refl _ _).alloc (Nat.le_refl _) _
  have s0 : W0.heap.size = w.heap.size + 1 := by rw [← hW0]; simp
  have c0 : Blk W0 w.heap.size #[.bool false] := by rw [← hW0]; exact Blk.new w 4 _
  have H1 := Lib.hid (stops_any p W0)
  have HW0 := Lib.hid hW0
  clear hW0
  gi_wp2_with fail
  rw [HW0.out]
  refine ⟨trivial, wide_deep, ?_⟩
  refine (callsIn_wide.2 H1.out).mono ?_
  rintro e W1 ⟨rfl, rfl⟩
  gi_wp2_with fail
  obtain ⟨W2, hW2⟩ : ∃ W, W0.alloc (.cells #[.pointer p] 30) = W := ⟨_, rfl⟩
  have b2 : Below W0.heap.size W0 W2 := by rw [← hW2]; exact (Below.refl _ _).alloc (Nat.le_refl _) _
  have s2 : W2.heap.size = w.heap.size + 2 := by rw [← hW2]; simp; omega
  have bw : Below w.heap.size w W2 := b0.trans (b2.mono (by omega))
  have c2 : W2.cell? ⟨w.heap.size + 1, 0, none⟩ = some (.pointer p) := by rw [← hW2, ← s0]; exact (Blk.new W0 30 #[.pointer p]).cell 0
  have tw : OTre W2 (· < w.heap.size) t p := by
    cases t with
    | none => exact ht
    | some xk => obtain ⟨g, e, h⟩ := ht; exact ⟨g, e, h.below (fun _ q => q) bw⟩
  have hseq := stops1_seqs (n₀ := w.heap.size) (Bx := w.heap.size + 1) t (by omega) c2 tw hf.1
  have cI := c0.below b2 (by omega)
  rw [hW2]
  refine range_mine (n₀ := w.heap.size) HN1.out (gf := 59) (lb := #[.pointer (some ⟨w.heap.size + 1, 0, none⟩)]) rfl (enters_of Tryz.func59 (by kernel_rfl) rfl) (by omega) hseq
    (fun pre N W => Below w.heap.size w W ∧ Blk W w.heap.size #[.bool false] ∧ ¬ N w.heap.size ∧ pre.all Vt.fine = true) (fun c W => c = .ret ∧ Below w.heap.size w W ∧ Blk W w.heap.size #[.bool false] ∧ (otvis t).all Vt.fine = false) ?hI (fun c A B q hs => ⟨q.1, q.2.1.trans hs.below, q.2.2.1.step hs (fun q => q), q.2.2.2⟩) ⟨bw, cI, fun q => q, rfl⟩
    (fun bx gg A k c d => { tmps := #[.pointer p, undef, .pointer (some ⟨w.heap.size, 0, none⟩), .pointer (some ⟨bx, 0, none⟩), .pointer p, .func (.func 59) #[] #[.pointer (some ⟨w.heap.size + 1, 0, none⟩)], visV gg A k c d, undef, undef, undef, undef, undef, undef, undef, undef, undef, undef, undef, undef, undef, undef], defers := [] }) ?assign ?body ?done ?stop
  case hI =>
    rintro pre N N' A B ⟨i1, i2, i3, i4⟩ hs hN
    refine ⟨i1.trans hs.below, i2.step hs i3, fun q => ?_, i4⟩
    rcases hN _ q with q | q
    · exact i3 q
    · have := i2.lt; omega
  case assign =>
    intro l gg A k c d W K hK
    gi_wp2_with fail
    exact hK _ (Blk.new _ _ _) ((Below.refl _ _).alloc (Nat.le_refl _) _) (KeepsOthers.alloc _ _) (by simp)
  case body =>
    rintro l pre v N bx gg A k c U ⟨i1, i2, i3, i4⟩ ⟨post, hpost⟩ hN hnU hv hb hbx hNx
    obtain ⟨be, A', ek, t1, t2, _⟩ := hv.nod
    have e0 : U.cell? ⟨bx, 0, none⟩ = some (.pointer (some ⟨gg, 0, none⟩)) := hb.cell 0
    have e1 : U.cell? ⟨bx, 1, none⟩ = some (.slice A k c) := hb.cell 1
    have hvk : v.way.length = k := hv.byt.1
    have hvl : v.way.length ≤ 1000000 := (hf.1 v (by rw [hpost]; simp)).1
    have HM := Lib.hid (may_any A k c U (by omega))
    have HK := Lib.hid (nkind_any t1)
    have HO := Lib.hid (fun U' (hs : Still U U') => nocc_any (t1.still hs))
    rw [kind_vt v ek t2] at HK
    rw [occ_vt v ek t2] at HO
    replace i3 : ¬ N w.heap.size := fun q => i3 (.inl q)
    have I1 := Lib.hid i1
    have I2 := Lib.hid i2
    have hbn : bx < U.heap.size := hb.lt
    have BX := Lib.hid (fun U' (hs : Still U U') => show U'.cell? ⟨bx, 0, none⟩ = some (.pointer (some ⟨gg, 0, none⟩)) from ((Kept.still (D := fun _ => False) hs).cell (p := ⟨bx, 0, none⟩) hbn (fun q => q)).trans e0)
    have OK := Lib.hid (fun (hfv : v.fine = true) U' (hs : Still U U') => show KeepsOthers U U' ∧ Kept (fun i => w.heap.size ≤ i ∧ ¬ N i) U U' ∧ Below w.heap.size w U' ∧ Blk U' w.heap.size #[.bool false] ∧ ¬ N w.heap.size ∧ (pre ++ [v]).all Vt.fine = true from
      ⟨hs.others, Kept.still hs, i1.trans (hs.below _), i2.below (hs.below _) i2.lt, i3, by rw [List.all_append, i4]; simp [hfv]⟩)
    have NO := Lib.hid (fun (hfv : v.fine = false) U' (hs : Still U U') => show U'.cell? ⟨w.heap.size, 0, none⟩ = some (.bool false) ∧ U'.frozen? ⟨w.heap.size, 0, none⟩ = false ∧ KeepsOthers U (U'.setCell ⟨w.heap.size, 0, none⟩ (.bool false)) ∧ Below w.heap.size w (U'.setCell ⟨w.heap.size, 0, none⟩ (.bool false)) ∧ Blk (U'.setCell ⟨w.heap.size, 0, none⟩ (.bool false)) w.heap.size #[.bool false] ∧ (otvis t).all Vt.fine = false from by
      have b := i2.below (hs.below _) i2.lt
      refine ⟨b.cell 0, b.fz 0, hs.others.trans (KeepsOthers.setCell _ _ _), (i1.trans (hs.below _)).trans ((Below.refl _ _).setCell (p := ⟨w.heap.size, 0, none⟩) (Nat.le_refl _) _), by simpa using b.set_ 0 (.bool false), by rw [hpost]; simp [hfv]⟩)
    have HFV := Lib.hid (show v.fine = (decide (k ≤ 65535) && (v.x.leaf || decide (2 ≤ v.occ))) by unfold Vt.fine; rw [hvk])
    have HKD := Lib.hid (show v.kind = if v.x.leaf then 1 else (kindN v.nk : Int) from rfl)
    have hvf := v.fine
    clear t1 t2 hv hb i1 i2 i4 hpost hseq tw hvk hvl hvf
    generalize v.fine = fv at OK NO HFV
    generalize v.occ = oc at HO HFV
    generalize v.kind = kd at HK HKD
    generalize v.x.leaf = lf at HFV HKD
    by_cases hk : k ≤ 65535
    · rw [if_pos hk] at HM
      cases lf with
      | true =>
        have hfv : fv = true := by rw [HFV.out]; simp [hk]
        obtain rfl : kd = 1 := HKD.out
        clear HFV HKD
        gi_wp2_with fail
        refine ⟨trivial, round_deep (l := l), ?_⟩
        refine (CallsIn.inRound l (callsIn_wide.2 HM.out)).mono ?_
        rintro e U1 ⟨rfl, rfl⟩
        gi_wp2_with fail
        refine ⟨trivial, round_deep (l := l), ?_⟩
        refine (CallsIn.inRound l (callsIn_wide.2 HK.out)).mono ?_
        rintro e U1 ⟨rfl, hs⟩
        have HE := Lib.hid (OK.out hfv _ hs)
        clear hs
        gi_wp2
        refine ⟨trivial, ?_⟩
        gi_wp2
        exact HE.out
      | false =>
        have hkne : ¬ kd = 1 := by rw [HKD.out]; exact kindN_ne _
        by_cases ho : 2 ≤ oc
        · have hfv : fv = true := by rw [HFV.out]; simp [hk, ho]
          clear HFV HKD
          gi_wp2_with fail
          refine ⟨trivial, round_deep (l := l), ?_⟩
          refine (CallsIn.inRound l (callsIn_wide.2 HM.out)).mono ?_
          rintro e U1 ⟨rfl, rfl⟩
          gi_wp2_with fail
          refine ⟨trivial, round_deep (l := l), ?_⟩
          refine (CallsIn.inRound l (callsIn_wide.2 HK.out)).mono ?_
          rintro e U1 ⟨rfl, hs⟩
          have ex0 := BX.out U1 hs
          have H2 := Lib.hid (HO.out U1 hs)
          have HS := Lib.hid hs
          clear hs
          gi_wp2_with fail
          refine ⟨trivial, round_deep (l := l), ?_⟩
          refine (CallsIn.inRound l (callsIn_wide.2 H2.out)).mono ?_
          rintro e U2 ⟨rfl, hs⟩
          have HE := Lib.hid (OK.out hfv _ (HS.out.trans hs))
          clear hs
          gi_wp2
          exact HE.out
        · have hfv : fv = false := by rw [HFV.out]; simp [ho]
          have hkb : (kd != 1) = true := by simpa using hkne
          have hob : (oc : Int) < 2 := by omega
          clear HFV HKD
          gi_wp2_with fail
          refine ⟨trivial, round_deep (l := l), ?_⟩
          refine (CallsIn.inRound l (callsIn_wide.2 HM.out)).mono ?_
          rintro e U1 ⟨rfl, rfl⟩
          gi_wp2_with fail
          refine ⟨trivial, round_deep (l := l), ?_⟩
          refine (CallsIn.inRound l (callsIn_wide.2 HK.out)).mono ?_
          rintro e U1 ⟨rfl, hs⟩
          have ex0 := BX.out U1 hs
          have H2 := Lib.hid (HO.out U1 hs)
          have HS := Lib.hid hs
          clear hs
          gi_wp2_with fail
          refine ⟨trivial, round_deep (l := l), ?_⟩
          refine (CallsIn.inRound l (callsIn_wide.2 H2.out)).mono ?_
          rintro e U2 ⟨rfl, hs⟩
          obtain ⟨x1, x2, x3⟩ := NO.out hfv _ (HS.out.trans hs)
          have HE := Lib.hid x3
          clear hs x3
          gi_wp2
          exact ⟨HE.out.1, rfl, HE.out.2⟩
    · rw [if_neg hk] at HM
      have hfv : fv = false := by rw [HFV.out]; simp [hk]
      obtain ⟨x1, x2, x3⟩ := NO.out hfv _ (Still.refl _)
      have HE := Lib.hid x3
      clear HFV HKD x3
      gi_wp2_with fail
      refine ⟨trivial, round_deep (l := l), ?_⟩
      refine (CallsIn.inRound l (callsIn_wide.2 HM.out)).mono ?_
      rintro e U1 ⟨rfl, rfl⟩
      gi_wp2
      exact ⟨HE.out.1, rfl, HE.out.2⟩
  case done =>
    rintro D N W hD ⟨i1, i2, i3, i4⟩ hK
    have c6 : W.cell? ⟨w.heap.size, 0, none⟩ = some (.bool false) := i2.cell 0
    have z6 : W.frozen? ⟨w.heap.size, 0, none⟩ = false := i2.fz 0
    have hDC : ¬ D = w.heap.size := by omega
    have k3 := (KeepsOthers.setCell W ⟨w.heap.size, 0, none⟩ (.bool true)).same _ _ hK rfl
    have HB := Lib.hid (below_put (i1.trans ((Below.refl _ _).setCell (p := ⟨w.heap.size, 0, none⟩) (Nat.le_refl _) (.bool true))) (o' := .deferred none) (by omega) k3)
    have HK := Lib.hid k3
    have HC := Lib.hid (Blk.put_far (o' := .deferred none) (show Blk (W.setCell ⟨w.heap.size, 0, none⟩ (.bool true)) w.heap.size #[.bool true] by simpa using i2.set_ 0 (.bool true)) k3 rfl)
    clear i1 i2 hK k3 hseq tw
    gi_wp2
    refine ⟨by simp, .inl ⟨_, _, rfl, run_takeDeferred HK.out, ?_⟩⟩
    refine ⟨_, ?_, by rw [i4], HB.out⟩
    rw [results_cell1 rfl]
    simp [go_sem, HC.out.cell 0]
  case stop =>
    rintro D c W hD ⟨rfl, i1, i2, i3⟩ hK
    have HB := Lib.hid (below_put i1 (o' := .deferred none) (by omega) hK)
    have HK := Lib.hid hK
    have HC := Lib.hid (Blk.put_far (o' := .deferred none) i2 hK rfl)
    clear i1 i2 hK hseq tw
    gi_wp2
    refine ⟨by simp, .inl ⟨_, _, rfl, run_takeDeferred HK.out, ?_⟩⟩
    refine ⟨_, ?_, by rw [i3], HB.out⟩
    rw [results_cell1 rfl]
    simp [go_sem, HC.out.cell 0]

end Go.Proofs.YtikmcmoegigfhaaGreatDoor
