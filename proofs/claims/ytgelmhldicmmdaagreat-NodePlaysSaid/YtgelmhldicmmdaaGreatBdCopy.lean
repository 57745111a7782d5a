/-
  Package wide: Copy of a board that New gave.
-/
import Derived.Test.YtgelmhldicmmdaaGreatBdSet
namespace Go.Proofs.YtgelmhldicmmdaaGreat
open Go.RowKit

set_option maxRecDepth 100000 in
theorem cln_no (ad : Addr) (n c : Nat) (W : World) : (binOp .eql 33 (.slice (some ad) n c) (.slice none 0 0)).run Tryz.prog W = .ok (.bool false) W := by kernel_rfl
set_option maxRecDepth 100000 in
theorem cln_yes (W : World) : (binOp .eql 33 (.slice none 0 0) (.slice none 0 0)).run Tryz.prog W = .ok (.bool true) W := by kernel_rfl

/-- What Clone leaves. -/
structure Cln (w w' : World) (v' : Value) (u : Nat) (vs : List Th) : Prop where
  own_ : w'.ownsRow 0 46 1 v' u (vs.map ev)
  below : Below w.heap.size w w'
  new : ∀ i, v'.ownBlock = some i → w.heap.size ≤ i
def ClnPost (w : World) (u : Nat) (vs : List Th) (e : Ending) (w' : World) : Prop := ∃ v', e = .returned v' ∧ Cln w w' v' u vs

set_option maxRecDepth 100000 in
theorem wclone_any {w : World} {v : Value} {u : Nat} {vs : List Th} (h : w.ownsRow 0 46 1 v u (vs.map ev)) (hu : u ≤ 256) : Calls Tryz.prog 78 #[v] w fun e w' => ClnPost w u vs e w' := by
  rcases h.2 with ⟨rfl, rfl⟩ | ⟨t, c, cur, rfl, _⟩
  · have hnil := cln_yes
    go_enter Tryz.func78, Tryz.ntmps78
    go_wp2
    go_ret
    exact ⟨_, rfl, h, Below.refl _ _, fun i hi => by simp [Value.ownBlock] at hi⟩
  · obtain ⟨i0, hi0, hz0, hz1, hz2⟩ := info_parts num_info
    have hlen : (vs.map ev).length = u * 1 := h.1
    have hE : (w.alloc (.cells #[] 46)).ownsRow 0 46 1 (.slice (some ⟨w.heap.size, 0, none⟩) 0 0) 0 [] := World.ownsRow_made w #[] 0 (by omega) (by unfold maxLen; omega) (by simp)
    have HE := Lib.hid hE
    have hC : ∀ j x, (vs.map ev)[j]? = some x → (w.alloc (.cells #[] 46)).cell? ((⟨t, 0, none⟩ : Addr).add j) = some x := (h.alloc (.cells #[] 46)).cells rfl
    have HC := Lib.hid hC
    clear hE hC h
    have hnil := cln_no ⟨t, 0, none⟩ u c
    go_enter Tryz.func78, Tryz.ntmps78
    go_wp2_with (at_builtin
                 refine wpList_append_own_at _ rfl (.tmp 5) (.tmp 6) _ rfl 0 46 i0 (.pointer none) 1 8 Tryz.underlying33 hi0 hz0 hz1 hz2 rfl (by decide) (.slice (some ⟨w.heap.size, 0, none⟩) 0 0) 0 [] rfl HE.out ⟨t, 0, none⟩ u c (vs.map ev) rfl hlen HC.out (fun x hx => by obtain ⟨y, _, rfl⟩ := List.mem_map.1 hx; rfl) (by unfold maxLen; omega) (by omega) (by omega) ?_
                 intro v' w1 ho1 hg1 _ hloc
                 have HF := Lib.hid (show Cln w w1 v' u vs from by
                   refine ⟨?_, ?_, fun i hi => ?_⟩
                   · rw [Nat.zero_add, List.nil_append] at ho1; exact ho1
                   · have ka := (Kept.of_below (D := fun i => w.heap.size ≤ i) ((Below.refl w.heap.size w).alloc (Nat.le_refl _) (.cells #[] 46))).trans ((Kept.of_grown hg1).mono (fun i q => by simp [Value.ownBlock] at q; omega))
                     exact ka.below (Nat.le_refl _) (fun i q => q)
                   · rcases hloc with e | e
                     · rw [e] at hi; simp [Value.ownBlock] at hi; omega
                     · rw [e] at hi; injection hi with hi; rw [World.size_alloc] at hi; omega)
                 clear ho1 hg1 hloc)
    go_ret
    exact ⟨_, rfl, HF.out⟩

set_option maxRecDepth 100000 in
theorem bd_zero : (Tryz.prog.info? 126).map (·.zero) = some (some (.agg (bdL 0 (fun _ => 0) (.slice none 0 0) (fun _ => 0) 0).toArray)) := by kernel_rfl

/-- What Copy leaves. -/
def CpyPost (w : World) (room : Nat) (es : List Ent) (u : Nat) (e : Ending) (w' : World) : Prop :=
  ∃ v', e = .returned (.pointer (some ⟨w.heap.size, 0, none⟩)) ∧ Bd w' w.heap.size v' room es u ∧ Below w.heap.size w w' ∧ ∀ i, v'.ownBlock = some i → w.heap.size < i

set_option maxHeartbeats 1000000 in
set_option maxRecDepth 100000 in
theorem wcopy_any {w : World} {g room u : Nat} {es : List Ent} {v : Value} (h : Bd w g v room es u) (hr : room ≠ 0) : Calls Tryz.prog 68 #[.pointer (some ⟨g, 0, none⟩)] w fun e w' => CpyPost w room es u e w' := by
  have C := Lib.hid (wnobodys_any h)
  rw [decide_eq_false hr] at C
  have hfew := h.few
  obtain ⟨k, tb, lf, vs, h⟩ := h
  have hgl : g < w.heap.size := Blk.lt h.head
  have h515 := bdL_length (room := room) (tb := tb) (v := v) (lf := lf) (k := k)
  have HR := Lib.hid (Lst.all h.head)
  have H1 := Lib.hid (show (Tryz.prog.info? 126).map (·.size) = some (bdL room tb v lf k).length by rw [h515]; exact bd_size)
  have H2 := Lib.hid (show (Tryz.prog.info? 126).map (·.size) = some (bdL room tb v lf k).toArray.size by rw [List.size_toArray, h515]; exact bd_size)
  have ONE := Lib.hid (all_oneCell_toArray (bdL_one (room := room) (tb := tb) (lf := lf) (k := k) (owns_one h.own_)))
  have HZ0 := Lib.hid bd_zero
  have hZ := Blk.new w 126 (bdL 0 (fun _ => 0) (.slice none 0 0) (fun _ => 0) 0).toArray
  have HT := Lib.hid (Lst.there hZ (o := 0) (n := (bdL room tb v lf k).toArray.size) (by rw [List.size_toArray, h515, bdL_length]; exact Nat.le_refl _))
  obtain ⟨W1, hW1⟩ : ∃ W1, W1 = (w.alloc (.cells (bdL 0 (fun _ => 0) (.slice none 0 0) (fun _ => 0) 0).toArray 126)).setCells w.heap.size 0 (bdL room tb v lf k).toArray.toList := ⟨_, rfl⟩
  have L1 : Lst W1 w.heap.size (bdL room tb v lf k) := by
    subst hW1
    have := Lst.setCells hZ 0 (bdL room tb v lf k) (by rw [h515, bdL_length]; exact Nat.le_refl _)
    have e : spl (bdL 0 (fun _ => 0) (.slice none 0 0) (fun _ => 0) 0) 0 (bdL room tb v lf k) = bdL room tb v lf k := by
      unfold spl
      rw [h515, List.drop_of_length_le (by rw [bdL_length]; omega)]
      simp
    rw [e] at this
    exact this
  have k1 : Kept (· = w.heap.size) w W1 := by subst hW1; exact (Kept.of_below ((Below.refl _ _).alloc (Nat.le_refl _) _)).trans (Kept.setCells _ _ _ _ _ rfl)
  have hs1 : W1.heap.size = w.heap.size + 1 := by subst hW1; rw [size_setCells, World.size_alloc]
  have G1 : Lst W1 g (bdL room tb v lf k) := k1.blk h.head (by omega)
  have O1 := k1.owns h.own_ (fun i hi e => by have := (h.own_.lt i hi).2; omega)
  have a1 : W1.cell? ⟨g, 257, none⟩ = some v := by rw [Lst.at_ G1, bdL_things]
  have CC := Lib.hid (wclone_any O1 (by omega))
  have HP := Lib.hid (fun (v' : Value) (W2 : World) (q : Cln W1 W2 v' u vs) => show W2.cell? ⟨w.heap.size, 257, none⟩ = some v ∧ W2.frozen? ⟨w.heap.size, 257, none⟩ = false ∧ CpyPost w room es u (.returned (.pointer (some ⟨w.heap.size, 0, none⟩))) (W2.setCell ⟨w.heap.size, 257, none⟩ v') by
    have L2 : Lst W2 w.heap.size (bdL room tb v lf k) := Blk.below L1 q.below (by omega)
    have L3 := Lst.set1 L2 257 v'
    rw [bdL_setV] at L3
    have hne : v'.ownBlock ≠ some w.heap.size := fun e => by have := q.new _ e; omega
    have k3 := Kept.set_ (D := (· = w.heap.size)) W2 ⟨w.heap.size, 257, none⟩ v' rfl
    have O3 := k3.owns q.own_ (fun i hi e => hne (by rw [hi, e]))
    refine ⟨by rw [Lst.at_ L2, bdL_things], Blk.fz L2 _, v', rfl, ⟨k, tb, lf, vs, h.pl, h.len, L3, O3, hne⟩, ?_, fun i hi => by have := q.new i hi; omega⟩
    exact (((k1.mono (D' := fun i => w.heap.size ≤ i) (fun i e => by omega)).trans (Kept.of_below q.below)).trans (k3.mono (fun i e => by omega))).below (Nat.le_refl _) (fun i e => e))
  have HW1 := Lib.hid hW1
  clear h hZ h515 L1 k1 G1 O1 hW1 hfew
  generalize bdL room tb v lf k = hd at HR H1 H2 ONE HT HW1
  generalize (bdL 0 (fun _ => 0) (.slice none 0 0) (fun _ => 0) 0).toArray = zs at HZ0 HT HW1
  go_enter Tryz.func68, Tryz.ntmps68
  go_wp2_with fail
  (with_reducible refine C.out.mono ?_)
  rintro e w' ⟨rfl, rfl⟩
  go_wp2_with (first
    | (refine wpList_load_mid rfl 126 (.tmp 7) rfl g 0 rfl hd _ HR.out Tryz.underlying126 rfl H1.out ?_)
    | (refine wpList_alloc_z rfl 126 rfl zs HZ0.out ?_)
    | (refine wpList_store_mid rfl 126 (.tmp 3) (.tmp 8) rfl w'.heap.size 0 hd.toArray rfl rfl HT.out H2.out ONE.out ?_; rw [← HW1.out]))
  (with_reducible refine CC.out.mono ?_)
  rintro e W2 ⟨v', rfl, hc⟩
  obtain ⟨c1, c2, c3⟩ := HP.out v' W2 hc
  have HE := Lib.hid c3
  obtain ⟨A', cc, hv'⟩ := owns_slice hc.own_
  clear c3 hc
  subst hv'
  go_wp2
  go_ret
  exact HE.out
end Go.Proofs.YtgelmhldicmmdaaGreat
