/-
  Package small: Copy of a row that New gave.
-/
import Derived.Test.YtgelmhldicmmdaaGreatSmSet
namespace Go.Proofs.YtgelmhldicmmdaaGreat
open Go.RowKit

theorem size_setCells (w : World) (g o : Nat) (vs : List Value) : (w.setCells g o vs).heap.size = w.heap.size := by
  induction vs generalizing w o with
  | nil => rfl
  | cons v r ih => rw [World.setCells, ih]; simp
set_option maxRecDepth 100000 in
theorem row_info : (Tryz.prog.info? 122).map (·.size) = some 18 := by kernel_rfl

set_option maxHeartbeats 1000000 in
set_option maxRecDepth 100000 in
theorem scopy_any {w : World} {g t room : Nat} {es : List Ent} (h : Sm w g t room es) : Calls Tryz.prog 67 #[.pointer (some ⟨g, 0, none⟩)] w fun e w' =>
    e = .returned (.pointer (some ⟨w.heap.size, 0, none⟩)) ∧ Sm w' w.heap.size (w.heap.size + 1) room es ∧ Below w.heap.size w w' := by
  have C := Lib.hid (nobodys_any h.rd)
  have hr : ¬ (room = 0) := by have := h.lo; omega
  rw [decide_eq_false hr] at C
  obtain ⟨hg, ht⟩ := h.lt
  obtain ⟨bs, hbl, hbt, hh⟩ := h.head
  obtain ⟨vs, hvl, hvt, hl⟩ := h.things
  have hmost := h.most
  have hfew := h.few
  obtain ⟨n, hn⟩ : ∃ n, es.length = n := ⟨_, rfl⟩
  have HN := Lib.hid hn
  have HP := Lib.hid (And.intro h.up (And.intro h.lo h.ne))
  rw [hn] at hbt hh hvt hfew
  change Lst w g (hdL room bs t n) at hh
  clear hn h
  have h18 := hdL_length (room := room) (t := t) (n := n) hbl
  have HR := Lib.hid (Lst.all hh)
  have H18 := Lib.hid (show (Tryz.prog.info? 122).map (·.size) = some (hdL room bs t n).length by rw [h18]; exact row_info)
  have H18' := Lib.hid (show (Tryz.prog.info? 122).map (·.size) = some (hdL room bs t n).toArray.size by rw [List.size_toArray, h18]; exact row_info)
  -- the block that the copy is laid into
  have HZ := Lib.hid (Blk.new w 122 #[.int .i64 0, .int .u8 0, .int .u8 0, .int .u8 0, .int .u8 0, .int .u8 0, .int .u8 0, .int .u8 0, .int .u8 0, .int .u8 0, .int .u8 0, .int .u8 0, .int .u8 0, .int .u8 0, .int .u8 0, .int .u8 0, .int .u8 0, .slice none 0 0])
  have HT := Lib.hid (Lst.there HZ.out (o := 0) (n := (hdL room bs t n).toArray.size) (by rw [List.size_toArray, h18]; exact Nat.le_refl _))
  obtain ⟨W1, hW1⟩ : ∃ W1, W1 = (w.alloc (.cells #[.int .i64 0, .int .u8 0, .int .u8 0, .int .u8 0, .int .u8 0, .int .u8 0, .int .u8 0, .int .u8 0, .int .u8 0, .int .u8 0, .int .u8 0, .int .u8 0, .int .u8 0, .int .u8 0, .int .u8 0, .int .u8 0, .int .u8 0, .slice none 0 0] 122)).setCells w.heap.size 0 (hdL room bs t n).toArray.toList := ⟨_, rfl⟩
  have hh1 : Lst W1 w.heap.size (hdL room bs t n) := by
    subst hW1
    have := Lst.setCells HZ.out 0 (hdL room bs t n) (by rw [h18]; exact Nat.le_refl _)
    have e : spl [.int .i64 0, .int .u8 0, .int .u8 0, .int .u8 0, .int .u8 0, .int .u8 0, .int .u8 0, .int .u8 0, .int .u8 0, .int .u8 0, .int .u8 0, .int .u8 0, .int .u8 0, .int .u8 0, .int .u8 0, .int .u8 0, .int .u8 0, .slice none 0 0] 0 (hdL room bs t n) = hdL room bs t n := by
      unfold spl
      rw [h18]
      simp
    rw [e] at this
    exact this
  have k1 : Kept (· = w.heap.size) w W1 := by subst hW1; exact (Kept.of_below ((Below.refl _ _).alloc (Nat.le_refl _) _)).trans (Kept.setCells _ _ _ _ _ rfl)
  have hg1 : Lst W1 g (hdL room bs t n) := k1.blk hh (by omega)
  have hl1 : Lst W1 t (vs.map ev) := k1.blk hl (by omega)
  have hs1 : W1.heap.size = w.heap.size + 1 := by
    subst hW1
    rw [size_setCells, World.size_alloc]
  have HW1 := Lib.hid hW1
  clear hW1 hh hl
  -- the things' copy
  obtain ⟨i0, hi0, hz0, hz1, hz2⟩ := info_parts int_info
  obtain ⟨W2, hW2⟩ : ∃ W2, W2 = W1.drew.alloc (.cells ((List.replicate room (none : Th)).map ev).toArray 46) := ⟨_, rfl⟩
  have ht2 : Lst W2 (w.heap.size + 1) ((List.replicate room (none : Th)).map ev) := by subst hW2; have := Blk.new W1.drew 46 ((List.replicate room (none : Th)).map ev).toArray; rw [show W1.drew.heap.size = w.heap.size + 1 from hs1] at this; exact this
  have k2 : Kept (fun _ => False) W1 W2 := by subst hW2; exact (Kept.refl _ _).drew.trans (Kept.of_below ((Below.refl _ _).alloc (Nat.le_refl _) _))
  have hg2 : Lst W2 g (hdL room bs t n) := k2.blk hg1 (fun q => q)
  have hh2 : Lst W2 w.heap.size (hdL room bs t n) := k2.blk hh1 (fun q => q)
  have hl2 : Lst W2 t (vs.map ev) := k2.blk hl1 (fun q => q)
  obtain ⟨ns, hns⟩ : ∃ ns, ns = (vs.take n).map ev := ⟨_, rfl⟩
  have hnl : ns.length = n := by subst hns; simp; omega
  have HA := Lib.hid (fun ty c => run_append_room_cells (P := Tryz.prog) W2 33 ty 46 i0 Tryz.underlying33 hi0 (w.heap.size + 1) 0 0 room ⟨t, 0, none⟩ n c ns (by rw [hz1]; omega)
    (fun j u hj => by
      rw [Addr.add_lit, Lst.at_ hl2, Nat.zero_add]
      subst hns
      rw [List.map_take, List.getElem?_take] at hj
      split at hj
      · exact hj
      · cases hj) (fun u hu => by subst hns; exact ev_one u hu) (by omega) (fun j hj => Lst.isSome ht2 (by rw [hz1]; simp; omega)) (fun j hj => Blk.fz ht2 _))
  rw [Nat.zero_mul, Nat.zero_add, Nat.zero_add] at HA
  obtain ⟨W3, hW3⟩ : ∃ W3, W3 = W2.setCells (w.heap.size + 1) 0 ns := ⟨_, rfl⟩
  have k3 : Kept (· = w.heap.size + 1) W2 W3 := by subst hW3; exact Kept.setCells _ _ _ _ _ rfl
  have ht3 : Lst W3 (w.heap.size + 1) ((vs.take n ++ List.replicate (room - n) (none : Th)).map ev) := by
    subst hW3
    have := Lst.setCells ht2 0 ns (by rw [hnl]; simp; omega)
    have e : spl ((List.replicate room (none : Th)).map ev) 0 ns = (vs.take n ++ List.replicate (room - n) (none : Th)).map ev := by
      unfold spl
      rw [hnl, hns]
      simp
    rw [e] at this
    exact this
  have hh3 : Lst W3 w.heap.size (hdL room bs t n) := k3.blk hh2 (by omega)
  rw [← hW3] at HA
  have hc3 : W3.cell? ⟨w.heap.size, 17, none⟩ = some (.slice (some ⟨t, 0, none⟩) n room) := by rw [Lst.at_ hh3]; simp [hdL, hbl]
  have hz3 : W3.frozen? ⟨w.heap.size, 17, none⟩ = false := Blk.fz hh3 _
  have HE := Lib.hid (show Sm (W3.setCell ⟨w.heap.size, 17, none⟩ (.slice (some ⟨w.heap.size + 1, 0, none⟩) n room)) w.heap.size (w.heap.size + 1) room es ∧ Below w.heap.size w (W3.setCell ⟨w.heap.size, 17, none⟩ (.slice (some ⟨w.heap.size + 1, 0, none⟩) n room)) by
    have k4 := Kept.set_ (D := (· = w.heap.size)) W3 ⟨w.heap.size, 17, none⟩ (.slice (some ⟨w.heap.size + 1, 0, none⟩) n room) rfl
    refine ⟨Sm.of (n := n) HP.out.1 (by rw [HN.out]; exact hfew) HP.out.2.1 hmost (by omega) HN.out.symm (bs := bs) hbl hbt ?_ (vs := vs.take n ++ List.replicate (room - n) (none : Th)) (by simp; omega) (by rw [List.take_append_of_le_length (by simp; omega), List.take_take, Nat.min_self]; exact hvt) ?_, ?_⟩
    · have := Lst.set1 hh3 17 (.slice (some ⟨w.heap.size + 1, 0, none⟩) n room)
      have e : (hdL room bs t n).set 17 (.slice (some ⟨w.heap.size + 1, 0, none⟩) n room) = hdL room bs (w.heap.size + 1) n := by
        simp only [hdL]
        rw [List.set_cons_succ, List.set_append_right _ _ (by simp [hbl])]
        simp [hbl]
      rw [e] at this
      exact this
    · exact k4.blk ht3 (by omega)
    · exact ((((k1.mono (D' := fun k => w.heap.size ≤ k) (fun q hq => by omega)).trans (k2.mono (fun q hq => hq.elim))).trans (k3.mono (fun q hq => by omega))).trans (k4.mono (fun q hq => by omega))).below (Nat.le_refl _) (fun q hq => hq))
  have hm1 := make_things room hmost W1.drew
  rw [← hW2, show W1.drew.heap.size = w.heap.size + 1 from hs1] at hm1
  have hgr : W1.cell? ⟨g, 0, none⟩ = some (.int .i64 (room : Int)) := by rw [Lst.at_ hg1]; rfl
  have hgs : W1.cell? ⟨g, 17, none⟩ = some (.slice (some ⟨t, 0, none⟩) n room) := by rw [Lst.at_ hg1]; simp [hdL, hbl]
  have hgs2 : W2.cell? ⟨g, 17, none⟩ = some (.slice (some ⟨t, 0, none⟩) n room) := by rw [Lst.at_ hg2]; simp [hdL, hbl]
  have ONE := Lib.hid (all_oneCell_toArray (hdL_one (room := room) (bs := bs) (t := t) (n := n)))
  clear hg1 hl1 hh1 ht2 k1 k2 hg2 hh2 hl2 hns hnl hW2 hW3 k3 ht3 hh3 hbt hvt hvl hbl h18 hz0 hz1 hz2 hi0
  generalize hdL room bs t n = hd at HR H18 H18' HT HW1 ONE
  go_enter Tryz.func67, Tryz.ntmps67
  go_wp2_with fail
  (with_reducible refine C.out.mono ?_)
  rintro e w' ⟨rfl, rfl⟩
  go_wp2_with (first
    | (refine wpList_load_mid rfl 122 (.tmp 7) rfl g 0 rfl hd _ HR.out Tryz.underlying122 rfl H18.out ?_)
    | (refine wpList_store_mid rfl 122 (.tmp 3) (.tmp 8) rfl w'.heap.size 0 hd.toArray rfl rfl HT.out H18'.out ONE.out ?_; rw [← HW1.out]))
  go_region_law (refine step_app_run rfl (.tmp 13) (.tmp 17) 33 33 rfl (.slice (some ⟨w'.heap.size + 1, 0, none⟩) 0 room) (.slice (some ⟨t, 0, none⟩) n room) (by simp [Act.eval]) (by simp [Act.eval]) (HA.out _ _) ?_)
  all_goals
    go_wp2
    go_ret
    exact ⟨rfl, HE.out.1, HE.out.2⟩

/-- What Set answers, and leaves; what Drop answers. -/
def setN (room : Nat) (es : List Ent) (b : UInt8) : Int := if hasE es b.toNat = false ∧ es.length = room then 10 else 0
def setR (room : Nat) (es : List Ent) (b : UInt8) (x : Th) : List Ent := if hasE es b.toNat = false ∧ es.length = room then es else setE es b x
def dropN (es : List Ent) (b : UInt8) : Int := if hasE es b.toNat = true then 0 else 6
section
variable {w : World} {g t room : Nat} {es : List Ent}
theorem Kept.still {D : Nat → Prop} {w w' : World} (h : Still w w') : Kept D w w' := by obtain ⟨n, rfl⟩ := h; exact (Kept.refl _ _).drewN n
set_option maxRecDepth 100000 in
theorem sset_any (h : Sm w g t room es) (b : UInt8) (x : Th) (z : Int) (hz : z = (b.toNat : Int)) : Calls Tryz.prog 102 #[.pointer (some ⟨g, 0, none⟩), .int .u8 z, ev x] w fun e w' =>
    e = .returned (.int .i64 (setN room es b)) ∧ Sm w' g t room (setR room es b x) ∧ Kept (fun k => k = g ∨ k = t) w w' := by
  subst hz
  cases hb : hasE es b.toNat with
  | true =>
    refine (sset_has h b x hb).mono ?_
    rintro e w' ⟨rfl, h1, h2⟩
    exact ⟨by simp [setN, hb], by simpa [setR, hb] using h1, h2⟩
  | false =>
    by_cases hf : es.length = room
    · refine (sset_full h b x hb hf).mono ?_
      rintro e w' ⟨rfl, hs⟩
      exact ⟨by simp [setN, hb, hf], by simpa [setR, hb, hf] using h.still hs, Kept.still hs⟩
    · refine (sset_more h b x hb (by have := h.few; omega)).mono ?_
      rintro e w' ⟨rfl, h1, h2⟩
      exact ⟨by simp [setN, hf], by simpa [setR, hf] using h1, h2⟩
set_option maxRecDepth 100000 in
theorem sdrop_any (h : Sm w g t room es) (b : UInt8) (z : Int) (hz : z = (b.toNat : Int)) : Calls Tryz.prog 96 #[.pointer (some ⟨g, 0, none⟩), .int .u8 z] w fun e w' =>
    e = .returned (.int .i64 (dropN es b)) ∧ Sm w' g t room (dropE es b) ∧ Kept (fun k => k = g ∨ k = t) w w' := by
  subst hz
  cases hb : hasE es b.toNat with
  | true =>
    refine (sdrop_has h b hb).mono ?_
    rintro e w' ⟨rfl, h1, h2⟩
    exact ⟨by simp [dropN, hb], h1, h2⟩
  | false =>
    refine (sdrop_none h b hb).mono ?_
    rintro e w' ⟨rfl, hs⟩
    exact ⟨by simp [dropN, hb], by have := h.still hs; unfold dropE; rw [hb]; simpa using this, Kept.still hs⟩
set_option maxRecDepth 100000 in
theorem sget_z (h : Sm w g t room es) (b : UInt8) (z : Int) (hz : z = (b.toNat : Int)) : Calls Tryz.prog 97 #[.pointer (some ⟨g, 0, none⟩), .int .u8 z] w fun e w' => e = .returned (.tuple #[ev (getE es b.toNat), .bool (hasE es b.toNat)]) ∧ Still w w' := by
  subst hz
  exact sget_any h.rd b
end
end Go.Proofs.YtgelmhldicmmdaaGreat
