/-
  The keys that every statement of layer 17 asks.
-/
import Derived.Test.YtidiinededalmaaGreatNrLaw
namespace Go.Proofs.YtidiinededalmaaGreat
open Go.RowKit Go.Shelf

theorem NrPost.as {X w' : World} {o : Option KV} {e : Ending} (h : NrPost (fun _ => False) X o e w') {n : Nat} {v : Int} {b : Bool} (hn : (oK o).length = n) (hv : oV o = v) (hb : o.isSome = b) :
    ∃ A c, e = .returned (.tuple #[.agg #[.slice A n c, .int .u64 v], .bool b]) ∧ Below X.heap.size X w' := by
  obtain ⟨A, c, h1, _, _, _, h5⟩ := h
  subst hn hv hb
  exact ⟨A, c, h1, h5.below (Nat.le_refl _) (fun _ q => q.elim)⟩
/-- Two bytes, new. -/
theorem nlit_two (V : World) (a b : UInt8) {x y : Int} (hx : x = (a.toNat : Int)) (hy : y = (b.toNat : Int)) : Byt (V.alloc (.cells #[.int .u8 x, .int .u8 y] 5)) (V.alloc (.cells #[.int .u8 x, .int .u8 y] 5)).heap.size (some ⟨V.heap.size, 0, none⟩) 2 [a, b] :=
  (byt_two V 5 a b hx hy).more (by simp)
theorem nlit_one (V : World) (a : UInt8) {x : Int} (hx : x = (a.toNat : Int)) : Byt (V.alloc (.cells #[.int .u8 x] 5)) (V.alloc (.cells #[.int .u8 x] 5)).heap.size (some ⟨V.heap.size, 0, none⟩) 1 [a] :=
  (byt_one V 5 (u := a) hx).more (by simp)
theorem new_ (w : World) (o : Obj) : Below w.heap.size w (w.alloc o) := (Below.refl _ _).alloc (Nat.le_refl _) _
set_option maxRecDepth 100000 in
set_option maxHeartbeats 4000000 in
theorem nalive_any (w : World) : Calls Tryz.prog 7 #[] w fun e w' => e = .returned (.bool true) ∧ Below w.heap.size w w' := by
  obtain ⟨W0, hW0⟩ : ∃ W, (((w.alloc (.cells #[.int .u8 1] 5)).alloc (.cells #[.int .u8 1, .int .u8 2] 5)).alloc (.cells #[.slice (some ⟨w.heap.size, 0, none⟩) 1 1, .int .u64 5, .slice (some ⟨w.heap.size + 1, 0, none⟩) 2 2, .int .u64 6] 34)) = W := ⟨_, rfl⟩
  have b0 : Below w.heap.size w W0 := by
    rw [← hW0]
    exact (((Below.refl _ _).alloc (Nat.le_refl _) _).alloc (by simp) _).alloc (by simp; omega) _
  have s0 : W0.heap.size = w.heap.size + 3 := by rw [← hW0]; simp
  have HW0 := Lib.hid hW0
  have B0 := Lib.hid b0
  clear hW0 b0
  obtain ⟨ps, hps⟩ : ∃ ps : List PV, [⟨some ⟨w.heap.size, 0, none⟩, 1, 1, [1], 5⟩, ⟨some ⟨w.heap.size + 1, 0, none⟩, 2, 2, [1, 2], 6⟩] = ps := ⟨_, rfl⟩
  have b1 : Byt W0 W0.heap.size (some ⟨w.heap.size, 0, none⟩) 1 [1] := by
    rw [← HW0.out]
    exact (((byt_one w 5 (u := 1) rfl).below (((Below.refl _ _).alloc (by simp) _).alloc (by simp) _)).more (by simp))
  have b2 : Byt W0 W0.heap.size (some ⟨w.heap.size + 1, 0, none⟩) 2 [1, 2] := by
    rw [← HW0.out]
    have := byt_two (w.alloc (.cells #[.int .u8 1] 5)) 5 1 2 (x := 1) (y := 2) rfl rfl
    rw [World.size_alloc] at this
    exact (this.below ((Below.refl _ _).alloc (by simp) _)).more (by simp)
  have hprs : Prs W0 W0.heap.size (some ⟨w.heap.size + 1 + 1, 0, none⟩) 2 ps := by
    have b3 : Blk W0 (w.heap.size + 1 + 1) #[.slice (some ⟨w.heap.size, 0, none⟩) 1 1, .int .u64 5, .slice (some ⟨w.heap.size + 1, 0, none⟩) 2 2, .int .u64 6] := by
      rw [← HW0.out]
      have := Blk.new ((w.alloc (.cells #[.int .u8 1] 5)).alloc (.cells #[.int .u8 1, .int .u8 2] 5)) 34 #[.slice (some ⟨w.heap.size, 0, none⟩) 1 1, .int .u64 5, .slice (some ⟨w.heap.size + 1, 0, none⟩) 2 2, .int .u64 6]
      simpa only [World.size_alloc] using this
    subst hps
    refine ⟨rfl, by unfold maxLen; omega, fun j p hp => ?_, fun _ => ⟨_, rfl, by simp; omega, fun j p hp => ?_⟩⟩
    · match j, hp with
      | 0, hp => cases hp; exact b1
      | 1, hp => cases hp; exact b2
    · match j, hp with
      | 0, hp => cases hp; exact ⟨b3.cell 0, b3.cell 1⟩
      | 1, hp => cases hp; exact ⟨b3.cell 2, b3.cell 3⟩
  have hkp : Kps W0 W0.heap.size ps := fun p hp => by
    subst hps
    simp at hp
    rcases hp with rfl | rfl
    · exact ⟨b1, Nat.le_refl _⟩
    · exact ⟨b2, Nat.le_refl _⟩
  have hrs : Rsn ps := by subst hps; simp [Rsn, cmpL]
  have hok := nrT_ok hrs (fun p hp => by subst hps; simp at hp; rcases hp with rfl | rfl <;> simp) (by subst hps; simp)
  have hlist : olist (nrT ps) = [([1], 5), ([1, 2], 6)] := by rw [hok.list]; subst hps; rfl
  have H1 := Lib.hid (ntree_any _ 2 2 W0.heap.size ps W0 hprs hkp (Nat.le_refl _) (by omega) hrs (fun p hp => by subst hps; simp at hp; rcases hp with rfl | rfl <;> simp))
  have OK := Lib.hid (And.intro hok hlist)
  obtain ⟨t, ht⟩ : ∃ t, nrT ps = t := ⟨_, rfl⟩
  have OKt := Lib.hid (show owf t ∧ ofull t ∧ (∀ q ∈ olist t, q.1.length ≤ 60000) ∧ olist t = [([1], 5), ([1, 2], 6)] from ht ▸ ⟨hok.wf, hok.full, hok.len, hlist⟩)
  rw [ht] at H1
  clear hprs hkp hrs hok hlist hps b1 b2 ht OK
  go_enter Tryz.func7, Tryz.ntmps7
  go_wp2_with fail
  rw [HW0.out]
  (with_reducible refine H1.out.mono ?_)
  rintro e w1 ⟨p, rfl, t1, q1⟩
  have B1 := Lib.hid (B0.out.trans (q1.mono B0.out.size))
  have T1 := Lib.hid t1
  clear t1 q1 H1 s0
  obtain ⟨X1, hX1⟩ : ∃ W, w1.alloc (.cells #[.int .u8 1, .int .u8 1] 5) = W := ⟨_, rfl⟩
  have bx1 : Below w1.heap.size w1 X1 := by rw [← hX1]; exact new_ _ _
  have H2 := nceil_any t p (some ⟨w1.heap.size, 0, none⟩) 2 2 [1, 1] X1 (T1.out.below bx1) OKt.out.1 OKt.out.2.1 OKt.out.2.2.1 (by rw [← hX1]; exact nlit_two w1 1 1 rfl rfl) (by omega) (by omega)
  rw [OKt.out.2.2.2] at H2
  have H2 := H2.mono fun e w' h => h.as (n := 2) (v := 6) (b := true) rfl rfl rfl
  have H2 := Lib.hid H2
  have HX1 := Lib.hid hX1
  have BX1 := Lib.hid bx1
  clear hX1 bx1
  go_wp2_with fail
  rw [HX1.out]
  (with_reducible refine H2.out.mono ?_)
  rintro e w2 ⟨A1, c1, rfl, q2⟩
  have r2 : Below w1.heap.size w1 w2 := BX1.out.trans (q2.mono BX1.out.size)
  have T2 := Lib.hid (T1.out.below r2)
  have B2 := Lib.hid (B1.out.trans (r2.mono B1.out.size))
  clear r2 q2 H2
  obtain ⟨Y1, hY1⟩ : ∃ W, w2.alloc (.cells #[.slice A1 2 c1, .int .u64 6] 31) = W := ⟨_, rfl⟩
  have by1 : Below w2.heap.size w2 Y1 := by rw [← hY1]; exact new_ _ _
  have ky1 : Blk Y1 w2.heap.size #[.slice A1 2 c1, .int .u64 6] := by rw [← hY1]; exact Blk.new _ _ _
  have sy1 : Y1.heap.size = w2.heap.size + 1 := by rw [← hY1]; simp
  have TY1 := T2.out.below by1
  obtain ⟨X2, hX2⟩ : ∃ W, Y1.alloc (.cells #[.int .u8 1, .int .u8 1] 5) = W := ⟨_, rfl⟩
  have bx2 : Below Y1.heap.size Y1 X2 := by rw [← hX2]; exact new_ _ _
  have H3 := nfloor_any t p (some ⟨Y1.heap.size, 0, none⟩) 2 2 [1, 1] X2 (TY1.below bx2) OKt.out.1 OKt.out.2.1 OKt.out.2.2.1 (by rw [← hX2]; exact nlit_two Y1 1 1 rfl rfl) (by omega)
  rw [OKt.out.2.2.2] at H3
  have H3 := H3.mono fun e w' h => h.as (n := 1) (v := 5) (b := true) rfl rfl rfl
  rw [sy1] at H3
  have H3 := Lib.hid H3
  have HY1 := Lib.hid hY1
  have KY1 := Lib.hid ky1
  have BY1 := Lib.hid by1
  have HX2 := Lib.hid hX2
  have BX2 := Lib.hid bx2
  clear hY1 ky1 by1 sy1 TY1 hX2 bx2
  go_wp2_with fail
  rw [HY1.out, HX2.out]
  (with_reducible refine H3.out.mono ?_)
  rintro e w3 ⟨A2, c2, rfl, q3⟩
  have r3 : Below Y1.heap.size Y1 w3 := BX2.out.trans (q3.mono BX2.out.size)
  have R3 := Lib.hid r3
  have T3 := Lib.hid ((T2.out.below BY1.out).below r3)
  have B3 := Lib.hid (B2.out.trans ((BY1.out.trans (r3.mono BY1.out.size)).mono B2.out.size))
  have K1 := Lib.hid (KY1.out.below r3 KY1.out.lt)
  clear r3 q3 H3
  obtain ⟨Y2, hY2⟩ : ∃ W, w3.alloc (.cells #[.slice A2 1 c2, .int .u64 5] 31) = W := ⟨_, rfl⟩
  have by2 : Below w3.heap.size w3 Y2 := by rw [← hY2]; exact new_ _ _
  have ky2 : Blk Y2 w3.heap.size #[.slice A2 1 c2, .int .u64 5] := by rw [← hY2]; exact Blk.new _ _ _
  have sy2 : Y2.heap.size = w3.heap.size + 1 := by rw [← hY2]; simp
  have TY2 := T3.out.below by2
  obtain ⟨X3, hX3⟩ : ∃ W, Y2.alloc (.cells #[.int .u8 1, .int .u8 2] 5) = W := ⟨_, rfl⟩
  have bx3 : Below Y2.heap.size Y2 X3 := by rw [← hX3]; exact new_ _ _
  have H4 := nhigher_any t p (some ⟨Y2.heap.size, 0, none⟩) 2 2 [1, 2] X3 (TY2.below bx3) OKt.out.1 OKt.out.2.1 OKt.out.2.2.1 (by rw [← hX3]; exact nlit_two Y2 1 2 rfl rfl) (by omega)
  rw [OKt.out.2.2.2] at H4
  have H4 := H4.mono fun e w' h => h.as (n := 0) (v := 0) (b := false) rfl rfl rfl
  rw [sy2] at H4
  have H4 := Lib.hid H4
  have HY2 := Lib.hid hY2
  have KY2 := Lib.hid ky2
  have BY2 := Lib.hid by2
  have HX3 := Lib.hid hX3
  have BX3 := Lib.hid bx3
  clear hY2 ky2 by2 sy2 TY2 hX3 bx3
  go_wp2_with fail
  rw [HY2.out, HX3.out]
  (with_reducible refine H4.out.mono ?_)
  rintro e w4 ⟨A3, c3, rfl, q4⟩
  have r4 : Below Y2.heap.size Y2 w4 := BX3.out.trans (q4.mono BX3.out.size)
  have R4 := Lib.hid r4
  have T4 := Lib.hid ((T3.out.below BY2.out).below r4)
  have B4 := Lib.hid (B3.out.trans ((BY2.out.trans (r4.mono BY2.out.size)).mono B3.out.size))
  have K1 := Lib.hid (K1.out.below (BY2.out.trans (r4.mono BY2.out.size)) K1.out.lt)
  have K2 := Lib.hid (KY2.out.below r4 KY2.out.lt)
  clear r4 q4 H4
  obtain ⟨Y3, hY3⟩ : ∃ W, w4.alloc (.cells #[.slice A3 0 c3, .int .u64 0] 31) = W := ⟨_, rfl⟩
  have by3 : Below w4.heap.size w4 Y3 := by rw [← hY3]; exact new_ _ _
  have ky3 : Blk Y3 w4.heap.size #[.slice A3 0 c3, .int .u64 0] := by rw [← hY3]; exact Blk.new _ _ _
  have sy3 : Y3.heap.size = w4.heap.size + 1 := by rw [← hY3]; simp
  have TY3 := T4.out.below by3
  obtain ⟨X4, hX4⟩ : ∃ W, Y3.alloc (.cells #[.int .u8 1] 5) = W := ⟨_, rfl⟩
  have bx4 : Below Y3.heap.size Y3 X4 := by rw [← hX4]; exact new_ _ _
  have H5 := nlower_any t p (some ⟨Y3.heap.size, 0, none⟩) 1 1 [1] X4 (TY3.below bx4) OKt.out.1 OKt.out.2.1 OKt.out.2.2.1 (by rw [← hX4]; exact nlit_one Y3 1 rfl) (by omega) (by omega)
  rw [OKt.out.2.2.2] at H5
  have H5 := H5.mono fun e w' h => h.as (n := 0) (v := 0) (b := false) rfl rfl rfl
  rw [sy3] at H5
  have H5 := Lib.hid H5
  have HY3 := Lib.hid hY3
  have KY3 := Lib.hid ky3
  have BY3 := Lib.hid by3
  have HX4 := Lib.hid hX4
  have BX4 := Lib.hid bx4
  clear hY3 ky3 by3 sy3 TY3 hX4 bx4
  go_wp2_with fail
  rw [HY3.out, HX4.out]
  (with_reducible refine H5.out.mono ?_)
  rintro e w5 ⟨A4, c4, rfl, q5⟩
  have r5 : Below Y3.heap.size Y3 w5 := BX4.out.trans (q5.mono BX4.out.size)
  have R5 := Lib.hid r5
  have T5 := Lib.hid ((T4.out.below BY3.out).below r5)
  have B5 := Lib.hid (B4.out.trans ((BY3.out.trans (r5.mono BY3.out.size)).mono B4.out.size))
  have K1 := Lib.hid (K1.out.below (BY3.out.trans (r5.mono BY3.out.size)) K1.out.lt)
  have K2 := Lib.hid (K2.out.below (BY3.out.trans (r5.mono BY3.out.size)) K2.out.lt)
  have K3 := Lib.hid (KY3.out.below r5 KY3.out.lt)
  clear r5 q5 H5
  obtain ⟨Y4, hY4⟩ : ∃ W, w5.alloc (.cells #[.slice A4 0 c4, .int .u64 0] 31) = W := ⟨_, rfl⟩
  have by4 : Below w5.heap.size w5 Y4 := by rw [← hY4]; exact new_ _ _
  have ky4 : Blk Y4 w5.heap.size #[.slice A4 0 c4, .int .u64 0] := by rw [← hY4]; exact Blk.new _ _ _
  have sy4 : Y4.heap.size = w5.heap.size + 1 := by rw [← hY4]; simp
  have TY4 := T5.out.below by4
  have H6 := nmin_any t p Y4 TY4 OKt.out.2.1 OKt.out.2.2.1
  rw [OKt.out.2.2.2] at H6
  have H6 := H6.mono fun e w' h => h.as (n := 1) (v := 5) (b := true) rfl rfl rfl
  have H6 := Lib.hid H6
  have HY4 := Lib.hid hY4
  have KY4 := Lib.hid ky4
  have BY4 := Lib.hid by4
  clear hY4 ky4 by4 sy4 TY4
  go_wp2_with fail
  rw [HY4.out]
  (with_reducible refine H6.out.mono ?_)
  rintro e w6 ⟨A5, c5, rfl, q6⟩
  have r6 : Below Y4.heap.size Y4 w6 := q6
  have R6 := Lib.hid r6
  have T6 := Lib.hid ((T5.out.below BY4.out).below r6)
  have B6 := Lib.hid (B5.out.trans ((BY4.out.trans (r6.mono BY4.out.size)).mono B5.out.size))
  have K1 := Lib.hid (K1.out.below (BY4.out.trans (r6.mono BY4.out.size)) K1.out.lt)
  have K2 := Lib.hid (K2.out.below (BY4.out.trans (r6.mono BY4.out.size)) K2.out.lt)
  have K3 := Lib.hid (K3.out.below (BY4.out.trans (r6.mono BY4.out.size)) K3.out.lt)
  have K4 := Lib.hid (KY4.out.below r6 KY4.out.lt)
  clear r6 q6 H6
  obtain ⟨Y5, hY5⟩ : ∃ W, w6.alloc (.cells #[.slice A5 1 c5, .int .u64 5] 31) = W := ⟨_, rfl⟩
  have by5 : Below w6.heap.size w6 Y5 := by rw [← hY5]; exact new_ _ _
  have ky5 : Blk Y5 w6.heap.size #[.slice A5 1 c5, .int .u64 5] := by rw [← hY5]; exact Blk.new _ _ _
  have sy5 : Y5.heap.size = w6.heap.size + 1 := by rw [← hY5]; simp
  have TY5 := T6.out.below by5
  have H7 := nmax_any t p Y5 TY5 OKt.out.2.1 OKt.out.2.2.1
  rw [OKt.out.2.2.2] at H7
  have H7 := H7.mono fun e w' h => h.as (n := 2) (v := 6) (b := true) rfl rfl rfl
  have H7 := Lib.hid H7
  have HY5 := Lib.hid hY5
  have KY5 := Lib.hid ky5
  have BY5 := Lib.hid by5
  clear hY5 ky5 by5 sy5 TY5
  go_wp2_with fail
  rw [HY5.out]
  (with_reducible refine H7.out.mono ?_)
  rintro e w7 ⟨A6, c6, rfl, q7⟩
  have r7 : Below Y5.heap.size Y5 w7 := q7
  have R7 := Lib.hid r7
  have T7 := Lib.hid ((T6.out.below BY5.out).below r7)
  have B7 := Lib.hid (B6.out.trans ((BY5.out.trans (r7.mono BY5.out.size)).mono B6.out.size))
  have K1 := Lib.hid (K1.out.below (BY5.out.trans (r7.mono BY5.out.size)) K1.out.lt)
  have K2 := Lib.hid (K2.out.below (BY5.out.trans (r7.mono BY5.out.size)) K2.out.lt)
  have K3 := Lib.hid (K3.out.below (BY5.out.trans (r7.mono BY5.out.size)) K3.out.lt)
  have K4 := Lib.hid (K4.out.below (BY5.out.trans (r7.mono BY5.out.size)) K4.out.lt)
  have K5 := Lib.hid (KY5.out.below r7 KY5.out.lt)
  clear r7 q7 H7
  obtain ⟨Y6, hY6⟩ : ∃ W, w7.alloc (.cells #[.slice A6 2 c6, .int .u64 6] 31) = W := ⟨_, rfl⟩
  have by6 : Below w7.heap.size w7 Y6 := by rw [← hY6]; exact new_ _ _
  have ky6 : Blk Y6 w7.heap.size #[.slice A6 2 c6, .int .u64 6] := by rw [← hY6]; exact Blk.new _ _ _
  have k1 := K1.out.below by6 K1.out.lt
  have e1_0 := k1.cell 0
  have e1_1 := k1.cell 1
  have k2 := K2.out.below by6 K2.out.lt
  have e2_0 := k2.cell 0
  have e2_1 := k2.cell 1
  have k5 := K5.out.below by6 K5.out.lt
  have e5_1 := k5.cell 1
  have e6_1 := ky6.cell 1
  rw [← hY6] at e1_0
  rw [← hY6] at e1_1
  rw [← hY6] at e2_0
  rw [← hY6] at e2_1
  rw [← hY6] at e5_1
  rw [← hY6] at e6_1
  have FB := Lib.hid (show Below w.heap.size w (w7.alloc (.cells #[.slice A6 2 c6, .int .u64 6] 31)) from by rw [hY6]; exact B7.out.trans (by6.mono B7.out.size))
  clear k1 k2 k5 ky6 by6 hY6
  go_wp2_with fail
  go_ret
  exact ⟨rfl, FB.out⟩
end Go.Proofs.YtidiinededalmaaGreat
