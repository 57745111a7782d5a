/-
  The two keys that every statement asks.
-/
import Derived.Test.YtfmkhafpbfmadaaGreatFnLaw
namespace Go.Proofs.YtfmkhafpbfmadaaGreat
open Go.RowKit Go.Shelf

theorem alT_12 : ogo (some alT) [1, 2] 0 = [some (1, 5), some (2, 6)] := by decide
theorem alT_13 : ogo (some alT) [1, 3] 0 = [some (1, 5)] := by decide
/-- Two bytes, new. -/
theorem lit_two (V : World) (a b : UInt8) {x y : Int} (hx : x = (a.toNat : Int)) (hy : y = (b.toNat : Int)) : Byt (V.alloc (.cells #[.int .u8 x, .int .u8 y] 5)) (V.alloc (.cells #[.int .u8 x, .int .u8 y] 5)).heap.size (some ⟨V.heap.size, 0, none⟩) 2 [a, b] :=
  (byt_two V 5 a b hx hy).more (by simp)
theorem still_below {w w' : World} (h : Below w.heap.size w w') (o : Obj) : Below w.heap.size w (w'.alloc o) := h.alloc h.size o
set_option maxRecDepth 100000 in
set_option maxHeartbeats 2000000 in
theorem falive_any (w : World) : Calls Tryz.prog 8 #[] w fun e w' => e = .returned (.bool true) ∧ Below w.heap.size w w' := by
  obtain ⟨W0, hW0⟩ : ∃ W, (((w.alloc (.cells #[.int .u8 1] 5)).alloc (.cells #[.int .u8 1, .int .u8 2] 5)).alloc (.cells #[.slice (some ⟨w.heap.size, 0, none⟩) 1 1, .int .u64 5, .slice (some ⟨w.heap.size + 1, 0, none⟩) 2 2, .int .u64 6] 37)) = W := ⟨_, rfl⟩
  have b0 : Below w.heap.size w W0 := by
    rw [← hW0]
    exact (((Below.refl _ _).alloc (Nat.le_refl _) _).alloc (by simp) _).alloc (by simp; omega) _
  have s0 : W0.heap.size = w.heap.size + 3 := by rw [← hW0]; simp
  have HW0 := Lib.hid hW0
  have B0 := Lib.hid b0
  clear hW0 b0
  obtain ⟨ps, hps⟩ : ∃ ps : List PV, [⟨some ⟨w.heap.size, 0, none⟩, 1, 1, [1], 5⟩, ⟨some ⟨w.heap.size + 1, 0, none⟩, 2, 2, [1, 2], 6⟩] = ps := ⟨_, rfl⟩
  have b1 : Byt W0 W0.heap.size (some ⟨w.heap.size, 0, none⟩) 1 [1] := by
    rw [← HW0.out]
    exact (((byt_one w 5 (u := 1) rfl).below (((Below.refl _ _).alloc (by simp) _).alloc (by simp) _)).more (by simp))
  have b2 : Byt W0 W0.heap.size (some ⟨w.heap.size + 1, 0, none⟩) 2 [1, 2] := by
    rw [← HW0.out]
    have := byt_two (w.alloc (.cells #[.int .u8 1] 5)) 5 1 2 (x := 1) (y := 2) rfl rfl
    rw [World.size_alloc] at this
    exact (this.below ((Below.refl _ _).alloc (by simp) _)).more (by simp)
  have hprs : Prs W0 W0.heap.size (some ⟨w.heap.size + 1 + 1, 0, none⟩) 2 ps := by
    have b3 : Blk W0 (w.heap.size + 1 + 1) #[.slice (some ⟨w.heap.size, 0, none⟩) 1 1, .int .u64 5, .slice (some ⟨w.heap.size + 1, 0, none⟩) 2 2, .int .u64 6] := by
      rw [← HW0.out]
      have := Blk.new ((w.alloc (.cells #[.int .u8 1] 5)).alloc (.cells #[.int .u8 1, .int .u8 2] 5)) 37 #[.slice (some ⟨w.heap.size, 0, none⟩) 1 1, .int .u64 5, .slice (some ⟨w.heap.size + 1, 0, none⟩) 2 2, .int .u64 6]
      simpa only [World.size_alloc] using this
    subst hps
    refine ⟨rfl, by unfold maxLen; omega, fun j p hp => ?_, fun _ => ⟨_, rfl, by simp; omega, fun j p hp => ?_⟩⟩
    · match j, hp with
      | 0, hp => cases hp; exact b1
      | 1, hp => cases hp; exact b2
    · match j, hp with
      | 0, hp => cases hp; exact ⟨b3.cell 0, b3.cell 1⟩
      | 1, hp => cases hp; exact ⟨b3.cell 2, b3.cell 3⟩
  have hkp : Kps W0 W0.heap.size ps := fun p hp => by
    subst hps
    simp at hp
    rcases hp with rfl | rfl
    · exact ⟨b1, Nat.le_refl _⟩
    · exact ⟨b2, Nat.le_refl _⟩
  have hrs : Rsn ps := by subst hps; simp [Rsn, cmpL]
  have hT : canT ps = some alT := by subst hps; rfl
  have H1 := ftree_any _ 2 2 W0.heap.size ps W0 hprs hkp (Nat.le_refl _) (by omega) hrs (fun p hp => by subst hps; simp at hp; rcases hp with rfl | rfl <;> simp)
  rw [hT] at H1
  have H1 := Lib.hid H1
  clear hprs hkp hrs hT hps b1 b2
  go_enter Tryz.func8, Tryz.ntmps8
  go_wp2_with fail
  rw [HW0.out]
  (with_reducible refine H1.out.mono ?_)
  rintro e w1 ⟨p, rfl, t1, q1⟩
  have B1 := Lib.hid (B0.out.trans (q1.mono B0.out.size))
  have T1 := Lib.hid t1
  -- Get
  obtain ⟨X1, hX1⟩ : ∃ W, w1.alloc (.cells #[.int .u8 1, .int .u8 2] 5) = W := ⟨_, rfl⟩
  have bx1 : Below w1.heap.size w1 X1 := by rw [← hX1]; exact still_below (Below.refl _ _) _
  have H2 := fget_any (some alT) p (some ⟨w1.heap.size, 0, none⟩) 2 2 [1, 2] X1 (t1.below bx1) (by rw [← hX1]; exact lit_two w1 1 2 rfl rfl) (Nat.le_refl _) (by omega)
  rw [alT_12] at H2
  have H2 := Lib.hid H2
  have HX1 := Lib.hid hX1
  have BX1 := Lib.hid bx1
  clear hX1 bx1 t1 q1 H1 s0
  go_wp2_with fail
  rw [HX1.out]
  (with_reducible refine H2.out.mono ?_)
  rintro e w2 ⟨rfl, q2⟩
  rw [show (getF (([some (1, 5), some (2, 6)] : List (Option (Nat × Int))).filterMap id) 2).1 = 6 from rfl, show (getF (([some (1, 5), some (2, 6)] : List (Option (Nat × Int))).filterMap id) 2).2 = true from rfl]
  have q12 : Below w1.heap.size w1 w2 := BX1.out.trans (q2.mono BX1.out.size)
  have B2 := Lib.hid (B1.out.trans (q12.mono B1.out.size))
  have T2 := Lib.hid (T1.out.below q12)
  -- Longest
  obtain ⟨X2, hX2⟩ : ∃ W, w2.alloc (.cells #[.int .u8 1, .int .u8 3] 5) = W := ⟨_, rfl⟩
  have bx2 : Below w2.heap.size w2 X2 := by rw [← hX2]; exact still_below (Below.refl _ _) _
  have H3 := flong_any (some alT) p (some ⟨w2.heap.size, 0, none⟩) 2 2 [1, 3] X2 (T2.out.below bx2) (by rw [← hX2]; exact lit_two w2 1 3 rfl rfl) (Nat.le_refl _) (by omega)
  rw [alT_13] at H3
  have H3 := Lib.hid H3
  have HX2 := Lib.hid hX2
  have BX2 := Lib.hid bx2
  clear hX2 bx2 q2 q12 H2
  go_wp2_with fail
  rw [HX2.out]
  (with_reducible refine H3.out.mono ?_)
  rintro e w3 ⟨A3, c3, rfl, _, q3⟩
  rw [show (lastF (([some (1, 5)] : List (Option (Nat × Int))).filterMap id)).1 = 1 from rfl, show (lastF (([some (1, 5)] : List (Option (Nat × Int))).filterMap id)).2.1 = 5 from rfl, show (lastF (([some (1, 5)] : List (Option (Nat × Int))).filterMap id)).2.2 = true from rfl]
  have q23 : Below w2.heap.size w2 w3 := BX2.out.trans (q3.mono BX2.out.size)
  have B3 := Lib.hid (B2.out.trans (q23.mono B2.out.size))
  have T3 := Lib.hid (T2.out.below q23)
  -- the pair's box, and Has
  obtain ⟨Y3, hY3⟩ : ∃ W, w3.alloc (.cells #[.slice A3 1 c3, .int .u64 5] 34) = W := ⟨_, rfl⟩
  obtain ⟨X3, hX3⟩ : ∃ W, Y3.alloc (.cells #[.int .u8 1, .int .u8 3] 5) = W := ⟨_, rfl⟩
  have by3 : Below w3.heap.size w3 Y3 := by rw [← hY3]; exact still_below (Below.refl _ _) _
  have bx3 : Below w3.heap.size w3 X3 := by rw [← hX3]; exact still_below by3 _
  have H4 := fhas_any (some alT) p (some ⟨Y3.heap.size, 0, none⟩) 2 2 [1, 3] X3 (T3.out.below bx3) (by rw [← hX3]; exact lit_two Y3 1 3 rfl rfl) (Nat.le_refl _) (by omega)
  rw [alT_13, show Y3.heap.size = w3.heap.size + 1 by rw [← hY3]; simp] at H4
  have H4 := Lib.hid H4
  have HX3 := Lib.hid hX3
  have HY3 := Lib.hid hY3
  have BX3 := Lib.hid bx3
  clear hX3 bx3 by3 q3 q23 H3 hY3
  go_wp2_with fail
  rw [HY3.out, HX3.out]
  (with_reducible refine H4.out.mono ?_)
  rintro e w4 ⟨rfl, q4⟩
  rw [show (getF (([some (1, 5)] : List (Option (Nat × Int))).filterMap id) 2).2 = false from rfl]
  have q34 : Below w3.heap.size w3 w4 := BX3.out.trans (q4.mono BX3.out.size)
  have B4 := Lib.hid (B3.out.trans (q34.mono B3.out.size))
  have T4 := Lib.hid (T3.out.below q34)
  -- Beginnings
  obtain ⟨X4, hX4⟩ : ∃ W, w4.alloc (.cells #[.int .u8 1, .int .u8 2] 5) = W := ⟨_, rfl⟩
  have bx4 : Below w4.heap.size w4 X4 := by rw [← hX4]; exact still_below (Below.refl _ _) _
  have H5 := fbegs_any (some alT) p (some ⟨w4.heap.size, 0, none⟩) 2 2 [1, 2] X4 (T4.out.below bx4) (by rw [← hX4]; exact lit_two w4 1 2 rfl rfl) (Nat.le_refl _) (by omega)
  rw [alT_12] at H5
  have H5 := Lib.hid H5
  have HX4 := Lib.hid hX4
  have BX4 := Lib.hid bx4
  clear hX4 bx4 q4 q34 H4
  go_wp2_with fail
  rw [HX4.out]
  (with_reducible refine H5.out.mono ?_)
  rintro e w5 ⟨A5, c5, y5, rfl, _, _, l5, q5⟩
  have hl5 : y5.length = 2 := by
    have := congrArg List.length l5
    rwa [List.length_map, List.length_map] at this
  rw [hl5]
  have q45 : Below w4.heap.size w4 w5 := BX4.out.trans (q5.mono BX4.out.size)
  have B5 := Lib.hid (B4.out.trans (q45.mono B4.out.size))
  have T5 := Lib.hid (T4.out.below q45)
  -- Steps
  obtain ⟨X5, hX5⟩ : ∃ W, w5.alloc (.cells #[.int .u8 1, .int .u8 2] 5) = W := ⟨_, rfl⟩
  have bx5 : Below w5.heap.size w5 X5 := by rw [← hX5]; exact still_below (Below.refl _ _) _
  have H6 := fsteps_any (some alT) p (some ⟨w5.heap.size, 0, none⟩) 2 2 [1, 2] X5 (T5.out.below bx5) (by rw [← hX5]; exact lit_two w5 1 2 rfl rfl) (Nat.le_refl _) (by omega)
  rw [alT_12] at H6
  have H6 := Lib.hid H6
  have HX5 := Lib.hid hX5
  have BX5 := Lib.hid bx5
  clear hX5 bx5 q5 q45 H5 l5 hl5
  go_wp2_with fail
  rw [HX5.out]
  (with_reducible refine H6.out.mono ?_)
  rintro e w6 ⟨rfl, q6⟩
  have q56 : Below w5.heap.size w5 w6 := BX5.out.trans (q6.mono BX5.out.size)
  have B6 := Lib.hid (B5.out.trans (q56.mono B5.out.size))
  clear q6 q56 H6
  go_wp2_with fail
  go_ret
  exact ⟨rfl, B6.out⟩
end Go.Proofs.YtfmkhafpbfmadaaGreat
