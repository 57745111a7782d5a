/-
  Trees as they are asked behind each other; the two keys that every statement asks.
-/
import Derived.Test.YtcfokkojoppmkaaGreatDoorBuild
import Derived.Test.YtcfokkojoppmkaaGreatDoorShape
namespace Go.Proofs.YtcfokkojoppmkaaGreatDoor
open Go.RowKit Go.Shelf

theorem OTre.below {w w' : World} {t : Option (Nn × Fo)} {p : Option Addr} (h : OTre w (· < w.heap.size) t p) (hb : Below w.heap.size w w') : OTre w' (· < w'.heap.size) t p := by
  cases t with
  | none => exact h
  | some xk =>
    obtain ⟨g, e, h1⟩ := h
    exact ⟨g, e, (h1.below (fun _ q => q) hb).mono (fun i hi => Nat.lt_of_lt_of_le hi hb.size)⟩
theorem OTre.mono {w : World} {S S' : Nat → Prop} {t : Option (Nn × Fo)} {p : Option Addr} (h : OTre w S t p) (hS : ∀ i, S i → S' i) : OTre w S' t p := by
  cases t with
  | none => exact h
  | some xk =>
    obtain ⟨g, e, h1⟩ := h
    exact ⟨g, e, h1.mono hS⟩
theorem OTre.here {w : World} {S : Nat → Prop} {t : Option (Nn × Fo)} {p : Option Addr} (h : OTre w S t p) : OTre w (· < w.heap.size) t p := by
  cases t with
  | none => exact h
  | some xk =>
    obtain ⟨g, e, h1⟩ := h
    exact ⟨g, e, h1.there.mono (fun i hi => hi.2)⟩
def alT : Nn × Fo := (⟨false, 1, [1], 5, true⟩, .cons 2 ⟨true, 1, [], 6, true⟩ .nil .nil)
theorem alT_is : cT 1 3 [([1], 5), ([1, 2], 6)] = alT := by rfl
theorem alT_fits : Fits (some alT) := by
  refine ⟨fun v hv => ?_, by decide⟩
  simp only [otvis, alT, tvis, Fo.vis, List.mem_cons, List.append_nil, List.nil_append, List.not_mem_nil, or_false] at hv
  rcases hv with rfl | rfl <;> simp
theorem alT_sh : oshL (some alT) = [52, 60, 48, 49, 61, 53, 58, 48, 50, 76, 61, 54, 62] := by
  have d : ∀ n, n < 10 → Lib.decDigits n = [UInt8.ofNat (48 + n)] := fun n hn => by
    rw [Lib.decDigits]
    simp [hn]
    try omega
  simp only [oshL, alT, shL, begL, valL, endL, Fo.sh, Fo.len, if_true, Bool.false_eq_true, if_false]
  rw [show kindN (0 + 1) = 4 from rfl, show Int.toNat 5 = 5 from rfl, show Int.toNat 6 = 6 from rfl, d 4 (by omega), d 5 (by omega), d 6 (by omega)]
  decide
theorem alT_fine : (otvis (some alT)).all Vt.fine = true := by decide
theorem alT_deep : dpV (otvis (some alT)) = 2 := by decide
theorem alT_cnt : cntV (otvis (some alT)) = 2 := by decide
theorem alT_list : (listV (otvis (some alT))).length = 2 := by rfl
theorem alT_points : (pointV (otvis (some alT))).length = 1 := by rfl

set_option maxRecDepth 100000 in
set_option maxHeartbeats 1000000 in
theorem calive_any (w : World) (htb : Tb w) : Calls Tryz.prog 10 #[] w fun e w' => e = .returned (.bool true) ∧ Below w.heap.size w w' := by
  obtain ⟨W0, hW0⟩ : ∃ W, (((w.alloc (.cells #[.int .u8 1] 5)).alloc (.cells #[.int .u8 1, .int .u8 2] 5)).alloc (.cells #[.slice (some ⟨w.heap.size, 0, none⟩) 1 1, .int .u64 5, .slice (some ⟨w.heap.size + 1, 0, none⟩) 2 2, .int .u64 6] 79)) = W := ⟨_, rfl⟩
  have b0 : Below w.heap.size w W0 := by
    rw [← hW0]
    exact (((Below.refl _ _).alloc (Nat.le_refl _) _).alloc (by simp) _).alloc (by simp; omega) _
  have s0 : W0.heap.size = w.heap.size + 3 := by rw [← hW0]; simp
  have HTB := Lib.hid htb
  have HW0 := Lib.hid hW0
  have B0 := Lib.hid b0
  clear htb hW0 b0
  go_enter Tryz.func10, Tryz.ntmps10
  obtain ⟨ps, hps⟩ : ∃ ps : List PV, [⟨some ⟨w.heap.size, 0, none⟩, 1, 1, [1], 5⟩, ⟨some ⟨w.heap.size + 1, 0, none⟩, 2, 2, [1, 2], 6⟩] = ps := ⟨_, rfl⟩
  have hprs : Prs W0 W0.heap.size (some ⟨w.heap.size + 1 + 1, 0, none⟩) 2 ps := by
    have b1 : Byt W0 W0.heap.size (some ⟨w.heap.size, 0, none⟩) 1 [1] := by
      rw [← HW0.out]
      exact (((byt_one w 5 (u := 1) rfl).below (((Below.refl _ _).alloc (by simp) _).alloc (by simp) _)).more (by simp))
    have b2 : Byt W0 W0.heap.size (some ⟨w.heap.size + 1, 0, none⟩) 2 [1, 2] := by
      rw [← HW0.out]
      have := byt_two (w.alloc (.cells #[.int .u8 1] 5)) 5 1 2 (x := 1) (y := 2) rfl rfl
      rw [World.size_alloc] at this
      exact (this.below ((Below.refl _ _).alloc (by simp) _)).more (by simp)
    have b3 : Blk W0 (w.heap.size + 1 + 1) #[.slice (some ⟨w.heap.size, 0, none⟩) 1 1, .int .u64 5, .slice (some ⟨w.heap.size + 1, 0, none⟩) 2 2, .int .u64 6] := by
      rw [← HW0.out]
      have := Blk.new ((w.alloc (.cells #[.int .u8 1] 5)).alloc (.cells #[.int .u8 1, .int .u8 2] 5)) 79 #[.slice (some ⟨w.heap.size, 0, none⟩) 1 1, .int .u64 5, .slice (some ⟨w.heap.size + 1, 0, none⟩) 2 2, .int .u64 6]
      simpa only [World.size_alloc] using this
    subst hps
    refine ⟨rfl, by unfold maxLen; omega, fun j p hp => ?_, fun _ => ⟨_, rfl, by simp; omega, fun j p hp => ?_⟩⟩
    · match j, hp with
      | 0, hp => cases hp; exact b1
      | 1, hp => cases hp; exact b2
    · match j, hp with
      | 0, hp => cases hp; exact ⟨b3.cell 0, b3.cell 1⟩
      | 1, hp => cases hp; exact ⟨b3.cell 2, b3.cell 3⟩
  have hpm : PrM W0 none W0.heap.size (some ⟨w.heap.size + 1 + 1, 0, none⟩) 2 ps :=
    ⟨fun V hV => hprs.below (hV.below (Nat.le_refl _) (fun i q => by cases q)), fun p hp i hi => by simp, fun p hp => by subst hps; simp at hp; rcases hp with rfl | rfl <;> exact Nat.le_refl _⟩
  have hrel : rel 0 ps = [([1], 5), ([1, 2], 6)] := by subst hps; rfl
  have hT : bTr 1 3 (rel 0 ps) = some alT := by
    unfold bTr
    rw [hrel, if_neg (by simp), alT_is]
  have hchk : chkV (ps.map PV.key) = 0 := by subst hps; show chkV [[1], [1, 2]] = 0; decide
  have H1 := cbuild_any (o := 1) (by omega) 3 2 2 W0.heap.size _ ps none [] 0 W0 hpm (Nat.le_refl _) (by omega) (by omega) (fun p hp => by subst hps; simp at hp; rcases hp with rfl | rfl <;> simp) (fun g q => by cases q) (by rw [hT]; decide)
  rw [hT, hchk] at H1
  have HB1 := Lib.hid (show Calls Tryz.prog 11 #[.pointer none, .int .u64 1, .slice (some ⟨w.heap.size + 1 + 1, 0, none⟩) 2 2] W0 (CbPost W0 none [] 0 (some alT)) from H1.mono (fun e w' h => h.1 rfl))
  clear H1 hprs hpm hrel hT hchk hps
  go_wp2_with fail
  rw [HW0.out]
  (with_reducible refine HB1.out.mono ?_)
  rintro e w1 ⟨p, rfl, q1, q2, _⟩
  obtain ⟨g, rfl, q1⟩ := q1
  have t1 : OTre w1 (· < w1.heap.size) (some alT) (some ⟨g, 0, none⟩) := OTre.here (S := fun i => W0.heap.size ≤ i) ⟨g, rfl, q1⟩
  have b1 : Below w.heap.size w w1 := B0.out.trans (q2.below (by omega) (fun i q => by cases q))
  have hle : 0 < w.heap.size := HTB.out.lt
  have HLE := Lib.hid hle
  have T1 := Lib.hid t1
  have B1 := Lib.hid b1
  have H2 := shape_any (some alT) (some ⟨g, 0, none⟩) w1.heap.size w1 t1 ⟨⟨by decide, by decide, by decide⟩, ⟨by decide, by decide, by decide⟩, trivial, trivial⟩ (HTB.out.below b1 hle) (Nat.lt_of_lt_of_le hle b1.size) (Nat.le_refl _) (by rw [alT_sh]; decide)
  rw [alT_sh] at H2
  have H2 := Lib.hid H2
  have hst : ((bstr [52, 60, 48, 49, 61, 53, 58, 48, 50, 76, 61, 54, 62]).toList == [52, 60, 48, 49, 61, 53, 58, 48, 50, 76, 61, 54, 62]) = true := by rw [Lib.toList_data, bstr_toList]; decide
  clear q1 q2 t1 b1 hle HB1
  go_wp2_with fail
  (with_reducible refine H2.out.mono ?_)
  rintro e w2 ⟨rfl, q3⟩
  have t2 := T1.out.below q3
  have b2 := B1.out.trans (q3.mono B1.out.size)
  have T2 := Lib.hid t2
  have B2 := Lib.hid b2
  have H3 := cfine_any _ _ w2 t2 alT_fits
  rw [alT_fine] at H3
  have H3 := Lib.hid H3
  clear q3 t2 b2
  go_wp2_with fail
  (with_reducible refine H3.out.mono ?_)
  rintro e w3 ⟨rfl, q3⟩
  have t3 := T2.out.below q3
  have b3 := B2.out.trans (q3.mono B2.out.size)
  have T3 := Lib.hid t3
  have B3 := Lib.hid b3
  have H4 := cdepth_any _ _ w3 t3 alT_fits
  rw [alT_deep] at H4
  have H4 := Lib.hid H4
  clear q3 t3 b3
  go_wp2_with fail
  (with_reducible refine H4.out.mono ?_)
  rintro e w4 ⟨rfl, q3⟩
  have t4 := T3.out.below q3
  have b4 := B3.out.trans (q3.mono B3.out.size)
  have T4 := Lib.hid t4
  have B4 := Lib.hid b4
  have H5 := ccount_any _ _ w4 t4 alT_fits
  rw [alT_cnt] at H5
  have H5 := Lib.hid H5
  clear q3 t4 b4
  go_wp2_with fail
  (with_reducible refine H5.out.mono ?_)
  rintro e w5 ⟨rfl, q3⟩
  have t5 := T4.out.below q3
  have b5 := B4.out.trans (q3.mono B4.out.size)
  have T5 := Lib.hid t5
  have B5 := Lib.hid b5
  have H6 := Lib.hid (clist_any _ _ w5 t5 alT_fits)
  clear q3 t5 b5
  go_wp2_with fail
  (with_reducible refine H6.out.mono ?_)
  rintro e w6 ⟨A6, c6, y6, rfl, _, _, l6, q3⟩
  have hl6 : y6.length = 2 := by
    have := congrArg List.length l6
    rw [alT_list, List.length_map] at this
    exact this
  rw [hl6]
  have t6 := T5.out.below q3
  have b6 := B5.out.trans (q3.mono B5.out.size)
  have B6 := Lib.hid b6
  have H7 := Lib.hid (cpoints_any _ _ w6 t6 alT_fits)
  clear q3 t6 b6 hl6 l6
  go_wp2_with fail
  (with_reducible refine H7.out.mono ?_)
  rintro e w7 ⟨A7, c7, y7, rfl, _, _, l7, q3⟩
  have hl7 : y7.length = 1 := by
    have := congrArg List.length l7
    rw [alT_points, List.length_map] at this
    exact this
  rw [hl7]
  have B7 := Lib.hid (B6.out.trans (q3.mono B6.out.size))
  clear q3 hl7 l7
  go_wp2_with fail
  go_ret
  exact ⟨rfl, B7.out⟩
end Go.Proofs.YtcfokkojoppmkaaGreatDoor
