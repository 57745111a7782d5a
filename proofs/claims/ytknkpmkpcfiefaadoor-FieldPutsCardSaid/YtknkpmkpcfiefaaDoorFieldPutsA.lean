/-
  The walk of the law FieldPuts, where the kind is one.
-/
import Derived.Test.YtknkpmkpcfiefaaDoorFieldPutsP
namespace Go.Proofs.YtknkpmkpcfiefaaDoor.fieldPuts
open Go.RowKit

set_option linter.unusedSimpArgs false in
set_option maxRecDepth 100000 in
set_option maxHeartbeats 8000000 in
theorem walk_one (k : Int) (hk : 1 ≤ k ∧ k ≤ 10) (f : Bool) (u : Nat) (i : Int) (A : Option Addr) (n c : Nat) (t : Bool) (l : List UInt8) (w : World) (hT : Tab w) (hu : u ≤ 18446744073709551615) (hi : i ≤ 9223372036854775807) (ha : Byt w w.heap.size A n l) (hnc : n ≤ c) (hn : n ≤ 500) :
    Calls Tryd.prog 3 #[.agg #[.int .i64 k, .bool f], .agg #[.int .u64 (u : Int), .int .i64 i, .slice A n c, .bool t]] w fun e w' => e = .returned (.bool true) ∧ Below w.heap.size w w' := by
  have HT := Lib.hid (fun V (h : Below w.heap.size w V) => hT.below h)
  have HK := Lib.hid (fun V (h : Below w.heap.size w V) => ha.below h)
  have HP := Lib.hid (fun V (h : Below w.heap.size w V) => fput_any k f u i A n c _ l t V hu hi (HT.out _ h) (HK.out _ h) h.size (by omega))
  have HQ := Lib.hid (fun V (h : Below w.heap.size w V) => rfput_any k f u i A n c _ l t V hu hi (HK.out _ h) h.size (by omega))
  have HBa := Lib.hid (fun V (h : Below w.heap.size w V) => bare_any k f u i A n c _ l t V (HK.out _ h) h.size (by omega))
  have HRb := Lib.hid (fun V (h : Below w.heap.size w V) => rbare_any k f u i A n c _ l t V (HK.out _ h) h.size hnc)
  have hLl : (bL k l).length ≤ 500 := by have := bL_le k l; have := ha.1; omega
  have HPB := Lib.hid (fun V A1 n1 c1 (h : Below w.heap.size w V) (hb : Byt V V.heap.size A1 n1 (bL k l)) => fput_any k f (bU k u) (bI k i) A1 n1 c1 _ (bL k l) (bT k t) V (by unfold bU; split <;> omega) (by unfold bI; split <;> omega) (HT.out _ h) hb (Nat.le_refl _) (by have := hb.1; omega))
  rw [fR_bare, fE_bare] at HPB
  have HC := Lib.hid (fun V => check_any k f V)
  have hck : chk k = 0 := if_pos hk
  rw [hck] at HC
  obtain ⟨hk1, hk2⟩ := hk
  have hd1 : decide ((1 : Int) ≤ k) = true := decide_eq_true hk1
  have hd2 : decide (k ≤ (10 : Int)) = true := decide_eq_true hk2
  clear hck
  generalize turn f (fR k u i l t) = X at HP HQ HPB
  generalize fE k u i = E at HP HQ HPB
  generalize bU k u = U at HBa HRb HPB
  generalize bI k i = I at HBa HRb HPB
  generalize bL k l = LL at HBa HRb HPB hLl
  generalize bT k t = Q at HBa HRb HPB
  have hgd : ¬ (500 : Int) < (n : Int) := by omega
  clear hT ha
  generalize hW : (w.alloc (.cells #[.int .i64 k, .bool f] 23)).alloc (.cells #[.int .u64 (u : Int), .int .i64 i, .slice A n c, .bool t] 27) = W
  have HG := Lib.hid (show Two W w.heap.size (.int .i64 k) (.bool f) from by subst hW; exact (Two.new _ _ _ _).alloc _)
  have HV := Lib.hid (show Four W (w.heap.size + 1) (.int .u64 (u : Int)) (.int .i64 i) (.slice A n c) (.bool t) from by subst hW; have := Four.new (w.alloc (.cells #[.int .i64 k, .bool f] 23)) 27 (.int .u64 (u : Int)) (.int .i64 i) (.slice A n c) (.bool t); rwa [World.size_alloc] at this)
  have HB := Lib.hid (show Below w.heap.size w W from by subst hW; exact ((Below.refl _ _).alloc (Nat.le_refl _) _).alloc (by simp) _)
  have k0 := HG.out.k0
  have k1 := HG.out.k1
  have v0 := HV.out.c0
  have v1 := HV.out.c1
  have v2 := HV.out.c2
  have v3 := HV.out.c3
  have HBd : Below w.heap.size w W.drew := HB.out.drew
  have HGd : Two W.drew w.heap.size (.int .i64 k) (.bool f) := HG.out
  have HVd : Four W.drew (w.heap.size + 1) (.int .u64 (u : Int)) (.int .i64 i) (.slice A n c) (.bool t) := HV.out
  go_enter Tryd.func3, Tryd.ntmps3
  go_wp2_with fail
  clear hW
  go_region_held3 (fun w' => w'.cell? ⟨w.heap.size, 0, none⟩ = some (.int .i64 k) ∧ w'.cell? ⟨w.heap.size, 1, none⟩ = some (.bool f) ∧ w'.cell? ⟨w.heap.size + 1, 0, none⟩ = some (.int .u64 (u : Int)) ∧ w'.cell? ⟨w.heap.size + 1, 1, none⟩ = some (.int .i64 i) ∧ w'.cell? ⟨w.heap.size + 1, 2, none⟩ = some (.slice A n c) ∧ w'.cell? ⟨w.heap.size + 1, 3, none⟩ = some (.bool t))
    (first | (with_reducible exact six HG.out HV.out) | (with_reducible exact six HGd HVd) | (with_reducible exact six hg1 hv1) | (with_reducible exact six hg2 hv2))
    (first
      | (go_at_call 8; (with_reducible refine (theirs_any _ _ _ _ _ _ _).mono ?_); rintro e x1 ⟨rfl, h1⟩; have hb1 : Below w.heap.size w x1 := HBd.trans (h1.mono HBd.size); have hg1 := HGd.below h1 HGd.lt; have hv1 := HVd.below h1 HVd.lt)
      | (go_at_call 7; (with_reducible refine (HP.out _ hb1).mono ?_); rintro e x2 ⟨A2, n2, c2, rfl, y2, h2⟩; have hb2 : Below w.heap.size w x2 := hb1.trans (h2.mono hb1.size); have hg2 := hg1.below h2 hg1.lt; have hv2 := hv1.below h2 hv1.lt))
  have G2 := Lib.hid hg2
  have V2 := Lib.hid hv2
  have B2 := Lib.hid hb2
  have Y2 := Lib.hid y2
  clear hg1 hv1 hb1 hg2 hv2 hb2 h1 h2 y2 HBd HGd HVd k0 k1 v0 v1 v2 v3
  have k0 := G2.out.k0
  have k1 := G2.out.k1
  have v0 := V2.out.c0
  have v1 := V2.out.c1
  have v2 := V2.out.c2
  have v3 := V2.out.c3
  go_wp2_with fail
  (with_reducible refine (HQ.out _ B2.out).mono ?_)
  rintro e W3 ⟨A3, n3, c3, rfl, y3, h3⟩
  have G3 := Lib.hid (G2.out.below h3 G2.out.lt)
  have V3 := Lib.hid (V2.out.below h3 V2.out.lt)
  have B3 := Lib.hid (B2.out.trans (h3.mono B2.out.size))
  have Y23 := Lib.hid ((Y2.out.below h3).more h3.size)
  have Y3 := Lib.hid y3
  clear h3 y3 k0 k1 v0 v1 v2 v3
  have k0 := G3.out.k0
  have k1 := G3.out.k1
  have v0 := V3.out.c0
  have v1 := V3.out.c1
  have v2 := V3.out.c2
  have v3 := V3.out.c3
  have B3d : Below w.heap.size w W3.drew := B3.out.drew
  have G3d : Two W3.drew w.heap.size (.int .i64 k) (.bool f) := G3.out
  have V3d : Four W3.drew (w.heap.size + 1) (.int .u64 (u : Int)) (.int .i64 i) (.slice A n c) (.bool t) := V3.out
  have B3a : Below w.heap.size w (W3.alloc (.cells #[.int .u64 0, .int .i64 0, .slice none 0 0, .bool false] 33)).drew := (B3.out.alloc B3.out.size _).drew
  have G3b : Two (W3.alloc (.cells #[.int .u64 0, .int .i64 0, .slice none 0 0, .bool false] 33)) w.heap.size (.int .i64 k) (.bool f) := G3.out.alloc _
  have V3b : Four (W3.alloc (.cells #[.int .u64 0, .int .i64 0, .slice none 0 0, .bool false] 33)) (w.heap.size + 1) (.int .u64 (u : Int)) (.int .i64 i) (.slice A n c) (.bool t) := V3.out.alloc _
  have G3a : Two (W3.alloc (.cells #[.int .u64 0, .int .i64 0, .slice none 0 0, .bool false] 33)).drew w.heap.size (.int .i64 k) (.bool f) := G3.out.alloc _
  have V3a : Four (W3.alloc (.cells #[.int .u64 0, .int .i64 0, .slice none 0 0, .bool false] 33)).drew (w.heap.size + 1) (.int .u64 (u : Int)) (.int .i64 i) (.slice A n c) (.bool t) := V3.out.alloc _
  have Z3a : Four (W3.alloc (.cells #[.int .u64 0, .int .i64 0, .slice none 0 0, .bool false] 33)).drew W3.heap.size (.int .u64 0) (.int .i64 0) (.slice none 0 0) (.bool false) := Four.new W3 _ _ _ _ _
  have D3d : Below W3.heap.size W3 W3.drew := (Below.refl _ _).drew
  have D3a : Below W3.heap.size W3 (W3.alloc (.cells #[.int .u64 0, .int .i64 0, .slice none 0 0, .bool false] 33)).drew := ((Below.refl _ _).alloc (Nat.le_refl _) _).drew
  have wd3 := V3.out.lt
  go_wp2_with fail
  go_region_held3 (fun w' => w'.cell? ⟨w.heap.size, 0, none⟩ = some (.int .i64 k) ∧ w'.cell? ⟨w.heap.size, 1, none⟩ = some (.bool f) ∧ w'.cell? ⟨w.heap.size + 1, 0, none⟩ = some (.int .u64 (u : Int)) ∧ w'.cell? ⟨w.heap.size + 1, 1, none⟩ = some (.int .i64 i) ∧ w'.cell? ⟨w.heap.size + 1, 2, none⟩ = some (.slice A n c) ∧ w'.cell? ⟨w.heap.size + 1, 3, none⟩ = some (.bool t))
    (first | (with_reducible exact six G3.out V3.out) | (with_reducible exact six G3d V3d) | (with_reducible exact six G3a V3a) | (with_reducible exact six G3b V3b) | (with_reducible exact six hg1 hv1) | (with_reducible exact six hg2 hv2) | (with_reducible exact six (hg1.alloc _) (hv1.alloc _)) | (with_reducible exact six (hg2.alloc _) (hv2.alloc _)) | (with_reducible exact six (hg2.far4 hne0 _ _ _ _) (hv2.far4 hne1 _ _ _ _)))
    (first
      | (go_at_call 8; (with_reducible refine (theirs_any _ _ _ _ _ _ W3.drew).mono ?_); rintro e x1 ⟨rfl, h1⟩; have hd1 : Below W3.heap.size W3 x1 := D3d.trans (h1.mono D3d.size); have hb1 : Below w.heap.size w x1 := B3d.trans (h1.mono B3d.size); have hg1 := G3d.below h1 G3d.lt; have hv1 := V3d.below h1 V3d.lt; have hs1 : W3.heap.size ≤ x1.heap.size := hd1.size)
      | (go_at_call 8; (with_reducible refine (theirs_any _ _ _ _ _ _ (W3.alloc (.cells #[.int .u64 0, .int .i64 0, .slice none 0 0, .bool false] 33)).drew).mono ?_); rintro e x1 ⟨rfl, h1⟩; have hd1 : Below W3.heap.size W3 x1 := D3a.trans (h1.mono D3a.size); have hb1 : Below w.heap.size w x1 := B3a.trans (h1.mono B3a.size); have hg1 := G3a.below h1 G3a.lt; have hv1 := V3a.below h1 V3a.lt; have hs1 : W3.heap.size ≤ x1.heap.size := hd1.size; have hz1 := Z3a.below h1 Z3a.lt)
      | (go_at_call 10; have hz := hz1; (with_reducible refine (HBa.out _ hb1).mono ?_); rintro e x2 ⟨A5, n5, c5, rfl, y2, nc5, h2⟩; have hd2 : Below W3.heap.size W3 x2 := hd1.trans (h2.mono hs1); have hb2 : Below w.heap.size w x2 := hb1.trans (h2.mono hb1.size); have hg2 := hg1.below h2 hg1.lt; have hv2 := hv1.below h2 hv1.lt; have hs2 : W3.heap.size ≤ x2.heap.size := hd2.size; have hne0 : w.heap.size ≠ W3.heap.size := (by omega); have hne1 : w.heap.size + 1 ≠ W3.heap.size := (by omega); have hz2 := hz.below h2 hz.lt; have z0 := hz2.c0; have z1 := hz2.c1; have z2 := hz2.c2; have z3 := hz2.c3; have zf := hz2.fz)
      | (go_at_call 10; (with_reducible refine (HBa.out _ hb1).mono ?_); rintro e x2 ⟨A5, n5, c5, rfl, y2, nc5, h2⟩; have hd2 : Below W3.heap.size W3 x2 := hd1.trans (h2.mono hs1); have hb2 : Below w.heap.size w x2 := hb1.trans (h2.mono hb1.size); have hg2 := hg1.below h2 hg1.lt; have hv2 := hv1.below h2 hv1.lt; have hs2 : W3.heap.size ≤ x2.heap.size := hd2.size)
      | (go_at_call 10; (with_reducible refine (HBa.out _ (hb1.alloc hb1.size _)).mono ?_); rintro e x2 ⟨A5, n5, c5, rfl, y2, nc5, h2⟩; have hsz1 := World.size_alloc x1 (.cells #[.int .u64 0, .int .i64 0, .slice none 0 0, .bool false] 33); have hd2 : Below W3.heap.size W3 x2 := (hd1.alloc hs1 _).trans (h2.mono (by rw [hsz1]; omega)); have hb2 : Below w.heap.size w x2 := (hb1.alloc hb1.size _).trans (h2.mono (by rw [hsz1]; exact Nat.le_succ_of_le hb1.size)); have hg2 := (hg1.alloc _).below h2 (by rw [hsz1]; exact Nat.lt_succ_of_lt hg1.lt); have hv2 := (hv1.alloc _).below h2 (by rw [hsz1]; exact Nat.lt_succ_of_lt hv1.lt); have hs2 : W3.heap.size ≤ x2.heap.size := hd2.size; have hne0 : w.heap.size ≠ x1.heap.size := (by omega); have hne1 : w.heap.size + 1 ≠ x1.heap.size := (by omega); have hz2 : Four x2 x1.heap.size (.int .u64 0) (.int .i64 0) (.slice none 0 0) (.bool false) := (Four.new x1 _ _ _ _ _).below h2 (by rw [hsz1]; exact Nat.lt_succ_self _); have z0 := hz2.c0; have z1 := hz2.c1; have z2 := hz2.c2; have z3 := hz2.c3; have zf := hz2.fz))
  · have hwd : w.heap.size + 1 < W3.heap.size := wd3
    generalize hV : x2.alloc (.cells #[.int .u64 (U : Int), .int .i64 I, .slice A5 n5 c5, .bool Q] 33) = V
    have SV := Lib.hid (show Four V x2.heap.size (.int .u64 (U : Int)) (.int .i64 I) (.slice A5 n5 c5) (.bool Q) from by subst hV; exact Four.new _ _ _ _ _ _)
    have GV := Lib.hid (show Two V w.heap.size (.int .i64 k) (.bool f) from by subst hV; exact hg2.alloc _)
    have VVV := Lib.hid (show Four V (w.heap.size + 1) (.int .u64 (u : Int)) (.int .i64 i) (.slice A n c) (.bool t) from by subst hV; exact hv2.alloc _)
    have BV := Lib.hid (show Below w.heap.size w V from by subst hV; exact hb2.alloc hb2.size _)
    have DV := Lib.hid (show Below W3.heap.size W3 V from by subst hV; exact hd2.alloc hs2 _)
    have YV := Lib.hid (show Byt V V.heap.size A5 n5 LL from by subst hV; exact (y2.alloc (Nat.le_refl _) _).more (by simp))
    clear hV h1 h2 y2 hg1 hv1 hb1 hd1 hg2 hv2 hb2 hd2 B3d G3d V3d B3a G3a V3a G3b V3b Z3a D3d D3a k0 k1 v0 v1 v2 v3
    have k0 := GV.out.k0
    have k1 := GV.out.k1
    have v0 := VVV.out.c0
    have v1 := VVV.out.c1
    have v2 := VVV.out.c2
    have v3 := VVV.out.c3
    have s0 := SV.out.c0
    have s1 := SV.out.c1
    have s2 := SV.out.c2
    have s3 := SV.out.c3
    go_wp2_with fail
    (with_reducible refine (HPB.out _ _ _ _ BV.out YV.out).mono ?_)
    rintro e W6 ⟨A6, n6, c6, rfl, y6, h6⟩
    have GW := Lib.hid (GV.out.below h6 GV.out.lt)
    have VW := Lib.hid (VVV.out.below h6 VVV.out.lt)
    have SW := Lib.hid (SV.out.below h6 SV.out.lt)
    have BW := Lib.hid (BV.out.trans (h6.mono BV.out.size))
    have KY := Lib.hid (show ∀ Z, Below W6.heap.size W6 Z → (Byt Z W6.heap.size A2 n2 X ∧ Byt Z W6.heap.size A3 n3 X) ∧ Byt Z W6.heap.size A6 n6 X ∧ Byt Z W6.heap.size A5 n5 LL from by
      have hd : Below W3.heap.size W3 W6 := DV.out.trans (h6.mono DV.out.size)
      have q1 : Byt W6 W6.heap.size A2 n2 X := (Y23.out.below hd).more hd.size
      have q2 : Byt W6 W6.heap.size A3 n3 X := (Y3.out.below hd).more hd.size
      have q3 : Byt W6 W6.heap.size A5 n5 LL := (YV.out.below h6).more h6.size
      exact fun Z h => ⟨⟨q1.below h, q2.below h⟩, y6.below h, q3.below h⟩)
    clear h6 y6 s0 s1 s2 s3 k0 k1 v0 v1 v2 v3
    have hb0 : Below W6.heap.size W6 W6 := Below.refl _ _
    have hbd : Below W6.heap.size W6 W6.drew := (Below.refl _ _).drew
    have GWd : Two W6.drew w.heap.size (.int .i64 k) (.bool f) := GW.out
    have VWd : Four W6.drew (w.heap.size + 1) (.int .u64 (u : Int)) (.int .i64 i) (.slice A n c) (.bool t) := VW.out
    have SWd : Four W6.drew x2.heap.size (.int .u64 (U : Int)) (.int .i64 I) (.slice A5 n5 c5) (.bool Q) := SW.out
    go_wp2_with fail
    go_region_held3 (fun w' => w'.cell? ⟨w.heap.size, 0, none⟩ = some (.int .i64 k) ∧ w'.cell? ⟨w.heap.size, 1, none⟩ = some (.bool f) ∧ w'.cell? ⟨w.heap.size + 1, 0, none⟩ = some (.int .u64 (u : Int)) ∧ w'.cell? ⟨w.heap.size + 1, 1, none⟩ = some (.int .i64 i) ∧ w'.cell? ⟨w.heap.size + 1, 2, none⟩ = some (.slice A n c) ∧ w'.cell? ⟨w.heap.size + 1, 3, none⟩ = some (.bool t) ∧ w'.cell? ⟨x2.heap.size, 0, none⟩ = some (.int .u64 (U : Int)) ∧ w'.cell? ⟨x2.heap.size, 1, none⟩ = some (.int .i64 I) ∧ w'.cell? ⟨x2.heap.size, 2, none⟩ = some (.slice A5 n5 c5) ∧ w'.cell? ⟨x2.heap.size, 3, none⟩ = some (.bool Q))
      (first | (with_reducible exact ten GW.out VW.out SW.out) | (with_reducible exact ten GWd VWd SWd) | (with_reducible exact ten tg1 tv1 ts1) | (with_reducible exact ten tg2 tv2 ts2) | (with_reducible exact ten tg3 tv3 ts3) | (with_reducible exact ten tg4 tv4 ts4) | (with_reducible exact ten tg5 tv5 ts5) | (with_reducible exact ten tg6 tv6 ts6))
      (first
        | (go_at_call 11; (with_reducible refine (rsame_any A2 A3 _ _ _ _ W6.heap.size X X W6.drew (KY.out _ hbd).1.1 (KY.out _ hbd).1.2).mono ?_); rintro e t1 ⟨rfl, h1⟩; rw [show sameB X X = true from by simp [sameB]]; have tb1 : Below W6.heap.size W6 t1 := hbd.trans (h1.below _); have tg1 := GW.out.below tb1 GW.out.lt; have tv1 := VW.out.below tb1 VW.out.lt; have ts1 := SW.out.below tb1 SW.out.lt)
        | (go_at_call 12; (with_reducible refine (HC.out _).mono ?_); rintro e t2 ⟨rfl, h2⟩; have tb2 : Below W6.heap.size W6 t2 := tb1.trans (h2.mono tb1.size); have tg2 := GW.out.below tb2 GW.out.lt; have tv2 := VW.out.below tb2 VW.out.lt; have ts2 := SW.out.below tb2 SW.out.lt)
        | (go_at_call 14; (with_reducible refine (HRb.out _ (BW.out.trans (tb2.mono BW.out.size))).mono ?_); rintro e t3 ⟨A7, n7, c7, rfl, y7, _, h3⟩; have tb3 : Below W6.heap.size W6 t3 := tb2.trans (h3.mono tb2.size); have tg3 := GW.out.below tb3 GW.out.lt; have tv3 := VW.out.below tb3 VW.out.lt; have ts3 := SW.out.below tb3 SW.out.lt)
        | (go_at_call 13; (with_reducible refine (same_yes _ _ _ _ _ _ _ _ _ LL _ _ ((KY.out _ tb3).2.2.more tb3.size) y7 (Nat.le_refl _)).mono ?_); rintro e t4 ⟨rfl, h4⟩; have tb4 : Below W6.heap.size W6 t4 := tb3.trans (h4.mono tb3.size); have tg4 := GW.out.below tb4 GW.out.lt; have tv4 := VW.out.below tb4 VW.out.lt; have ts4 := SW.out.below tb4 SW.out.lt)
        | (go_at_call 11; (with_reducible refine (rsame_any A6 A3 _ _ _ _ W6.heap.size X X _ (KY.out _ tb4).2.1 (KY.out _ tb4).1.2).mono ?_); rintro e t5 ⟨rfl, h5⟩; rw [show sameB X X = true from by simp [sameB]]; have tb5 : Below W6.heap.size W6 t5 := tb4.trans (h5.below _); have tg5 := GW.out.below tb5 GW.out.lt; have tv5 := VW.out.below tb5 VW.out.lt; have ts5 := SW.out.below tb5 SW.out.lt)
        | (go_at_call 6; (with_reducible refine (alive_any _ (HT.out _ (BW.out.trans (tb5.mono BW.out.size)))).mono ?_); rintro e t6 ⟨rfl, h6⟩; have tb6 : Below W6.heap.size W6 t6 := tb5.trans (h6.mono tb5.size); have tg6 := GW.out.below tb6 GW.out.lt; have tv6 := VW.out.below tb6 VW.out.lt; have ts6 := SW.out.below tb6 SW.out.lt))
    go_wp2
    go_ret
    exact ⟨by simp, BW.out.trans (tb6.mono BW.out.size)⟩
  · have hwd : w.heap.size + 1 < W3.heap.size := wd3
    generalize hV : (((x2.setCell ⟨x1.heap.size, 0, none⟩ (.int .u64 (U : Int))).setCell ⟨x1.heap.size, 1, none⟩ (.int .i64 I)).setCell ⟨x1.heap.size, 2, none⟩ (.slice A5 n5 c5)).setCell ⟨x1.heap.size, 3, none⟩ (.bool Q) = V
    have SV := Lib.hid (show Four V x1.heap.size (.int .u64 (U : Int)) (.int .i64 I) (.slice A5 n5 c5) (.bool Q) from by subst hV; exact hz2.set4 _ _ _ _)
    have GV := Lib.hid (show Two V w.heap.size (.int .i64 k) (.bool f) from by subst hV; exact hg2.far4 hne0 _ _ _ _)
    have VVV := Lib.hid (show Four V (w.heap.size + 1) (.int .u64 (u : Int)) (.int .i64 i) (.slice A n c) (.bool t) from by subst hV; exact hv2.far4 hne1 _ _ _ _)
    have BV := Lib.hid (show Below w.heap.size w V from by subst hV; exact below_set4 hb2 (by omega) _ _ _ _)
    have DV := Lib.hid (show Below W3.heap.size W3 V from by subst hV; exact below_set4 hd2 (by omega) _ _ _ _)
    have YV := Lib.hid (show Byt V V.heap.size A5 n5 LL from by subst hV; rw [size_set4]; exact hz2.keep4 y2 _ _ _ _)
    clear hV h1 h2 y2 hg1 hv1 hb1 hd1 hg2 hv2 hb2 hd2 B3d G3d V3d B3a G3a V3a G3b V3b Z3a D3d D3a k0 k1 v0 v1 v2 v3 hz2 z0 z1 z2 z3 zf
    have k0 := GV.out.k0
    have k1 := GV.out.k1
    have v0 := VVV.out.c0
    have v1 := VVV.out.c1
    have v2 := VVV.out.c2
    have v3 := VVV.out.c3
    have s0 := SV.out.c0
    have s1 := SV.out.c1
    have s2 := SV.out.c2
    have s3 := SV.out.c3
    go_wp2_with fail
    (with_reducible refine (HPB.out _ _ _ _ BV.out YV.out).mono ?_)
    rintro e W6 ⟨A6, n6, c6, rfl, y6, h6⟩
    have GW := Lib.hid (GV.out.below h6 GV.out.lt)
    have VW := Lib.hid (VVV.out.below h6 VVV.out.lt)
    have SW := Lib.hid (SV.out.below h6 SV.out.lt)
    have BW := Lib.hid (BV.out.trans (h6.mono BV.out.size))
    have KY := Lib.hid (show ∀ Z, Below W6.heap.size W6 Z → (Byt Z W6.heap.size A2 n2 X ∧ Byt Z W6.heap.size A3 n3 X) ∧ Byt Z W6.heap.size A6 n6 X ∧ Byt Z W6.heap.size A5 n5 LL from by
      have hd : Below W3.heap.size W3 W6 := DV.out.trans (h6.mono DV.out.size)
      have q1 : Byt W6 W6.heap.size A2 n2 X := (Y23.out.below hd).more hd.size
      have q2 : Byt W6 W6.heap.size A3 n3 X := (Y3.out.below hd).more hd.size
      have q3 : Byt W6 W6.heap.size A5 n5 LL := (YV.out.below h6).more h6.size
      exact fun Z h => ⟨⟨q1.below h, q2.below h⟩, y6.below h, q3.below h⟩)
    clear h6 y6 s0 s1 s2 s3 k0 k1 v0 v1 v2 v3
    have hb0 : Below W6.heap.size W6 W6 := Below.refl _ _
    have hbd : Below W6.heap.size W6 W6.drew := (Below.refl _ _).drew
    have GWd : Two W6.drew w.heap.size (.int .i64 k) (.bool f) := GW.out
    have VWd : Four W6.drew (w.heap.size + 1) (.int .u64 (u : Int)) (.int .i64 i) (.slice A n c) (.bool t) := VW.out
    have SWd : Four W6.drew x1.heap.size (.int .u64 (U : Int)) (.int .i64 I) (.slice A5 n5 c5) (.bool Q) := SW.out
    go_wp2_with fail
    go_region_held3 (fun w' => w'.cell? ⟨w.heap.size, 0, none⟩ = some (.int .i64 k) ∧ w'.cell? ⟨w.heap.size, 1, none⟩ = some (.bool f) ∧ w'.cell? ⟨w.heap.size + 1, 0, none⟩ = some (.int .u64 (u : Int)) ∧ w'.cell? ⟨w.heap.size + 1, 1, none⟩ = some (.int .i64 i) ∧ w'.cell? ⟨w.heap.size + 1, 2, none⟩ = some (.slice A n c) ∧ w'.cell? ⟨w.heap.size + 1, 3, none⟩ = some (.bool t) ∧ w'.cell? ⟨x1.heap.size, 0, none⟩ = some (.int .u64 (U : Int)) ∧ w'.cell? ⟨x1.heap.size, 1, none⟩ = some (.int .i64 I) ∧ w'.cell? ⟨x1.heap.size, 2, none⟩ = some (.slice A5 n5 c5) ∧ w'.cell? ⟨x1.heap.size, 3, none⟩ = some (.bool Q))
      (first | (with_reducible exact ten GW.out VW.out SW.out) | (with_reducible exact ten GWd VWd SWd) | (with_reducible exact ten tg1 tv1 ts1) | (with_reducible exact ten tg2 tv2 ts2) | (with_reducible exact ten tg3 tv3 ts3) | (with_reducible exact ten tg4 tv4 ts4) | (with_reducible exact ten tg5 tv5 ts5) | (with_reducible exact ten tg6 tv6 ts6))
      (first
        | (go_at_call 11; (with_reducible refine (rsame_any A2 A3 _ _ _ _ W6.heap.size X X W6.drew (KY.out _ hbd).1.1 (KY.out _ hbd).1.2).mono ?_); rintro e t1 ⟨rfl, h1⟩; rw [show sameB X X = true from by simp [sameB]]; have tb1 : Below W6.heap.size W6 t1 := hbd.trans (h1.below _); have tg1 := GW.out.below tb1 GW.out.lt; have tv1 := VW.out.below tb1 VW.out.lt; have ts1 := SW.out.below tb1 SW.out.lt)
        | (go_at_call 12; (with_reducible refine (HC.out _).mono ?_); rintro e t2 ⟨rfl, h2⟩; have tb2 : Below W6.heap.size W6 t2 := tb1.trans (h2.mono tb1.size); have tg2 := GW.out.below tb2 GW.out.lt; have tv2 := VW.out.below tb2 VW.out.lt; have ts2 := SW.out.below tb2 SW.out.lt)
        | (go_at_call 14; (with_reducible refine (HRb.out _ (BW.out.trans (tb2.mono BW.out.size))).mono ?_); rintro e t3 ⟨A7, n7, c7, rfl, y7, _, h3⟩; have tb3 : Below W6.heap.size W6 t3 := tb2.trans (h3.mono tb2.size); have tg3 := GW.out.below tb3 GW.out.lt; have tv3 := VW.out.below tb3 VW.out.lt; have ts3 := SW.out.below tb3 SW.out.lt)
        | (go_at_call 13; (with_reducible refine (same_yes _ _ _ _ _ _ _ _ _ LL _ _ ((KY.out _ tb3).2.2.more tb3.size) y7 (Nat.le_refl _)).mono ?_); rintro e t4 ⟨rfl, h4⟩; have tb4 : Below W6.heap.size W6 t4 := tb3.trans (h4.mono tb3.size); have tg4 := GW.out.below tb4 GW.out.lt; have tv4 := VW.out.below tb4 VW.out.lt; have ts4 := SW.out.below tb4 SW.out.lt)
        | (go_at_call 11; (with_reducible refine (rsame_any A6 A3 _ _ _ _ W6.heap.size X X _ (KY.out _ tb4).2.1 (KY.out _ tb4).1.2).mono ?_); rintro e t5 ⟨rfl, h5⟩; rw [show sameB X X = true from by simp [sameB]]; have tb5 : Below W6.heap.size W6 t5 := tb4.trans (h5.below _); have tg5 := GW.out.below tb5 GW.out.lt; have tv5 := VW.out.below tb5 VW.out.lt; have ts5 := SW.out.below tb5 SW.out.lt)
        | (go_at_call 6; (with_reducible refine (alive_any _ (HT.out _ (BW.out.trans (tb5.mono BW.out.size)))).mono ?_); rintro e t6 ⟨rfl, h6⟩; have tb6 : Below W6.heap.size W6 t6 := tb5.trans (h6.mono tb5.size); have tg6 := GW.out.below tb6 GW.out.lt; have tv6 := VW.out.below tb6 VW.out.lt; have ts6 := SW.out.below tb6 SW.out.lt))
    go_wp2
    go_ret
    exact ⟨by simp, BW.out.trans (tb6.mono BW.out.size)⟩
  · have hwd : w.heap.size + 1 < W3.heap.size := wd3
    generalize hV : (((x2.setCell ⟨W3.heap.size, 0, none⟩ (.int .u64 (U : Int))).setCell ⟨W3.heap.size, 1, none⟩ (.int .i64 I)).setCell ⟨W3.heap.size, 2, none⟩ (.slice A5 n5 c5)).setCell ⟨W3.heap.size, 3, none⟩ (.bool Q) = V
    have SV := Lib.hid (show Four V W3.heap.size (.int .u64 (U : Int)) (.int .i64 I) (.slice A5 n5 c5) (.bool Q) from by subst hV; exact hz2.set4 _ _ _ _)
    have GV := Lib.hid (show Two V w.heap.size (.int .i64 k) (.bool f) from by subst hV; exact hg2.far4 hne0 _ _ _ _)
    have VVV := Lib.hid (show Four V (w.heap.size + 1) (.int .u64 (u : Int)) (.int .i64 i) (.slice A n c) (.bool t) from by subst hV; exact hv2.far4 hne1 _ _ _ _)
    have BV := Lib.hid (show Below w.heap.size w V from by subst hV; exact below_set4 hb2 (by omega) _ _ _ _)
    have DV := Lib.hid (show Below W3.heap.size W3 V from by subst hV; exact below_set4 hd2 (by omega) _ _ _ _)
    have YV := Lib.hid (show Byt V V.heap.size A5 n5 LL from by subst hV; rw [size_set4]; exact hz2.keep4 y2 _ _ _ _)
    clear hV h1 h2 y2 hg1 hv1 hb1 hd1 hg2 hv2 hb2 hd2 B3d G3d V3d B3a G3a V3a G3b V3b Z3a D3d D3a k0 k1 v0 v1 v2 v3 hz2 z0 z1 z2 z3 zf hz1
    have k0 := GV.out.k0
    have k1 := GV.out.k1
    have v0 := VVV.out.c0
    have v1 := VVV.out.c1
    have v2 := VVV.out.c2
    have v3 := VVV.out.c3
    have s0 := SV.out.c0
    have s1 := SV.out.c1
    have s2 := SV.out.c2
    have s3 := SV.out.c3
    go_wp2_with fail
    (with_reducible refine (HPB.out _ _ _ _ BV.out YV.out).mono ?_)
    rintro e W6 ⟨A6, n6, c6, rfl, y6, h6⟩
    have GW := Lib.hid (GV.out.below h6 GV.out.lt)
    have VW := Lib.hid (VVV.out.below h6 VVV.out.lt)
    have SW := Lib.hid (SV.out.below h6 SV.out.lt)
    have BW := Lib.hid (BV.out.trans (h6.mono BV.out.size))
    have KY := Lib.hid (show ∀ Z, Below W6.heap.size W6 Z → (Byt Z W6.heap.size A2 n2 X ∧ Byt Z W6.heap.size A3 n3 X) ∧ Byt Z W6.heap.size A6 n6 X ∧ Byt Z W6.heap.size A5 n5 LL from by
      have hd : Below W3.heap.size W3 W6 := DV.out.trans (h6.mono DV.out.size)
      have q1 : Byt W6 W6.heap.size A2 n2 X := (Y23.out.below hd).more hd.size
      have q2 : Byt W6 W6.heap.size A3 n3 X := (Y3.out.below hd).more hd.size
      have q3 : Byt W6 W6.heap.size A5 n5 LL := (YV.out.below h6).more h6.size
      exact fun Z h => ⟨⟨q1.below h, q2.below h⟩, y6.below h, q3.below h⟩)
    clear h6 y6 s0 s1 s2 s3 k0 k1 v0 v1 v2 v3
    have hb0 : Below W6.heap.size W6 W6 := Below.refl _ _
    have hbd : Below W6.heap.size W6 W6.drew := (Below.refl _ _).drew
    have GWd : Two W6.drew w.heap.size (.int .i64 k) (.bool f) := GW.out
    have VWd : Four W6.drew (w.heap.size + 1) (.int .u64 (u : Int)) (.int .i64 i) (.slice A n c) (.bool t) := VW.out
    have SWd : Four W6.drew W3.heap.size (.int .u64 (U : Int)) (.int .i64 I) (.slice A5 n5 c5) (.bool Q) := SW.out
    go_wp2_with fail
    go_region_held3 (fun w' => w'.cell? ⟨w.heap.size, 0, none⟩ = some (.int .i64 k) ∧ w'.cell? ⟨w.heap.size, 1, none⟩ = some (.bool f) ∧ w'.cell? ⟨w.heap.size + 1, 0, none⟩ = some (.int .u64 (u : Int)) ∧ w'.cell? ⟨w.heap.size + 1, 1, none⟩ = some (.int .i64 i) ∧ w'.cell? ⟨w.heap.size + 1, 2, none⟩ = some (.slice A n c) ∧ w'.cell? ⟨w.heap.size + 1, 3, none⟩ = some (.bool t) ∧ w'.cell? ⟨W3.heap.size, 0, none⟩ = some (.int .u64 (U : Int)) ∧ w'.cell? ⟨W3.heap.size, 1, none⟩ = some (.int .i64 I) ∧ w'.cell? ⟨W3.heap.size, 2, none⟩ = some (.slice A5 n5 c5) ∧ w'.cell? ⟨W3.heap.size, 3, none⟩ = some (.bool Q))
      (first | (with_reducible exact ten GW.out VW.out SW.out) | (with_reducible exact ten GWd VWd SWd) | (with_reducible exact ten tg1 tv1 ts1) | (with_reducible exact ten tg2 tv2 ts2) | (with_reducible exact ten tg3 tv3 ts3) | (with_reducible exact ten tg4 tv4 ts4) | (with_reducible exact ten tg5 tv5 ts5) | (with_reducible exact ten tg6 tv6 ts6))
      (first
        | (go_at_call 11; (with_reducible refine (rsame_any A2 A3 _ _ _ _ W6.heap.size X X W6.drew (KY.out _ hbd).1.1 (KY.out _ hbd).1.2).mono ?_); rintro e t1 ⟨rfl, h1⟩; rw [show sameB X X = true from by simp [sameB]]; have tb1 : Below W6.heap.size W6 t1 := hbd.trans (h1.below _); have tg1 := GW.out.below tb1 GW.out.lt; have tv1 := VW.out.below tb1 VW.out.lt; have ts1 := SW.out.below tb1 SW.out.lt)
        | (go_at_call 12; (with_reducible refine (HC.out _).mono ?_); rintro e t2 ⟨rfl, h2⟩; have tb2 : Below W6.heap.size W6 t2 := tb1.trans (h2.mono tb1.size); have tg2 := GW.out.below tb2 GW.out.lt; have tv2 := VW.out.below tb2 VW.out.lt; have ts2 := SW.out.below tb2 SW.out.lt)
        | (go_at_call 14; (with_reducible refine (HRb.out _ (BW.out.trans (tb2.mono BW.out.size))).mono ?_); rintro e t3 ⟨A7, n7, c7, rfl, y7, _, h3⟩; have tb3 : Below W6.heap.size W6 t3 := tb2.trans (h3.mono tb2.size); have tg3 := GW.out.below tb3 GW.out.lt; have tv3 := VW.out.below tb3 VW.out.lt; have ts3 := SW.out.below tb3 SW.out.lt)
        | (go_at_call 13; (with_reducible refine (same_yes _ _ _ _ _ _ _ _ _ LL _ _ ((KY.out _ tb3).2.2.more tb3.size) y7 (Nat.le_refl _)).mono ?_); rintro e t4 ⟨rfl, h4⟩; have tb4 : Below W6.heap.size W6 t4 := tb3.trans (h4.mono tb3.size); have tg4 := GW.out.below tb4 GW.out.lt; have tv4 := VW.out.below tb4 VW.out.lt; have ts4 := SW.out.below tb4 SW.out.lt)
        | (go_at_call 11; (with_reducible refine (rsame_any A6 A3 _ _ _ _ W6.heap.size X X _ (KY.out _ tb4).2.1 (KY.out _ tb4).1.2).mono ?_); rintro e t5 ⟨rfl, h5⟩; rw [show sameB X X = true from by simp [sameB]]; have tb5 : Below W6.heap.size W6 t5 := tb4.trans (h5.below _); have tg5 := GW.out.below tb5 GW.out.lt; have tv5 := VW.out.below tb5 VW.out.lt; have ts5 := SW.out.below tb5 SW.out.lt)
        | (go_at_call 6; (with_reducible refine (alive_any _ (HT.out _ (BW.out.trans (tb5.mono BW.out.size)))).mono ?_); rintro e t6 ⟨rfl, h6⟩; have tb6 : Below W6.heap.size W6 t6 := tb5.trans (h6.mono tb5.size); have tg6 := GW.out.below tb6 GW.out.lt; have tv6 := VW.out.below tb6 VW.out.lt; have ts6 := SW.out.below tb6 SW.out.lt))
    go_wp2
    go_ret
    exact ⟨by simp, BW.out.trans (tb6.mono BW.out.size)⟩
end Go.Proofs.YtknkpmkpcfiefaaDoor.fieldPuts
