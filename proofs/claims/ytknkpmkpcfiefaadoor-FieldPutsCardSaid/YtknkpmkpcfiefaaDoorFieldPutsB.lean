/-
  The walk of the law FieldPuts, where the kind is below all.
-/
import Derived.Test.YtknkpmkpcfiefaaDoorFieldPutsP
namespace Go.Proofs.YtknkpmkpcfiefaaDoor.fieldPuts
open Go.RowKit

set_option linter.unusedSimpArgs false in
set_option maxRecDepth 100000 in
set_option maxHeartbeats 8000000 in
theorem walk_lo (k : Int) (hk : k < 1) (f : Bool) (u : Nat) (i : Int) (A : Option Addr) (n c : Nat) (t : Bool) (l : List UInt8) (w : World) (hT : Tab w) (hu : u ≤ 18446744073709551615) (hi : i ≤ 9223372036854775807) (ha : Byt w w.heap.size A n l) (hnc : n ≤ c) (hn : n ≤ 500) :
    Calls Tryd.prog 3 #[.agg #[.int .i64 k, .bool f], .agg #[.int .u64 (u : Int), .int .i64 i, .slice A n c, .bool t]] w fun e w' => e = .returned (.bool true) ∧ Below w.heap.size w w' := by
  have HT := Lib.hid (fun V (h : Below w.heap.size w V) => hT.below h)
  have HK := Lib.hid (fun V (h : Below w.heap.size w V) => ha.below h)
  have HP := Lib.hid (fun V (h : Below w.heap.size w V) => fput_any k f u i A n c _ l t V hu hi (HT.out _ h) (HK.out _ h) h.size (by omega))
  have HQ := Lib.hid (fun V (h : Below w.heap.size w V) => rfput_any k f u i A n c _ l t V hu hi (HK.out _ h) h.size (by omega))
  have HBa := Lib.hid (fun V (h : Below w.heap.size w V) => bare_any k f u i A n c _ l t V (HK.out _ h) h.size (by omega))
  have HRb := Lib.hid (fun V (h : Below w.heap.size w V) => rbare_any k f u i A n c _ l t V (HK.out _ h) h.size hnc)
  have hLl : (bL k l).length ≤ 500 := by have := bL_le k l; have := ha.1; omega
  have HPB := Lib.hid (fun V A1 n1 c1 (h : Below w.heap.size w V) (hb : Byt V V.heap.size A1 n1 (bL k l)) => fput_any k f (bU k u) (bI k i) A1 n1 c1 _ (bL k l) (bT k t) V (by unfold bU; split <;> omega) (by unfold bI; split <;> omega) (HT.out _ h) hb (Nat.le_refl _) (by have := hb.1; omega))
  rw [fR_bare, fE_bare] at HPB
  have HC := Lib.hid (fun V => check_any k f V)
  have hck : chk k = 9 := if_neg (by omega)
  rw [hck] at HC
  have hk1 : ¬ (1 : Int) ≤ k := by omega
  have hd1 : decide ((1 : Int) ≤ k) = false := decide_eq_false hk1
  clear hck
  generalize turn f (fR k u i l t) = X at HP HQ HPB
  generalize fE k u i = E at HP HQ HPB
  generalize bU k u = U at HBa HRb HPB
  generalize bI k i = I at HBa HRb HPB
  generalize bL k l = LL at HBa HRb HPB hLl
  generalize bT k t = Q at HBa HRb HPB
  have hgd : ¬ (500 : Int) < (n : Int) := by omega
  clear hT ha
  generalize hW : (w.alloc (.cells #[.int .i64 k, .bool f] 23)).alloc (.cells #[.int .u64 (u : Int), .int .i64 i, .slice A n c, .bool t] 27) = W
  have HG := Lib.hid (show Two W w.heap.size (.int .i64 k) (.bool f) from by subst hW; exact (Two.new _ _ _ _).alloc _)
  have HV := Lib.hid (show Four W (w.heap.size + 1) (.int .u64 (u : Int)) (.int .i64 i) (.slice A n c) (.bool t) from by subst hW; have := Four.new (w.alloc (.cells #[.int .i64 k, .bool f] 23)) 27 (.int .u64 (u : Int)) (.int .i64 i) (.slice A n c) (.bool t); rwa [World.size_alloc] at this)
  have HB := Lib.hid (show Below w.heap.size w W from by subst hW; exact ((Below.refl _ _).alloc (Nat.le_refl _) _).alloc (by simp) _)
  have k0 := HG.out.k0
  have k1 := HG.out.k1
  have v0 := HV.out.c0
  have v1 := HV.out.c1
  have v2 := HV.out.c2
  have v3 := HV.out.c3
  have HBd : Below w.heap.size w W.drew := HB.out.drew
  have HGd : Two W.drew w.heap.size (.int .i64 k) (.bool f) := HG.out
  have HVd : Four W.drew (w.heap.size + 1) (.int .u64 (u : Int)) (.int .i64 i) (.slice A n c) (.bool t) := HV.out
  go_enter Tryd.func3, Tryd.ntmps3
  go_wp2_with fail
  clear hW
  go_region_held3 (fun w' => w'.cell? ⟨w.heap.size, 0, none⟩ = some (.int .i64 k) ∧ w'.cell? ⟨w.heap.size, 1, none⟩ = some (.bool f) ∧ w'.cell? ⟨w.heap.size + 1, 0, none⟩ = some (.int .u64 (u : Int)) ∧ w'.cell? ⟨w.heap.size + 1, 1, none⟩ = some (.int .i64 i) ∧ w'.cell? ⟨w.heap.size + 1, 2, none⟩ = some (.slice A n c) ∧ w'.cell? ⟨w.heap.size + 1, 3, none⟩ = some (.bool t))
    (first | (with_reducible exact six HG.out HV.out) | (with_reducible exact six HGd HVd) | (with_reducible exact six hg1 hv1) | (with_reducible exact six hg2 hv2))
    (first
      | (go_at_call 8; (with_reducible refine (theirs_any _ _ _ _ _ _ _).mono ?_); rintro e x1 ⟨rfl, h1⟩; have hb1 : Below w.heap.size w x1 := HBd.trans (h1.mono HBd.size); have hg1 := HGd.below h1 HGd.lt; have hv1 := HVd.below h1 HVd.lt)
      | (go_at_call 7; (with_reducible refine (HP.out _ hb1).mono ?_); rintro e x2 ⟨A2, n2, c2, rfl, y2, h2⟩; have hb2 : Below w.heap.size w x2 := hb1.trans (h2.mono hb1.size); have hg2 := hg1.below h2 hg1.lt; have hv2 := hv1.below h2 hv1.lt))
  have G2 := Lib.hid hg2
  have V2 := Lib.hid hv2
  have B2 := Lib.hid hb2
  have Y2 := Lib.hid y2
  clear hg1 hv1 hb1 hg2 hv2 hb2 h1 h2 y2 HBd HGd HVd k0 k1 v0 v1 v2 v3
  have k0 := G2.out.k0
  have k1 := G2.out.k1
  have v0 := V2.out.c0
  have v1 := V2.out.c1
  have v2 := V2.out.c2
  have v3 := V2.out.c3
  go_wp2_with fail
  (with_reducible refine (HQ.out _ B2.out).mono ?_)
  rintro e W3 ⟨A3, n3, c3, rfl, y3, h3⟩
  have G3 := Lib.hid (G2.out.below h3 G2.out.lt)
  have V3 := Lib.hid (V2.out.below h3 V2.out.lt)
  have B3 := Lib.hid (B2.out.trans (h3.mono B2.out.size))
  have Y23 := Lib.hid ((Y2.out.below h3).more h3.size)
  have Y3 := Lib.hid y3
  clear h3 y3 k0 k1 v0 v1 v2 v3
  have k0 := G3.out.k0
  have k1 := G3.out.k1
  have v0 := V3.out.c0
  have v1 := V3.out.c1
  have v2 := V3.out.c2
  have v3 := V3.out.c3
  have B3d : Below w.heap.size w W3.drew := B3.out.drew
  have G3d : Two W3.drew w.heap.size (.int .i64 k) (.bool f) := G3.out
  have V3d : Four W3.drew (w.heap.size + 1) (.int .u64 (u : Int)) (.int .i64 i) (.slice A n c) (.bool t) := V3.out
  have B3a : Below w.heap.size w (W3.alloc (.cells #[.int .u64 0, .int .i64 0, .slice none 0 0, .bool false] 33)).drew := (B3.out.alloc B3.out.size _).drew
  have G3b : Two (W3.alloc (.cells #[.int .u64 0, .int .i64 0, .slice none 0 0, .bool false] 33)) w.heap.size (.int .i64 k) (.bool f) := G3.out.alloc _
  have V3b : Four (W3.alloc (.cells #[.int .u64 0, .int .i64 0, .slice none 0 0, .bool false] 33)) (w.heap.size + 1) (.int .u64 (u : Int)) (.int .i64 i) (.slice A n c) (.bool t) := V3.out.alloc _
  have G3a : Two (W3.alloc (.cells #[.int .u64 0, .int .i64 0, .slice none 0 0, .bool false] 33)).drew w.heap.size (.int .i64 k) (.bool f) := G3.out.alloc _
  have V3a : Four (W3.alloc (.cells #[.int .u64 0, .int .i64 0, .slice none 0 0, .bool false] 33)).drew (w.heap.size + 1) (.int .u64 (u : Int)) (.int .i64 i) (.slice A n c) (.bool t) := V3.out.alloc _
  have Z3a : Four (W3.alloc (.cells #[.int .u64 0, .int .i64 0, .slice none 0 0, .bool false] 33)).drew W3.heap.size (.int .u64 0) (.int .i64 0) (.slice none 0 0) (.bool false) := Four.new W3 _ _ _ _ _
  have D3d : Below W3.heap.size W3 W3.drew := (Below.refl _ _).drew
  have D3a : Below W3.heap.size W3 (W3.alloc (.cells #[.int .u64 0, .int .i64 0, .slice none 0 0, .bool false] 33)).drew := ((Below.refl _ _).alloc (Nat.le_refl _) _).drew
  have wd3 := V3.out.lt
  go_wp2_with fail
  go_region_held3 (fun w' => w'.cell? ⟨w.heap.size, 0, none⟩ = some (.int .i64 k) ∧ w'.cell? ⟨w.heap.size, 1, none⟩ = some (.bool f) ∧ w'.cell? ⟨w.heap.size + 1, 0, none⟩ = some (.int .u64 (u : Int)) ∧ w'.cell? ⟨w.heap.size + 1, 1, none⟩ = some (.int .i64 i) ∧ w'.cell? ⟨w.heap.size + 1, 2, none⟩ = some (.slice A n c) ∧ w'.cell? ⟨w.heap.size + 1, 3, none⟩ = some (.bool t))
    (first | (with_reducible exact six G3.out V3.out) | (with_reducible exact six G3d V3d) | (with_reducible exact six G3a V3a) | (with_reducible exact six G3b V3b) | (with_reducible exact six hg1 hv1) | (with_reducible exact six hg2 hv2) | (with_reducible exact six (hg1.alloc _) (hv1.alloc _)) | (with_reducible exact six (hg2.alloc _) (hv2.alloc _)) | (with_reducible exact six (hg2.far4 hne0 _ _ _ _) (hv2.far4 hne1 _ _ _ _)))
    (first
      | (go_at_call 8; (with_reducible refine (theirs_any _ _ _ _ _ _ W3.drew).mono ?_); rintro e x1 ⟨rfl, h1⟩; have hd1 : Below W3.heap.size W3 x1 := D3d.trans (h1.mono D3d.size); have hb1 : Below w.heap.size w x1 := B3d.trans (h1.mono B3d.size); have hg1 := G3d.below h1 G3d.lt; have hv1 := V3d.below h1 V3d.lt; have hs1 : W3.heap.size ≤ x1.heap.size := hd1.size)
      | (go_at_call 8; (with_reducible refine (theirs_any _ _ _ _ _ _ (W3.alloc (.cells #[.int .u64 0, .int .i64 0, .slice none 0 0, .bool false] 33)).drew).mono ?_); rintro e x1 ⟨rfl, h1⟩; have hd1 : Below W3.heap.size W3 x1 := D3a.trans (h1.mono D3a.size); have hb1 : Below w.heap.size w x1 := B3a.trans (h1.mono B3a.size); have hg1 := G3a.below h1 G3a.lt; have hv1 := V3a.below h1 V3a.lt; have hs1 : W3.heap.size ≤ x1.heap.size := hd1.size; have hz1 := Z3a.below h1 Z3a.lt)
      | (go_at_call 10; have hz := hz1; (with_reducible refine (HBa.out _ hb1).mono ?_); rintro e x2 ⟨A5, n5, c5, rfl, y2, nc5, h2⟩; have hd2 : Below W3.heap.size W3 x2 := hd1.trans (h2.mono hs1); have hb2 : Below w.heap.size w x2 := hb1.trans (h2.mono hb1.size); have hg2 := hg1.below h2 hg1.lt; have hv2 := hv1.below h2 hv1.lt; have hs2 : W3.heap.size ≤ x2.heap.size := hd2.size; have hne0 : w.heap.size ≠ W3.heap.size := (by omega); have hne1 : w.heap.size + 1 ≠ W3.heap.size := (by omega); have hz2 := hz.below h2 hz.lt; have z0 := hz2.c0; have z1 := hz2.c1; have z2 := hz2.c2; have z3 := hz2.c3; have zf := hz2.fz)
      | (go_at_call 10; (with_reducible refine (HBa.out _ hb1).mono ?_); rintro e x2 ⟨A5, n5, c5, rfl, y2, nc5, h2⟩; have hd2 : Below W3.heap.size W3 x2 := hd1.trans (h2.mono hs1); have hb2 : Below w.heap.size w x2 := hb1.trans (h2.mono hb1.size); have hg2 := hg1.below h2 hg1.lt; have hv2 := hv1.below h2 hv1.lt; have hs2 : W3.heap.size ≤ x2.heap.size := hd2.size)
      | (go_at_call 10; (with_reducible refine (HBa.out _ (hb1.alloc hb1.size _)).mono ?_); rintro e x2 ⟨A5, n5, c5, rfl, y2, nc5, h2⟩; have hsz1 := World.size_alloc x1 (.cells #[.int .u64 0, .int .i64 0, .slice none 0 0, .bool false] 33); have hd2 : Below W3.heap.size W3 x2 := (hd1.alloc hs1 _).trans (h2.mono (by rw [hsz1]; omega)); have hb2 : Below w.heap.size w x2 := (hb1.alloc hb1.size _).trans (h2.mono (by rw [hsz1]; exact Nat.le_succ_of_le hb1.size)); have hg2 := (hg1.alloc _).below h2 (by rw [hsz1]; exact Nat.lt_succ_of_lt hg1.lt); have hv2 := (hv1.alloc _).below h2 (by rw [hsz1]; exact Nat.lt_succ_of_lt hv1.lt); have hs2 : W3.heap.size ≤ x2.heap.size := hd2.size; have hne0 : w.heap.size ≠ x1.heap.size := (by omega); have hne1 : w.heap.size + 1 ≠ x1.heap.size := (by omega); have hz2 : Four x2 x1.heap.size (.int .u64 0) (.int .i64 0) (.slice none 0 0) (.bool false) := (Four.new x1 _ _ _ _ _).below h2 (by rw [hsz1]; exact Nat.lt_succ_self _); have z0 := hz2.c0; have z1 := hz2.c1; have z2 := hz2.c2; have z3 := hz2.c3; have zf := hz2.fz))
  · have hwd : w.heap.size + 1 < W3.heap.size := wd3
    generalize hV : x2.alloc (.cells #[.int .u64 (U : Int), .int .i64 I, .slice A5 n5 c5, .bool Q] 33) = V
    have SV := Lib.hid (show Four V x2.heap.size (.int .u64 (U : Int)) (.int .i64 I) (.slice A5 n5 c5) (.bool Q) from by subst hV; exact Four.new _ _ _ _ _ _)
    have GV := Lib.hid (show Two V w.heap.size (.int .i64 k) (.bool f) from by subst hV; exact hg2.alloc _)
    have VVV := Lib.hid (show Four V (w.heap.size + 1) (.int .u64 (u : Int)) (.int .i64 i) (.slice A n c) (.bool t) from by subst hV; exact hv2.alloc _)
    have BV := Lib.hid (show Below w.heap.size w V from by subst hV; exact hb2.alloc hb2.size _)
    have DV := Lib.hid (show Below W3.heap.size W3 V from by subst hV; exact hd2.alloc hs2 _)
    have YV := Lib.hid (show Byt V V.heap.size A5 n5 LL from by subst hV; exact (y2.alloc (Nat.le_refl _) _).more (by simp))
    clear hV h1 h2 y2 hg1 hv1 hb1 hd1 hg2 hv2 hb2 hd2 B3d G3d V3d B3a G3a V3a G3b V3b Z3a D3d D3a k0 k1 v0 v1 v2 v3
    have k0 := GV.out.k0
    have k1 := GV.out.k1
    have v0 := VVV.out.c0
    have v1 := VVV.out.c1
    have v2 := VVV.out.c2
    have v3 := VVV.out.c3
    have s0 := SV.out.c0
    have s1 := SV.out.c1
    have s2 := SV.out.c2
    have s3 := SV.out.c3
    go_wp2_with fail
    (with_reducible refine (HPB.out _ _ _ _ BV.out YV.out).mono ?_)
    rintro e W6 ⟨A6, n6, c6, rfl, y6, h6⟩
    have GW := Lib.hid (GV.out.below h6 GV.out.lt)
    have VW := Lib.hid (VVV.out.below h6 VVV.out.lt)
    have SW := Lib.hid (SV.out.below h6 SV.out.lt)
    have BW := Lib.hid (BV.out.trans (h6.mono BV.out.size))
    have KY := Lib.hid (show ∀ Z, Below W6.heap.size W6 Z → (Byt Z W6.heap.size A2 n2 X ∧ Byt Z W6.heap.size A3 n3 X) ∧ Byt Z W6.heap.size A6 n6 X ∧ Byt Z W6.heap.size A5 n5 LL from by
      have hd : Below W3.heap.size W3 W6 := DV.out.trans (h6.mono DV.out.size)
      have q1 : Byt W6 W6.heap.size A2 n2 X := (Y23.out.below hd).more hd.size
      have q2 : Byt W6 W6.heap.size A3 n3 X := (Y3.out.below hd).more hd.size
      have q3 : Byt W6 W6.heap.size A5 n5 LL := (YV.out.below h6).more h6.size
      exact fun Z h => ⟨⟨q1.below h, q2.below h⟩, y6.below h, q3.below h⟩)
    clear h6 y6 s0 s1 s2 s3 k0 k1 v0 v1 v2 v3
    have hb0 : Below W6.heap.size W6 W6 := Below.refl _ _
    have hbd : Below W6.heap.size W6 W6.drew := (Below.refl _ _).drew
    have GWd : Two W6.drew w.heap.size (.int .i64 k) (.bool f) := GW.out
    have VWd : Four W6.drew (w.heap.size + 1) (.int .u64 (u : Int)) (.int .i64 i) (.slice A n c) (.bool t) := VW.out
    have SWd : Four W6.drew x2.heap.size (.int .u64 (U : Int)) (.int .i64 I) (.slice A5 n5 c5) (.bool Q) := SW.out
    go_wp2_with fail
    refine wp_region_held_drew (S := fun w' => w'.cell? ⟨w.heap.size, 0, none⟩ = some (.int .i64 k) ∧ w'.cell? ⟨w.heap.size, 1, none⟩ = some (.bool f) ∧ w'.cell? ⟨w.heap.size + 1, 0, none⟩ = some (.int .u64 (u : Int)) ∧ w'.cell? ⟨w.heap.size + 1, 1, none⟩ = some (.int .i64 i) ∧ w'.cell? ⟨w.heap.size + 1, 2, none⟩ = some (.slice A n c) ∧ w'.cell? ⟨w.heap.size + 1, 3, none⟩ = some (.bool t) ∧ w'.cell? ⟨x2.heap.size, 0, none⟩ = some (.int .u64 (U : Int)) ∧ w'.cell? ⟨x2.heap.size, 1, none⟩ = some (.int .i64 I) ∧ w'.cell? ⟨x2.heap.size, 2, none⟩ = some (.slice A5 n5 c5) ∧ w'.cell? ⟨x2.heap.size, 3, none⟩ = some (.bool Q)) (by kernel_rfl) (ten GWd VWd SWd) (fun hHeld => ?_)
    refine wpAnyH_take (i := 0) (oi := { dst := some 40, op := Op.move (Operand.tmp 5), type := 25, pos := "law.go:35", after := #[], guard := none }) (v := ?v1) rfl (by kernel_rfl) (by kernel_rfl) (by kernel_rfl) (fun _ _ _ h => h) (Or.inl ⟨by rfl, ?hy1⟩) hHeld ?rest1
    case hy1 => (intro w' hSw; (try dsimp only at hSw); go_simp; (try with_reducible rfl))
    try simp only [Act.put, List.setIfInBounds_toArray, List.set_cons_zero, List.set_cons_succ]
    refine wpAnyH_take (i := 1) (oi := { dst := some 41, op := Op.move (Operand.tmp 7), type := 25, pos := "law.go:35", after := #[], guard := none }) (v := ?v2) rfl (by kernel_rfl) (by kernel_rfl) (by kernel_rfl) (fun _ _ _ h => h) (Or.inl ⟨by rfl, ?hy2⟩) hHeld ?rest2
    case hy2 => (intro w' hSw; (try dsimp only at hSw); go_simp; (try with_reducible rfl))
    try simp only [Act.put, List.setIfInBounds_toArray, List.set_cons_zero, List.set_cons_succ]
    refine wpAnyH_ready (rs := [2]) (by kernel_rfl) (by simp) (AllReadyH.cons (o := { dst := some 42, op := Op.call { callee := Callee.value (Operand.func 11), args := #[Operand.tmp 40, Operand.tmp 41], argTypes := #[25, 25] }, type := 4, pos := "law.go:35", after := #[{ on := 0, ground := Ground.data }, { on := 1, ground := Ground.data }], guard := none }) rfl (fun K hK => ?_) AllReadyH.nil)
    go_simp
    (with_reducible refine (rsame_any A2 A3 _ _ _ _ W6.heap.size X X W6.drew (KY.out _ hbd).1.1 (KY.out _ hbd).1.2).mono ?_)
    rintro e t1 ⟨rfl, h1⟩
    rw [show sameB X X = true from by simp [sameB]]
    have tb1 : Below W6.heap.size W6 t1 := hbd.trans (h1.below _)
    have tg1 := GW.out.below tb1 GW.out.lt
    have tv1 := VW.out.below tb1 VW.out.lt
    have ts1 := SW.out.below tb1 SW.out.lt
    go_wp2_with fail
    refine hK.out _ _ (ten tg1 tv1 ts1) (fun hHeld' => ?_)
    clear hK K hHeld
    have hHeld := hHeld'
    clear hHeld'
    try simp only [Act.put, List.setIfInBounds_toArray, List.set_cons_zero, List.set_cons_succ]
    refine wpAnyH_take (i := 3) (oi := { dst := some 43, op := Op.move (Operand.tmp 42), type := 4, pos := "law.go:35", after := #[{ on := 2, ground := Ground.data }, { on := 2, ground := Ground.chain }], guard := none }) (v := ?v3) rfl (by kernel_rfl) (by kernel_rfl) (by kernel_rfl) (fun _ _ _ h => h) (Or.inl ⟨by rfl, ?hy3⟩) hHeld ?rest3
    case hy3 => (intro w' hSw; (try dsimp only at hSw); go_simp; (try with_reducible rfl))
    try simp only [Act.put, List.setIfInBounds_toArray, List.set_cons_zero, List.set_cons_succ]
    refine wpAnyH_take (i := 4) (oi := { dst := some 44, op := Op.move (Operand.tmp 6), type := 29, pos := "law.go:35", after := #[{ on := 3, ground := Ground.guard }], guard := some (3, true) }) (v := ?v4) rfl (by kernel_rfl) (by kernel_rfl) (by kernel_rfl) (fun _ _ _ h => h) (Or.inl ⟨by rfl, ?hy4⟩) hHeld ?rest4
    case hy4 => (intro w' hSw; (try dsimp only at hSw); go_simp; (try with_reducible rfl))
    try simp only [Act.put, List.setIfInBounds_toArray, List.set_cons_zero, List.set_cons_succ]
    refine wpAnyH_take (i := 5) (oi := { dst := some 45, op := Op.move (Operand.tmp 8), type := 3, pos := "law.go:35", after := #[{ on := 3, ground := Ground.guard }], guard := some (3, true) }) (v := ?v5) rfl (by kernel_rfl) (by kernel_rfl) (by kernel_rfl) (fun _ _ _ h => h) (Or.inl ⟨by rfl, ?hy5⟩) hHeld ?rest5
    case hy5 => (intro w' hSw; (try dsimp only at hSw); go_simp; (try with_reducible rfl))
    try simp only [Act.put, List.setIfInBounds_toArray, List.set_cons_zero, List.set_cons_succ]
    refine wpAnyH_take (i := 6) (oi := { dst := some 46, op := Op.binOp BinOp.eql 3 (Operand.tmp 44) (Operand.tmp 45) 3, type := 4, pos := "law.go:35", after := #[{ on := 4, ground := Ground.data }, { on := 5, ground := Ground.data }, { on := 3, ground := Ground.guard }], guard := some (3, true) }) (v := ?v6) rfl (by kernel_rfl) (by kernel_rfl) (by kernel_rfl) (fun _ _ _ h => h) (Or.inl ⟨by rfl, ?hy6⟩) hHeld ?rest6
    case hy6 => (intro w' hSw; (try dsimp only at hSw); go_simp; (try with_reducible rfl))
    try simp only [Act.put, List.setIfInBounds_toArray, List.set_cons_zero, List.set_cons_succ]
    refine wpAnyH_take (i := 7) (oi := { dst := some 47, op := Op.pick (Operand.tmp 43) (Operand.tmp 46) (Operand.const (Value.bool false)), type := 4, pos := "law.go:35", after := #[{ on := 3, ground := Ground.data }, { on := 6, ground := Ground.data }], guard := none }) (v := ?v7) rfl (by kernel_rfl) (by kernel_rfl) (by kernel_rfl) (fun _ _ _ h => h) (Or.inl ⟨by rfl, ?hy7⟩) hHeld ?rest7
    case hy7 => (intro w' hSw; (try dsimp only at hSw); go_simp; (try with_reducible rfl))
    try simp only [Act.put, List.setIfInBounds_toArray, List.set_cons_zero, List.set_cons_succ]
    refine wpAnyH_take (i := 8) (oi := { dst := some 48, op := Op.move (Operand.tmp 47), type := 4, pos := "law.go:35", after := #[{ on := 7, ground := Ground.data }, { on := 3, ground := Ground.chain }], guard := none }) (v := ?v8) rfl (by kernel_rfl) (by kernel_rfl) (by kernel_rfl) (fun _ _ _ h => h) (Or.inl ⟨by rfl, ?hy8⟩) hHeld ?rest8
    case hy8 => (intro w' hSw; (try dsimp only at hSw); go_simp; (try with_reducible rfl))
    try simp only [Act.put, List.setIfInBounds_toArray, List.set_cons_zero, List.set_cons_succ]
    refine wpAnyH_take (i := 9) (oi := { dst := some 49, op := Op.load 23 (Operand.tmp 2), type := 23, pos := "law.go:35", after := #[{ on := 8, ground := Ground.guard }], guard := some (8, true) }) (v := ?v9) rfl (by kernel_rfl) (by kernel_rfl) (by kernel_rfl) (fun _ _ _ h => h) (Or.inl ⟨by rfl, ?hy9⟩) hHeld ?rest9
    case hy9 => (intro w' hSw; (try dsimp only at hSw); go_simp; (try with_reducible rfl))
    try simp only [Act.put, List.setIfInBounds_toArray, List.set_cons_zero, List.set_cons_succ]
    refine wpAnyH_take (i := 12) (oi := { dst := some 52, op := Op.fieldAddr 23 (Operand.tmp 2) 0, type := 0, pos := "law.go:35", after := #[{ on := 8, ground := Ground.guard }], guard := some (8, true) }) (v := ?v10) rfl (by kernel_rfl) (by kernel_rfl) (by kernel_rfl) (fun _ _ _ h => h) (Or.inl ⟨by rfl, ?hy10⟩) hHeld ?rest10
    case hy10 => (intro w' hSw; (try dsimp only at hSw); go_simp; (try with_reducible rfl))
    try simp only [Act.put, List.setIfInBounds_toArray, List.set_cons_zero, List.set_cons_succ]
    refine wpAnyH_take (i := 13) (oi := { dst := some 53, op := Op.load 3 (Operand.tmp 52), type := 3, pos := "law.go:35", after := #[{ on := 12, ground := Ground.data }, { on := 8, ground := Ground.guard }], guard := some (8, true) }) (v := ?v11) rfl (by kernel_rfl) (by kernel_rfl) (by kernel_rfl) (fun _ _ _ h => h) (Or.inl ⟨by rfl, ?hy11⟩) hHeld ?rest11
    case hy11 => (intro w' hSw; (try dsimp only at hSw); go_simp; (try with_reducible rfl))
    try simp only [Act.put, List.setIfInBounds_toArray, List.set_cons_zero, List.set_cons_succ]
    refine wpAnyH_take (i := 14) (oi := { dst := some 54, op := Op.binOp BinOp.geq 3 (Operand.tmp 53) (Operand.const (Value.int IntKind.i64 1)) 3, type := 4, pos := "law.go:35", after := #[{ on := 13, ground := Ground.data }, { on := 8, ground := Ground.guard }], guard := some (8, true) }) (v := ?v12) rfl (by kernel_rfl) (by kernel_rfl) (by kernel_rfl) (fun _ _ _ h => h) (Or.inl ⟨by rfl, ?hy12⟩) hHeld ?rest12
    case hy12 => (intro w' hSw; (try dsimp only at hSw); go_simp; (try with_reducible rfl))
    try simp only [Act.put, List.setIfInBounds_toArray, List.set_cons_zero, List.set_cons_succ]
    refine wpAnyH_ready (rs := [10]) (by kernel_rfl) (by simp) (AllReadyH.cons (o := { dst := some 50, op := Op.call { callee := Callee.value (Operand.func 12), args := #[Operand.tmp 49], argTypes := #[32] }, type := 29, pos := "law.go:35", after := #[{ on := 9, ground := Ground.data }, { on := 8, ground := Ground.chain }, { on := 8, ground := Ground.guard }], guard := some (8, true) }) rfl (fun K hK => ?_) AllReadyH.nil)
    go_simp
    (with_reducible refine (HC.out _).mono ?_)
    rintro e t2 ⟨rfl, h2⟩
    have tb2 : Below W6.heap.size W6 t2 := tb1.trans (h2.mono tb1.size)
    have tg2 := GW.out.below tb2 GW.out.lt
    have tv2 := VW.out.below tb2 VW.out.lt
    have ts2 := SW.out.below tb2 SW.out.lt
    go_wp2_with fail
    refine hK.out _ _ (ten tg2 tv2 ts2) (fun hHeld' => ?_)
    clear hK K hHeld
    have hHeld := hHeld'
    clear hHeld'
    try simp only [Act.put, List.setIfInBounds_toArray, List.set_cons_zero, List.set_cons_succ]
    refine wpAnyH_take (i := 11) (oi := { dst := some 51, op := Op.binOp BinOp.eql 29 (Operand.tmp 50) (Operand.const (Value.int IntKind.i64 0)) 29, type := 4, pos := "law.go:35", after := #[{ on := 10, ground := Ground.data }, { on := 8, ground := Ground.guard }], guard := some (8, true) }) (v := ?v13) rfl (by kernel_rfl) (by kernel_rfl) (by kernel_rfl) (fun _ _ _ h => h) (Or.inl ⟨by rfl, ?hy13⟩) hHeld ?rest13
    case hy13 => (intro w' hSw; (try dsimp only at hSw); go_simp; (try with_reducible rfl))
    try simp only [Act.put, List.setIfInBounds_toArray, List.set_cons_zero, List.set_cons_succ]
    refine wpAnyH_take (i := 15) (oi := { dst := some 55, op := Op.move (Operand.tmp 54), type := 4, pos := "law.go:35", after := #[{ on := 14, ground := Ground.data }, { on := 10, ground := Ground.chain }, { on := 8, ground := Ground.guard }], guard := some (8, true) }) (v := ?v14) rfl (by kernel_rfl) (by kernel_rfl) (by kernel_rfl) (fun _ _ _ h => h) (Or.inl ⟨by rfl, ?hy14⟩) hHeld ?rest14
    case hy14 => (intro w' hSw; (try dsimp only at hSw); go_simp; (try with_reducible rfl))
    try simp only [Act.put, List.setIfInBounds_toArray, List.set_cons_zero, List.set_cons_succ]
    refine wpAnyH_take (i := 16) (oi := { dst := some 56, op := Op.fieldAddr 23 (Operand.tmp 2) 0, type := 0, pos := "law.go:35", after := #[{ on := 15, ground := Ground.guard }], guard := some (15, true) }) (v := undef) rfl (by kernel_rfl) (by kernel_rfl) (by kernel_rfl) (fun _ _ _ h => h) (Or.inr ⟨by rfl, rfl⟩) hHeld ?_
    try simp only [Act.put, List.setIfInBounds_toArray, List.set_cons_zero, List.set_cons_succ]
    refine wpAnyH_take (i := 17) (oi := { dst := some 57, op := Op.load 3 (Operand.tmp 56), type := 3, pos := "law.go:35", after := #[{ on := 16, ground := Ground.data }, { on := 15, ground := Ground.guard }], guard := some (15, true) }) (v := undef) rfl (by kernel_rfl) (by kernel_rfl) (by kernel_rfl) (fun _ _ _ h => h) (Or.inr ⟨by rfl, rfl⟩) hHeld ?_
    try simp only [Act.put, List.setIfInBounds_toArray, List.set_cons_zero, List.set_cons_succ]
    refine wpAnyH_take (i := 18) (oi := { dst := some 58, op := Op.binOp BinOp.leq 3 (Operand.tmp 57) (Operand.const (Value.int IntKind.i64 10)) 3, type := 4, pos := "law.go:35", after := #[{ on := 17, ground := Ground.data }, { on := 15, ground := Ground.guard }], guard := some (15, true) }) (v := undef) rfl (by kernel_rfl) (by kernel_rfl) (by kernel_rfl) (fun _ _ _ h => h) (Or.inr ⟨by rfl, rfl⟩) hHeld ?_
    try simp only [Act.put, List.setIfInBounds_toArray, List.set_cons_zero, List.set_cons_succ]
    refine wpAnyH_take (i := 19) (oi := { dst := some 59, op := Op.pick (Operand.tmp 55) (Operand.tmp 58) (Operand.const (Value.bool false)), type := 4, pos := "law.go:35", after := #[{ on := 15, ground := Ground.data }, { on := 18, ground := Ground.data }, { on := 8, ground := Ground.guard }], guard := some (8, true) }) (v := ?v15) rfl (by kernel_rfl) (by kernel_rfl) (by kernel_rfl) (fun _ _ _ h => h) (Or.inl ⟨by rfl, ?hy15⟩) hHeld ?rest15
    case hy15 => (intro w' hSw; (try dsimp only at hSw); go_simp; (try with_reducible rfl))
    try simp only [Act.put, List.setIfInBounds_toArray, List.set_cons_zero, List.set_cons_succ]
    refine wpAnyH_take (i := 20) (oi := { dst := some 60, op := Op.binOp BinOp.eql 4 (Operand.tmp 51) (Operand.tmp 59) 4, type := 4, pos := "law.go:35", after := #[{ on := 11, ground := Ground.data }, { on := 19, ground := Ground.data }, { on := 8, ground := Ground.guard }], guard := some (8, true) }) (v := ?v16) rfl (by kernel_rfl) (by kernel_rfl) (by kernel_rfl) (fun _ _ _ h => h) (Or.inl ⟨by rfl, ?hy16⟩) hHeld ?rest16
    case hy16 => (intro w' hSw; (try dsimp only at hSw); go_simp; (try with_reducible rfl))
    try simp only [Act.put, List.setIfInBounds_toArray, List.set_cons_zero, List.set_cons_succ]
    refine wpAnyH_take (i := 21) (oi := { dst := some 61, op := Op.pick (Operand.tmp 48) (Operand.tmp 60) (Operand.const (Value.bool false)), type := 4, pos := "law.go:35", after := #[{ on := 8, ground := Ground.data }, { on := 20, ground := Ground.data }], guard := none }) (v := ?v17) rfl (by kernel_rfl) (by kernel_rfl) (by kernel_rfl) (fun _ _ _ h => h) (Or.inl ⟨by rfl, ?hy17⟩) hHeld ?rest17
    case hy17 => (intro w' hSw; (try dsimp only at hSw); go_simp; (try with_reducible rfl))
    try simp only [Act.put, List.setIfInBounds_toArray, List.set_cons_zero, List.set_cons_succ]
    refine wpAnyH_take (i := 22) (oi := { dst := some 62, op := Op.move (Operand.tmp 61), type := 4, pos := "law.go:35", after := #[{ on := 21, ground := Ground.data }, { on := 15, ground := Ground.chain }], guard := none }) (v := ?v18) rfl (by kernel_rfl) (by kernel_rfl) (by kernel_rfl) (fun _ _ _ h => h) (Or.inl ⟨by rfl, ?hy18⟩) hHeld ?rest18
    case hy18 => (intro w' hSw; (try dsimp only at hSw); go_simp; (try with_reducible rfl))
    try simp only [Act.put, List.setIfInBounds_toArray, List.set_cons_zero, List.set_cons_succ]
    refine wpAnyH_take (i := 23) (oi := { dst := some 63, op := Op.load 33 (Operand.tmp 9), type := 33, pos := "law.go:35", after := #[{ on := 22, ground := Ground.guard }], guard := some (22, true) }) (v := ?v19) rfl (by kernel_rfl) (by kernel_rfl) (by kernel_rfl) (fun _ _ _ h => h) (Or.inl ⟨by rfl, ?hy19⟩) hHeld ?rest19
    case hy19 => (intro w' hSw; (try dsimp only at hSw); go_simp; (try with_reducible rfl))
    try simp only [Act.put, List.setIfInBounds_toArray, List.set_cons_zero, List.set_cons_succ]
    refine wpAnyH_take (i := 24) (oi := { dst := some 64, op := Op.load 23 (Operand.tmp 2), type := 23, pos := "law.go:35", after := #[{ on := 22, ground := Ground.guard }], guard := some (22, true) }) (v := ?v20) rfl (by kernel_rfl) (by kernel_rfl) (by kernel_rfl) (fun _ _ _ h => h) (Or.inl ⟨by rfl, ?hy20⟩) hHeld ?rest20
    case hy20 => (intro w' hSw; (try dsimp only at hSw); go_simp; (try with_reducible rfl))
    try simp only [Act.put, List.setIfInBounds_toArray, List.set_cons_zero, List.set_cons_succ]
    refine wpAnyH_take (i := 25) (oi := { dst := some 65, op := Op.load 27 (Operand.tmp 3), type := 27, pos := "law.go:35", after := #[{ on := 22, ground := Ground.guard }], guard := some (22, true) }) (v := ?v21) rfl (by kernel_rfl) (by kernel_rfl) (by kernel_rfl) (fun _ _ _ h => h) (Or.inl ⟨by rfl, ?hy21⟩) hHeld ?rest21
    case hy21 => (intro w' hSw; (try dsimp only at hSw); go_simp; (try with_reducible rfl))
    try simp only [Act.put, List.setIfInBounds_toArray, List.set_cons_zero, List.set_cons_succ]
    refine wpAnyH_ready (rs := [26]) (by kernel_rfl) (by simp) (AllReadyH.cons (o := { dst := some 66, op := Op.call { callee := Callee.value (Operand.func 14), args := #[Operand.tmp 64, Operand.tmp 65], argTypes := #[23, 27] }, type := 27, pos := "law.go:35", after := #[{ on := 24, ground := Ground.data }, { on := 25, ground := Ground.data }, { on := 22, ground := Ground.chain }, { on := 22, ground := Ground.guard }], guard := some (22, true) }) rfl (fun K hK => ?_) AllReadyH.nil)
    go_simp
    (with_reducible refine (HRb.out _ (BW.out.trans (tb2.mono BW.out.size))).mono ?_)
    rintro e t3 ⟨A7, n7, c7, rfl, y7, _, h3⟩
    have tb3 : Below W6.heap.size W6 t3 := tb2.trans (h3.mono tb2.size)
    have tg3 := GW.out.below tb3 GW.out.lt
    have tv3 := VW.out.below tb3 VW.out.lt
    have ts3 := SW.out.below tb3 SW.out.lt
    go_wp2_with fail
    refine hK.out _ _ (ten tg3 tv3 ts3) (fun hHeld' => ?_)
    clear hK K hHeld
    have hHeld := hHeld'
    clear hHeld'
    try simp only [Act.put, List.setIfInBounds_toArray, List.set_cons_zero, List.set_cons_succ]
    refine wpAnyH_ready (rs := [27]) (by kernel_rfl) (by simp) (AllReadyH.cons (o := { dst := some 67, op := Op.call { callee := Callee.value (Operand.func 13), args := #[Operand.tmp 63, Operand.tmp 66], argTypes := #[33, 27] }, type := 4, pos := "law.go:35", after := #[{ on := 23, ground := Ground.data }, { on := 26, ground := Ground.data }, { on := 26, ground := Ground.chain }, { on := 22, ground := Ground.guard }], guard := some (22, true) }) rfl (fun K hK => ?_) AllReadyH.nil)
    go_simp
    (with_reducible refine (same_yes _ _ _ _ _ _ _ _ _ LL _ _ ((KY.out _ tb3).2.2.more tb3.size) y7 (Nat.le_refl _)).mono ?_)
    rintro e t4 ⟨rfl, h4⟩
    have tb4 : Below W6.heap.size W6 t4 := tb3.trans (h4.mono tb3.size)
    have tg4 := GW.out.below tb4 GW.out.lt
    have tv4 := VW.out.below tb4 VW.out.lt
    have ts4 := SW.out.below tb4 SW.out.lt
    go_wp2_with fail
    refine hK.out _ _ (ten tg4 tv4 ts4) (fun hHeld' => ?_)
    clear hK K hHeld
    have hHeld := hHeld'
    clear hHeld'
    try simp only [Act.put, List.setIfInBounds_toArray, List.set_cons_zero, List.set_cons_succ]
    refine wpAnyH_take (i := 28) (oi := { dst := some 68, op := Op.pick (Operand.tmp 62) (Operand.tmp 67) (Operand.const (Value.bool false)), type := 4, pos := "law.go:35", after := #[{ on := 22, ground := Ground.data }, { on := 27, ground := Ground.data }], guard := none }) (v := ?v22) rfl (by kernel_rfl) (by kernel_rfl) (by kernel_rfl) (fun _ _ _ h => h) (Or.inl ⟨by rfl, ?hy22⟩) hHeld ?rest22
    case hy22 => (intro w' hSw; (try dsimp only at hSw); go_simp; (try with_reducible rfl))
    try simp only [Act.put, List.setIfInBounds_toArray, List.set_cons_zero, List.set_cons_succ]
    refine wpAnyH_take (i := 29) (oi := { dst := some 69, op := Op.move (Operand.tmp 68), type := 4, pos := "law.go:35", after := #[{ on := 28, ground := Ground.data }, { on := 27, ground := Ground.chain }], guard := none }) (v := ?v23) rfl (by kernel_rfl) (by kernel_rfl) (by kernel_rfl) (fun _ _ _ h => h) (Or.inl ⟨by rfl, ?hy23⟩) hHeld ?rest23
    case hy23 => (intro w' hSw; (try dsimp only at hSw); go_simp; (try with_reducible rfl))
    try simp only [Act.put, List.setIfInBounds_toArray, List.set_cons_zero, List.set_cons_succ]
    refine wpAnyH_take (i := 30) (oi := { dst := some 70, op := Op.move (Operand.tmp 10), type := 25, pos := "law.go:35", after := #[{ on := 29, ground := Ground.guard }], guard := some (29, true) }) (v := ?v24) rfl (by kernel_rfl) (by kernel_rfl) (by kernel_rfl) (fun _ _ _ h => h) (Or.inl ⟨by rfl, ?hy24⟩) hHeld ?rest24
    case hy24 => (intro w' hSw; (try dsimp only at hSw); go_simp; (try with_reducible rfl))
    try simp only [Act.put, List.setIfInBounds_toArray, List.set_cons_zero, List.set_cons_succ]
    refine wpAnyH_take (i := 31) (oi := { dst := some 71, op := Op.move (Operand.tmp 7), type := 25, pos := "law.go:35", after := #[{ on := 29, ground := Ground.guard }], guard := some (29, true) }) (v := ?v25) rfl (by kernel_rfl) (by kernel_rfl) (by kernel_rfl) (fun _ _ _ h => h) (Or.inl ⟨by rfl, ?hy25⟩) hHeld ?rest25
    case hy25 => (intro w' hSw; (try dsimp only at hSw); go_simp; (try with_reducible rfl))
    try simp only [Act.put, List.setIfInBounds_toArray, List.set_cons_zero, List.set_cons_succ]
    refine wpAnyH_ready (rs := [32]) (by kernel_rfl) (by simp) (AllReadyH.cons (o := { dst := some 72, op := Op.call { callee := Callee.value (Operand.func 11), args := #[Operand.tmp 70, Operand.tmp 71], argTypes := #[25, 25] }, type := 4, pos := "law.go:35", after := #[{ on := 30, ground := Ground.data }, { on := 31, ground := Ground.data }, { on := 29, ground := Ground.chain }, { on := 29, ground := Ground.guard }], guard := some (29, true) }) rfl (fun K hK => ?_) AllReadyH.nil)
    go_simp
    (with_reducible refine (rsame_any A6 A3 _ _ _ _ W6.heap.size X X _ (KY.out _ tb4).2.1 (KY.out _ tb4).1.2).mono ?_)
    rintro e t5 ⟨rfl, h5⟩
    rw [show sameB X X = true from by simp [sameB]]
    have tb5 : Below W6.heap.size W6 t5 := tb4.trans (h5.below _)
    have tg5 := GW.out.below tb5 GW.out.lt
    have tv5 := VW.out.below tb5 VW.out.lt
    have ts5 := SW.out.below tb5 SW.out.lt
    go_wp2_with fail
    refine hK.out _ _ (ten tg5 tv5 ts5) (fun hHeld' => ?_)
    clear hK K hHeld
    have hHeld := hHeld'
    clear hHeld'
    try simp only [Act.put, List.setIfInBounds_toArray, List.set_cons_zero, List.set_cons_succ]
    refine wpAnyH_take (i := 33) (oi := { dst := some 73, op := Op.pick (Operand.tmp 69) (Operand.tmp 72) (Operand.const (Value.bool false)), type := 4, pos := "law.go:35", after := #[{ on := 29, ground := Ground.data }, { on := 32, ground := Ground.data }], guard := none }) (v := ?v26) rfl (by kernel_rfl) (by kernel_rfl) (by kernel_rfl) (fun _ _ _ h => h) (Or.inl ⟨by rfl, ?hy26⟩) hHeld ?rest26
    case hy26 => (intro w' hSw; (try dsimp only at hSw); go_simp; (try with_reducible rfl))
    try simp only [Act.put, List.setIfInBounds_toArray, List.set_cons_zero, List.set_cons_succ]
    refine wpAnyH_take (i := 34) (oi := { dst := some 74, op := Op.move (Operand.tmp 73), type := 4, pos := "law.go:35", after := #[{ on := 33, ground := Ground.data }, { on := 32, ground := Ground.chain }], guard := none }) (v := ?v27) rfl (by kernel_rfl) (by kernel_rfl) (by kernel_rfl) (fun _ _ _ h => h) (Or.inl ⟨by rfl, ?hy27⟩) hHeld ?rest27
    case hy27 => (intro w' hSw; (try dsimp only at hSw); go_simp; (try with_reducible rfl))
    try simp only [Act.put, List.setIfInBounds_toArray, List.set_cons_zero, List.set_cons_succ]
    refine wpAnyH_take (i := 35) (oi := { dst := some 75, op := Op.move (Operand.tmp 11), type := 29, pos := "law.go:35", after := #[{ on := 34, ground := Ground.guard }], guard := some (34, true) }) (v := ?v28) rfl (by kernel_rfl) (by kernel_rfl) (by kernel_rfl) (fun _ _ _ h => h) (Or.inl ⟨by rfl, ?hy28⟩) hHeld ?rest28
    case hy28 => (intro w' hSw; (try dsimp only at hSw); go_simp; (try with_reducible rfl))
    try simp only [Act.put, List.setIfInBounds_toArray, List.set_cons_zero, List.set_cons_succ]
    refine wpAnyH_take (i := 36) (oi := { dst := some 76, op := Op.move (Operand.tmp 8), type := 3, pos := "law.go:35", after := #[{ on := 34, ground := Ground.guard }], guard := some (34, true) }) (v := ?v29) rfl (by kernel_rfl) (by kernel_rfl) (by kernel_rfl) (fun _ _ _ h => h) (Or.inl ⟨by rfl, ?hy29⟩) hHeld ?rest29
    case hy29 => (intro w' hSw; (try dsimp only at hSw); go_simp; (try with_reducible rfl))
    try simp only [Act.put, List.setIfInBounds_toArray, List.set_cons_zero, List.set_cons_succ]
    refine wpAnyH_take (i := 37) (oi := { dst := some 77, op := Op.binOp BinOp.eql 3 (Operand.tmp 75) (Operand.tmp 76) 3, type := 4, pos := "law.go:35", after := #[{ on := 35, ground := Ground.data }, { on := 36, ground := Ground.data }, { on := 34, ground := Ground.guard }], guard := some (34, true) }) (v := ?v30) rfl (by kernel_rfl) (by kernel_rfl) (by kernel_rfl) (fun _ _ _ h => h) (Or.inl ⟨by rfl, ?hy30⟩) hHeld ?rest30
    case hy30 => (intro w' hSw; (try dsimp only at hSw); go_simp; (try with_reducible rfl))
    try simp only [Act.put, List.setIfInBounds_toArray, List.set_cons_zero, List.set_cons_succ]
    refine wpAnyH_take (i := 38) (oi := { dst := some 78, op := Op.pick (Operand.tmp 74) (Operand.tmp 77) (Operand.const (Value.bool false)), type := 4, pos := "law.go:35", after := #[{ on := 34, ground := Ground.data }, { on := 37, ground := Ground.data }], guard := none }) (v := ?v31) rfl (by kernel_rfl) (by kernel_rfl) (by kernel_rfl) (fun _ _ _ h => h) (Or.inl ⟨by rfl, ?hy31⟩) hHeld ?rest31
    case hy31 => (intro w' hSw; (try dsimp only at hSw); go_simp; (try with_reducible rfl))
    try simp only [Act.put, List.setIfInBounds_toArray, List.set_cons_zero, List.set_cons_succ]
    refine wpAnyH_take (i := 39) (oi := { dst := some 79, op := Op.move (Operand.tmp 78), type := 4, pos := "law.go:35", after := #[{ on := 38, ground := Ground.data }, { on := 34, ground := Ground.chain }], guard := none }) (v := ?v32) rfl (by kernel_rfl) (by kernel_rfl) (by kernel_rfl) (fun _ _ _ h => h) (Or.inl ⟨by rfl, ?hy32⟩) hHeld ?rest32
    case hy32 => (intro w' hSw; (try dsimp only at hSw); go_simp; (try with_reducible rfl))
    try simp only [Act.put, List.setIfInBounds_toArray, List.set_cons_zero, List.set_cons_succ]
    refine wpAnyH_ready (rs := [40]) (by kernel_rfl) (by simp) (AllReadyH.cons (o := { dst := some 80, op := Op.call { callee := Callee.value (Operand.func 6), args := #[], argTypes := #[] }, type := 4, pos := "law.go:35", after := #[{ on := 39, ground := Ground.chain }, { on := 39, ground := Ground.guard }], guard := some (39, true) }) rfl (fun K hK => ?_) AllReadyH.nil)
    go_simp
    (with_reducible refine (alive_any _ (HT.out _ (BW.out.trans (tb5.mono BW.out.size)))).mono ?_)
    rintro e t6 ⟨rfl, h6⟩
    have tb6 : Below W6.heap.size W6 t6 := tb5.trans (h6.mono tb5.size)
    have tg6 := GW.out.below tb6 GW.out.lt
    have tv6 := VW.out.below tb6 VW.out.lt
    have ts6 := SW.out.below tb6 SW.out.lt
    go_wp2_with fail
    refine hK.out _ _ (ten tg6 tv6 ts6) (fun hHeld' => ?_)
    clear hK K hHeld
    have hHeld := hHeld'
    clear hHeld'
    try simp only [Act.put, List.setIfInBounds_toArray, List.set_cons_zero, List.set_cons_succ]
    refine wpAnyH_take (i := 41) (oi := { dst := some 81, op := Op.pick (Operand.tmp 79) (Operand.tmp 80) (Operand.const (Value.bool false)), type := 4, pos := "law.go:35", after := #[{ on := 39, ground := Ground.data }, { on := 40, ground := Ground.data }], guard := none }) (v := ?v33) rfl (by kernel_rfl) (by kernel_rfl) (by kernel_rfl) (fun _ _ _ h => h) (Or.inl ⟨by rfl, ?hy33⟩) hHeld ?rest33
    case hy33 => (intro w' hSw; (try dsimp only at hSw); go_simp; (try with_reducible rfl))
    try simp only [Act.put, List.setIfInBounds_toArray, List.set_cons_zero, List.set_cons_succ]
    refine wpAnyH_take (i := 42) (oi := { dst := some 4, op := Op.assign (Operand.tmp 81), type := 4, pos := "law.go:35", after := #[{ on := 41, ground := Ground.data }, { on := 40, ground := Ground.chain }, { on := 0, ground := Ground.phase }, { on := 1, ground := Ground.phase }, { on := 2, ground := Ground.phase }, { on := 3, ground := Ground.phase }, { on := 4, ground := Ground.phase }, { on := 5, ground := Ground.phase }, { on := 6, ground := Ground.phase }, { on := 7, ground := Ground.phase }, { on := 8, ground := Ground.phase }, { on := 9, ground := Ground.phase }, { on := 10, ground := Ground.phase }, { on := 11, ground := Ground.phase }, { on := 12, ground := Ground.phase }, { on := 13, ground := Ground.phase }, { on := 14, ground := Ground.phase }, { on := 15, ground := Ground.phase }, { on := 16, ground := Ground.phase }, { on := 17, ground := Ground.phase }, { on := 18, ground := Ground.phase }, { on := 19, ground := Ground.phase }, { on := 20, ground := Ground.phase }, { on := 21, ground := Ground.phase }, { on := 22, ground := Ground.phase }, { on := 23, ground := Ground.phase }, { on := 24, ground := Ground.phase }, { on := 25, ground := Ground.phase }, { on := 26, ground := Ground.phase }, { on := 27, ground := Ground.phase }, { on := 28, ground := Ground.phase }, { on := 29, ground := Ground.phase }, { on := 30, ground := Ground.phase }, { on := 31, ground := Ground.phase }, { on := 32, ground := Ground.phase }, { on := 33, ground := Ground.phase }, { on := 34, ground := Ground.phase }, { on := 35, ground := Ground.phase }, { on := 36, ground := Ground.phase }, { on := 37, ground := Ground.phase }, { on := 38, ground := Ground.phase }, { on := 39, ground := Ground.phase }, { on := 40, ground := Ground.phase }, { on := 41, ground := Ground.phase }], guard := none }) (v := ?v34) rfl (by kernel_rfl) (by kernel_rfl) (by kernel_rfl) (fun _ _ _ h => h) (Or.inl ⟨by rfl, ?hy34⟩) hHeld ?rest34
    case hy34 => (intro w' hSw; (try dsimp only at hSw); go_simp; (try with_reducible rfl))
    try simp only [Act.put, List.setIfInBounds_toArray, List.set_cons_zero, List.set_cons_succ]
    refine wpAnyH_done (by kernel_rfl) ?_ _
    go_wp2
    go_ret
    exact ⟨by simp, BW.out.trans (tb6.mono BW.out.size)⟩
  · have hwd : w.heap.size + 1 < W3.heap.size := wd3
    generalize hV : (((x2.setCell ⟨x1.heap.size, 0, none⟩ (.int .u64 (U : Int))).setCell ⟨x1.heap.size, 1, none⟩ (.int .i64 I)).setCell ⟨x1.heap.size, 2, none⟩ (.slice A5 n5 c5)).setCell ⟨x1.heap.size, 3, none⟩ (.bool Q) = V
    have SV := Lib.hid (show Four V x1.heap.size (.int .u64 (U : Int)) (.int .i64 I) (.slice A5 n5 c5) (.bool Q) from by subst hV; exact hz2.set4 _ _ _ _)
    have GV := Lib.hid (show Two V w.heap.size (.int .i64 k) (.bool f) from by subst hV; exact hg2.far4 hne0 _ _ _ _)
    have VVV := Lib.hid (show Four V (w.heap.size + 1) (.int .u64 (u : Int)) (.int .i64 i) (.slice A n c) (.bool t) from by subst hV; exact hv2.far4 hne1 _ _ _ _)
    have BV := Lib.hid (show Below w.heap.size w V from by subst hV; exact below_set4 hb2 (by omega) _ _ _ _)
    have DV := Lib.hid (show Below W3.heap.size W3 V from by subst hV; exact below_set4 hd2 (by omega) _ _ _ _)
    have YV := Lib.hid (show Byt V V.heap.size A5 n5 LL from by subst hV; rw [size_set4]; exact hz2.keep4 y2 _ _ _ _)
    clear hV h1 h2 y2 hg1 hv1 hb1 hd1 hg2 hv2 hb2 hd2 B3d G3d V3d B3a G3a V3a G3b V3b Z3a D3d D3a k0 k1 v0 v1 v2 v3 hz2 z0 z1 z2 z3 zf
    have k0 := GV.out.k0
    have k1 := GV.out.k1
    have v0 := VVV.out.c0
    have v1 := VVV.out.c1
    have v2 := VVV.out.c2
    have v3 := VVV.out.c3
    have s0 := SV.out.c0
    have s1 := SV.out.c1
    have s2 := SV.out.c2
    have s3 := SV.out.c3
    go_wp2_with fail
    (with_reducible refine (HPB.out _ _ _ _ BV.out YV.out).mono ?_)
    rintro e W6 ⟨A6, n6, c6, rfl, y6, h6⟩
    have GW := Lib.hid (GV.out.below h6 GV.out.lt)
    have VW := Lib.hid (VVV.out.below h6 VVV.out.lt)
    have SW := Lib.hid (SV.out.below h6 SV.out.lt)
    have BW := Lib.hid (BV.out.trans (h6.mono BV.out.size))
    have KY := Lib.hid (show ∀ Z, Below W6.heap.size W6 Z → (Byt Z W6.heap.size A2 n2 X ∧ Byt Z W6.heap.size A3 n3 X) ∧ Byt Z W6.heap.size A6 n6 X ∧ Byt Z W6.heap.size A5 n5 LL from by
      have hd : Below W3.heap.size W3 W6 := DV.out.trans (h6.mono DV.out.size)
      have q1 : Byt W6 W6.heap.size A2 n2 X := (Y23.out.below hd).more hd.size
      have q2 : Byt W6 W6.heap.size A3 n3 X := (Y3.out.below hd).more hd.size
      have q3 : Byt W6 W6.heap.size A5 n5 LL := (YV.out.below h6).more h6.size
      exact fun Z h => ⟨⟨q1.below h, q2.below h⟩, y6.below h, q3.below h⟩)
    clear h6 y6 s0 s1 s2 s3 k0 k1 v0 v1 v2 v3
    have hb0 : Below W6.heap.size W6 W6 := Below.refl _ _
    have hbd : Below W6.heap.size W6 W6.drew := (Below.refl _ _).drew
    have GWd : Two W6.drew w.heap.size (.int .i64 k) (.bool f) := GW.out
    have VWd : Four W6.drew (w.heap.size + 1) (.int .u64 (u : Int)) (.int .i64 i) (.slice A n c) (.bool t) := VW.out
    have SWd : Four W6.drew x1.heap.size (.int .u64 (U : Int)) (.int .i64 I) (.slice A5 n5 c5) (.bool Q) := SW.out
    go_wp2_with fail
    refine wp_region_held_drew (S := fun w' => w'.cell? ⟨w.heap.size, 0, none⟩ = some (.int .i64 k) ∧ w'.cell? ⟨w.heap.size, 1, none⟩ = some (.bool f) ∧ w'.cell? ⟨w.heap.size + 1, 0, none⟩ = some (.int .u64 (u : Int)) ∧ w'.cell? ⟨w.heap.size + 1, 1, none⟩ = some (.int .i64 i) ∧ w'.cell? ⟨w.heap.size + 1, 2, none⟩ = some (.slice A n c) ∧ w'.cell? ⟨w.heap.size + 1, 3, none⟩ = some (.bool t) ∧ w'.cell? ⟨x1.heap.size, 0, none⟩ = some (.int .u64 (U : Int)) ∧ w'.cell? ⟨x1.heap.size, 1, none⟩ = some (.int .i64 I) ∧ w'.cell? ⟨x1.heap.size, 2, none⟩ = some (.slice A5 n5 c5) ∧ w'.cell? ⟨x1.heap.size, 3, none⟩ = some (.bool Q)) (by kernel_rfl) (ten GWd VWd SWd) (fun hHeld => ?_)
    refine wpAnyH_take (i := 0) (oi := { dst := some 40, op := Op.move (Operand.tmp 5), type := 25, pos := "law.go:35", after := #[], guard := none }) (v := ?v35) rfl (by kernel_rfl) (by kernel_rfl) (by kernel_rfl) (fun _ _ _ h => h) (Or.inl ⟨by rfl, ?hy35⟩) hHeld ?rest35
    case hy35 => (intro w' hSw; (try dsimp only at hSw); go_simp; (try with_reducible rfl))
    try simp only [Act.put, List.setIfInBounds_toArray, List.set_cons_zero, List.set_cons_succ]
    refine wpAnyH_take (i := 1) (oi := { dst := some 41, op := Op.move (Operand.tmp 7), type := 25, pos := "law.go:35", after := #[], guard := none }) (v := ?v36) rfl (by kernel_rfl) (by kernel_rfl) (by kernel_rfl) (fun _ _ _ h => h) (Or.inl ⟨by rfl, ?hy36⟩) hHeld ?rest36
    case hy36 => (intro w' hSw; (try dsimp only at hSw); go_simp; (try with_reducible rfl))
    try simp only [Act.put, List.setIfInBounds_toArray, List.set_cons_zero, List.set_cons_succ]
    refine wpAnyH_ready (rs := [2]) (by kernel_rfl) (by simp) (AllReadyH.cons (o := { dst := some 42, op := Op.call { callee := Callee.value (Operand.func 11), args := #[Operand.tmp 40, Operand.tmp 41], argTypes := #[25, 25] }, type := 4, pos := "law.go:35", after := #[{ on := 0, ground := Ground.data }, { on := 1, ground := Ground.data }], guard := none }) rfl (fun K hK => ?_) AllReadyH.nil)
    go_simp
    (with_reducible refine (rsame_any A2 A3 _ _ _ _ W6.heap.size X X W6.drew (KY.out _ hbd).1.1 (KY.out _ hbd).1.2).mono ?_)
    rintro e t1 ⟨rfl, h1⟩
    rw [show sameB X X = true from by simp [sameB]]
    have tb1 : Below W6.heap.size W6 t1 := hbd.trans (h1.below _)
    have tg1 := GW.out.below tb1 GW.out.lt
    have tv1 := VW.out.below tb1 VW.out.lt
    have ts1 := SW.out.below tb1 SW.out.lt
    go_wp2_with fail
    refine hK.out _ _ (ten tg1 tv1 ts1) (fun hHeld' => ?_)
    clear hK K hHeld
    have hHeld := hHeld'
    clear hHeld'
    try simp only [Act.put, List.setIfInBounds_toArray, List.set_cons_zero, List.set_cons_succ]
    refine wpAnyH_take (i := 3) (oi := { dst := some 43, op := Op.move (Operand.tmp 42), type := 4, pos := "law.go:35", after := #[{ on := 2, ground := Ground.data }, { on := 2, ground := Ground.chain }], guard := none }) (v := ?v37) rfl (by kernel_rfl) (by kernel_rfl) (by kernel_rfl) (fun _ _ _ h => h) (Or.inl ⟨by rfl, ?hy37⟩) hHeld ?rest37
    case hy37 => (intro w' hSw; (try dsimp only at hSw); go_simp; (try with_reducible rfl))
    try simp only [Act.put, List.setIfInBounds_toArray, List.set_cons_zero, List.set_cons_succ]
    refine wpAnyH_take (i := 4) (oi := { dst := some 44, op := Op.move (Operand.tmp 6), type := 29, pos := "law.go:35", after := #[{ on := 3, ground := Ground.guard }], guard := some (3, true) }) (v := ?v38) rfl (by kernel_rfl) (by kernel_rfl) (by kernel_rfl) (fun _ _ _ h => h) (Or.inl ⟨by rfl, ?hy38⟩) hHeld ?rest38
    case hy38 => (intro w' hSw; (try dsimp only at hSw); go_simp; (try with_reducible rfl))
    try simp only [Act.put, List.setIfInBounds_toArray, List.set_cons_zero, List.set_cons_succ]
    refine wpAnyH_take (i := 5) (oi := { dst := some 45, op := Op.move (Operand.tmp 8), type := 3, pos := "law.go:35", after := #[{ on := 3, ground := Ground.guard }], guard := some (3, true) }) (v := ?v39) rfl (by kernel_rfl) (by kernel_rfl) (by kernel_rfl) (fun _ _ _ h => h) (Or.inl ⟨by rfl, ?hy39⟩) hHeld ?rest39
    case hy39 => (intro w' hSw; (try dsimp only at hSw); go_simp; (try with_reducible rfl))
    try simp only [Act.put, List.setIfInBounds_toArray, List.set_cons_zero, List.set_cons_succ]
    refine wpAnyH_take (i := 6) (oi := { dst := some 46, op := Op.binOp BinOp.eql 3 (Operand.tmp 44) (Operand.tmp 45) 3, type := 4, pos := "law.go:35", after := #[{ on := 4, ground := Ground.data }, { on := 5, ground := Ground.data }, { on := 3, ground := Ground.guard }], guard := some (3, true) }) (v := ?v40) rfl (by kernel_rfl) (by kernel_rfl) (by kernel_rfl) (fun _ _ _ h => h) (Or.inl ⟨by rfl, ?hy40⟩) hHeld ?rest40
    case hy40 => (intro w' hSw; (try dsimp only at hSw); go_simp; (try with_reducible rfl))
    try simp only [Act.put, List.setIfInBounds_toArray, List.set_cons_zero, List.set_cons_succ]
    refine wpAnyH_take (i := 7) (oi := { dst := some 47, op := Op.pick (Operand.tmp 43) (Operand.tmp 46) (Operand.const (Value.bool false)), type := 4, pos := "law.go:35", after := #[{ on := 3, ground := Ground.data }, { on := 6, ground := Ground.data }], guard := none }) (v := ?v41) rfl (by kernel_rfl) (by kernel_rfl) (by kernel_rfl) (fun _ _ _ h => h) (Or.inl ⟨by rfl, ?hy41⟩) hHeld ?rest41
    case hy41 => (intro w' hSw; (try dsimp only at hSw); go_simp; (try with_reducible rfl))
    try simp only [Act.put, List.setIfInBounds_toArray, List.set_cons_zero, List.set_cons_succ]
    refine wpAnyH_take (i := 8) (oi := { dst := some 48, op := Op.move (Operand.tmp 47), type := 4, pos := "law.go:35", after := #[{ on := 7, ground := Ground.data }, { on := 3, ground := Ground.chain }], guard := none }) (v := ?v42) rfl (by kernel_rfl) (by kernel_rfl) (by kernel_rfl) (fun _ _ _ h => h) (Or.inl ⟨by rfl, ?hy42⟩) hHeld ?rest42
    case hy42 => (intro w' hSw; (try dsimp only at hSw); go_simp; (try with_reducible rfl))
    try simp only [Act.put, List.setIfInBounds_toArray, List.set_cons_zero, List.set_cons_succ]
    refine wpAnyH_take (i := 9) (oi := { dst := some 49, op := Op.load 23 (Operand.tmp 2), type := 23, pos := "law.go:35", after := #[{ on := 8, ground := Ground.guard }], guard := some (8, true) }) (v := ?v43) rfl (by kernel_rfl) (by kernel_rfl) (by kernel_rfl) (fun _ _ _ h => h) (Or.inl ⟨by rfl, ?hy43⟩) hHeld ?rest43
    case hy43 => (intro w' hSw; (try dsimp only at hSw); go_simp; (try with_reducible rfl))
    try simp only [Act.put, List.setIfInBounds_toArray, List.set_cons_zero, List.set_cons_succ]
    refine wpAnyH_take (i := 12) (oi := { dst := some 52, op := Op.fieldAddr 23 (Operand.tmp 2) 0, type := 0, pos := "law.go:35", after := #[{ on := 8, ground := Ground.guard }], guard := some (8, true) }) (v := ?v44) rfl (by kernel_rfl) (by kernel_rfl) (by kernel_rfl) (fun _ _ _ h => h) (Or.inl ⟨by rfl, ?hy44⟩) hHeld ?rest44
    case hy44 => (intro w' hSw; (try dsimp only at hSw); go_simp; (try with_reducible rfl))
    try simp only [Act.put, List.setIfInBounds_toArray, List.set_cons_zero, List.set_cons_succ]
    refine wpAnyH_take (i := 13) (oi := { dst := some 53, op := Op.load 3 (Operand.tmp 52), type := 3, pos := "law.go:35", after := #[{ on := 12, ground := Ground.data }, { on := 8, ground := Ground.guard }], guard := some (8, true) }) (v := ?v45) rfl (by kernel_rfl) (by kernel_rfl) (by kernel_rfl) (fun _ _ _ h => h) (Or.inl ⟨by rfl, ?hy45⟩) hHeld ?rest45
    case hy45 => (intro w' hSw; (try dsimp only at hSw); go_simp; (try with_reducible rfl))
    try simp only [Act.put, List.setIfInBounds_toArray, List.set_cons_zero, List.set_cons_succ]
    refine wpAnyH_take (i := 14) (oi := { dst := some 54, op := Op.binOp BinOp.geq 3 (Operand.tmp 53) (Operand.const (Value.int IntKind.i64 1)) 3, type := 4, pos := "law.go:35", after := #[{ on := 13, ground := Ground.data }, { on := 8, ground := Ground.guard }], guard := some (8, true) }) (v := ?v46) rfl (by kernel_rfl) (by kernel_rfl) (by kernel_rfl) (fun _ _ _ h => h) (Or.inl ⟨by rfl, ?hy46⟩) hHeld ?rest46
    case hy46 => (intro w' hSw; (try dsimp only at hSw); go_simp; (try with_reducible rfl))
    try simp only [Act.put, List.setIfInBounds_toArray, List.set_cons_zero, List.set_cons_succ]
    refine wpAnyH_ready (rs := [10]) (by kernel_rfl) (by simp) (AllReadyH.cons (o := { dst := some 50, op := Op.call { callee := Callee.value (Operand.func 12), args := #[Operand.tmp 49], argTypes := #[32] }, type := 29, pos := "law.go:35", after := #[{ on := 9, ground := Ground.data }, { on := 8, ground := Ground.chain }, { on := 8, ground := Ground.guard }], guard := some (8, true) }) rfl (fun K hK => ?_) AllReadyH.nil)
    go_simp
    (with_reducible refine (HC.out _).mono ?_)
    rintro e t2 ⟨rfl, h2⟩
    have tb2 : Below W6.heap.size W6 t2 := tb1.trans (h2.mono tb1.size)
    have tg2 := GW.out.below tb2 GW.out.lt
    have tv2 := VW.out.below tb2 VW.out.lt
    have ts2 := SW.out.below tb2 SW.out.lt
    go_wp2_with fail
    refine hK.out _ _ (ten tg2 tv2 ts2) (fun hHeld' => ?_)
    clear hK K hHeld
    have hHeld := hHeld'
    clear hHeld'
    try simp only [Act.put, List.setIfInBounds_toArray, List.set_cons_zero, List.set_cons_succ]
    refine wpAnyH_take (i := 11) (oi := { dst := some 51, op := Op.binOp BinOp.eql 29 (Operand.tmp 50) (Operand.const (Value.int IntKind.i64 0)) 29, type := 4, pos := "law.go:35", after := #[{ on := 10, ground := Ground.data }, { on := 8, ground := Ground.guard }], guard := some (8, true) }) (v := ?v47) rfl (by kernel_rfl) (by kernel_rfl) (by kernel_rfl) (fun _ _ _ h => h) (Or.inl ⟨by rfl, ?hy47⟩) hHeld ?rest47
    case hy47 => (intro w' hSw; (try dsimp only at hSw); go_simp; (try with_reducible rfl))
    try simp only [Act.put, List.setIfInBounds_toArray, List.set_cons_zero, List.set_cons_succ]
    refine wpAnyH_take (i := 15) (oi := { dst := some 55, op := Op.move (Operand.tmp 54), type := 4, pos := "law.go:35", after := #[{ on := 14, ground := Ground.data }, { on := 10, ground := Ground.chain }, { on := 8, ground := Ground.guard }], guard := some (8, true) }) (v := ?v48) rfl (by kernel_rfl) (by kernel_rfl) (by kernel_rfl) (fun _ _ _ h => h) (Or.inl ⟨by rfl, ?hy48⟩) hHeld ?rest48
    case hy48 => (intro w' hSw; (try dsimp only at hSw); go_simp; (try with_reducible rfl))
    try simp only [Act.put, List.setIfInBounds_toArray, List.set_cons_zero, List.set_cons_succ]
    refine wpAnyH_take (i := 16) (oi := { dst := some 56, op := Op.fieldAddr 23 (Operand.tmp 2) 0, type := 0, pos := "law.go:35", after := #[{ on := 15, ground := Ground.guard }], guard := some (15, true) }) (v := undef) rfl (by kernel_rfl) (by kernel_rfl) (by kernel_rfl) (fun _ _ _ h => h) (Or.inr ⟨by rfl, rfl⟩) hHeld ?_
    try simp only [Act.put, List.setIfInBounds_toArray, List.set_cons_zero, List.set_cons_succ]
    refine wpAnyH_take (i := 17) (oi := { dst := some 57, op := Op.load 3 (Operand.tmp 56), type := 3, pos := "law.go:35", after := #[{ on := 16, ground := Ground.data }, { on := 15, ground := Ground.guard }], guard := some (15, true) }) (v := undef) rfl (by kernel_rfl) (by kernel_rfl) (by kernel_rfl) (fun _ _ _ h => h) (Or.inr ⟨by rfl, rfl⟩) hHeld ?_
    try simp only [Act.put, List.setIfInBounds_toArray, List.set_cons_zero, List.set_cons_succ]
    refine wpAnyH_take (i := 18) (oi := { dst := some 58, op := Op.binOp BinOp.leq 3 (Operand.tmp 57) (Operand.const (Value.int IntKind.i64 10)) 3, type := 4, pos := "law.go:35", after := #[{ on := 17, ground := Ground.data }, { on := 15, ground := Ground.guard }], guard := some (15, true) }) (v := undef) rfl (by kernel_rfl) (by kernel_rfl) (by kernel_rfl) (fun _ _ _ h => h) (Or.inr ⟨by rfl, rfl⟩) hHeld ?_
    try simp only [Act.put, List.setIfInBounds_toArray, List.set_cons_zero, List.set_cons_succ]
    refine wpAnyH_take (i := 19) (oi := { dst := some 59, op := Op.pick (Operand.tmp 55) (Operand.tmp 58) (Operand.const (Value.bool false)), type := 4, pos := "law.go:35", after := #[{ on := 15, ground := Ground.data }, { on := 18, ground := Ground.data }, { on := 8, ground := Ground.guard }], guard := some (8, true) }) (v := ?v49) rfl (by kernel_rfl) (by kernel_rfl) (by kernel_rfl) (fun _ _ _ h => h) (Or.inl ⟨by rfl, ?hy49⟩) hHeld ?rest49
    case hy49 => (intro w' hSw; (try dsimp only at hSw); go_simp; (try with_reducible rfl))
    try simp only [Act.put, List.setIfInBounds_toArray, List.set_cons_zero, List.set_cons_succ]
    refine wpAnyH_take (i := 20) (oi := { dst := some 60, op := Op.binOp BinOp.eql 4 (Operand.tmp 51) (Operand.tmp 59) 4, type := 4, pos := "law.go:35", after := #[{ on := 11, ground := Ground.data }, { on := 19, ground := Ground.data }, { on := 8, ground := Ground.guard }], guard := some (8, true) }) (v := ?v50) rfl (by kernel_rfl) (by kernel_rfl) (by kernel_rfl) (fun _ _ _ h => h) (Or.inl ⟨by rfl, ?hy50⟩) hHeld ?rest50
    case hy50 => (intro w' hSw; (try dsimp only at hSw); go_simp; (try with_reducible rfl))
    try simp only [Act.put, List.setIfInBounds_toArray, List.set_cons_zero, List.set_cons_succ]
    refine wpAnyH_take (i := 21) (oi := { dst := some 61, op := Op.pick (Operand.tmp 48) (Operand.tmp 60) (Operand.const (Value.bool false)), type := 4, pos := "law.go:35", after := #[{ on := 8, ground := Ground.data }, { on := 20, ground := Ground.data }], guard := none }) (v := ?v51) rfl (by kernel_rfl) (by kernel_rfl) (by kernel_rfl) (fun _ _ _ h => h) (Or.inl ⟨by rfl, ?hy51⟩) hHeld ?rest51
    case hy51 => (intro w' hSw; (try dsimp only at hSw); go_simp; (try with_reducible rfl))
    try simp only [Act.put, List.setIfInBounds_toArray, List.set_cons_zero, List.set_cons_succ]
    refine wpAnyH_take (i := 22) (oi := { dst := some 62, op := Op.move (Operand.tmp 61), type := 4, pos := "law.go:35", after := #[{ on := 21, ground := Ground.data }, { on := 15, ground := Ground.chain }], guard := none }) (v := ?v52) rfl (by kernel_rfl) (by kernel_rfl) (by kernel_rfl) (fun _ _ _ h => h) (Or.inl ⟨by rfl, ?hy52⟩) hHeld ?rest52
    case hy52 => (intro w' hSw; (try dsimp only at hSw); go_simp; (try with_reducible rfl))
    try simp only [Act.put, List.setIfInBounds_toArray, List.set_cons_zero, List.set_cons_succ]
    refine wpAnyH_take (i := 23) (oi := { dst := some 63, op := Op.load 33 (Operand.tmp 9), type := 33, pos := "law.go:35", after := #[{ on := 22, ground := Ground.guard }], guard := some (22, true) }) (v := ?v53) rfl (by kernel_rfl) (by kernel_rfl) (by kernel_rfl) (fun _ _ _ h => h) (Or.inl ⟨by rfl, ?hy53⟩) hHeld ?rest53
    case hy53 => (intro w' hSw; (try dsimp only at hSw); go_simp; (try with_reducible rfl))
    try simp only [Act.put, List.setIfInBounds_toArray, List.set_cons_zero, List.set_cons_succ]
    refine wpAnyH_take (i := 24) (oi := { dst := some 64, op := Op.load 23 (Operand.tmp 2), type := 23, pos := "law.go:35", after := #[{ on := 22, ground := Ground.guard }], guard := some (22, true) }) (v := ?v54) rfl (by kernel_rfl) (by kernel_rfl) (by kernel_rfl) (fun _ _ _ h => h) (Or.inl ⟨by rfl, ?hy54⟩) hHeld ?rest54
    case hy54 => (intro w' hSw; (try dsimp only at hSw); go_simp; (try with_reducible rfl))
    try simp only [Act.put, List.setIfInBounds_toArray, List.set_cons_zero, List.set_cons_succ]
    refine wpAnyH_take (i := 25) (oi := { dst := some 65, op := Op.load 27 (Operand.tmp 3), type := 27, pos := "law.go:35", after := #[{ on := 22, ground := Ground.guard }], guard := some (22, true) }) (v := ?v55) rfl (by kernel_rfl) (by kernel_rfl) (by kernel_rfl) (fun _ _ _ h => h) (Or.inl ⟨by rfl, ?hy55⟩) hHeld ?rest55
    case hy55 => (intro w' hSw; (try dsimp only at hSw); go_simp; (try with_reducible rfl))
    try simp only [Act.put, List.setIfInBounds_toArray, List.set_cons_zero, List.set_cons_succ]
    refine wpAnyH_ready (rs := [26]) (by kernel_rfl) (by simp) (AllReadyH.cons (o := { dst := some 66, op := Op.call { callee := Callee.value (Operand.func 14), args := #[Operand.tmp 64, Operand.tmp 65], argTypes := #[23, 27] }, type := 27, pos := "law.go:35", after := #[{ on := 24, ground := Ground.data }, { on := 25, ground := Ground.data }, { on := 22, ground := Ground.chain }, { on := 22, ground := Ground.guard }], guard := some (22, true) }) rfl (fun K hK => ?_) AllReadyH.nil)
    go_simp
    (with_reducible refine (HRb.out _ (BW.out.trans (tb2.mono BW.out.size))).mono ?_)
    rintro e t3 ⟨A7, n7, c7, rfl, y7, _, h3⟩
    have tb3 : Below W6.heap.size W6 t3 := tb2.trans (h3.mono tb2.size)
    have tg3 := GW.out.below tb3 GW.out.lt
    have tv3 := VW.out.below tb3 VW.out.lt
    have ts3 := SW.out.below tb3 SW.out.lt
    go_wp2_with fail
    refine hK.out _ _ (ten tg3 tv3 ts3) (fun hHeld' => ?_)
    clear hK K hHeld
    have hHeld := hHeld'
    clear hHeld'
    try simp only [Act.put, List.setIfInBounds_toArray, List.set_cons_zero, List.set_cons_succ]
    refine wpAnyH_ready (rs := [27]) (by kernel_rfl) (by simp) (AllReadyH.cons (o := { dst := some 67, op := Op.call { callee := Callee.value (Operand.func 13), args := #[Operand.tmp 63, Operand.tmp 66], argTypes := #[33, 27] }, type := 4, pos := "law.go:35", after := #[{ on := 23, ground := Ground.data }, { on := 26, ground := Ground.data }, { on := 26, ground := Ground.chain }, { on := 22, ground := Ground.guard }], guard := some (22, true) }) rfl (fun K hK => ?_) AllReadyH.nil)
    go_simp
    (with_reducible refine (same_yes _ _ _ _ _ _ _ _ _ LL _ _ ((KY.out _ tb3).2.2.more tb3.size) y7 (Nat.le_refl _)).mono ?_)
    rintro e t4 ⟨rfl, h4⟩
    have tb4 : Below W6.heap.size W6 t4 := tb3.trans (h4.mono tb3.size)
    have tg4 := GW.out.below tb4 GW.out.lt
    have tv4 := VW.out.below tb4 VW.out.lt
    have ts4 := SW.out.below tb4 SW.out.lt
    go_wp2_with fail
    refine hK.out _ _ (ten tg4 tv4 ts4) (fun hHeld' => ?_)
    clear hK K hHeld
    have hHeld := hHeld'
    clear hHeld'
    try simp only [Act.put, List.setIfInBounds_toArray, List.set_cons_zero, List.set_cons_succ]
    refine wpAnyH_take (i := 28) (oi := { dst := some 68, op := Op.pick (Operand.tmp 62) (Operand.tmp 67) (Operand.const (Value.bool false)), type := 4, pos := "law.go:35", after := #[{ on := 22, ground := Ground.data }, { on := 27, ground := Ground.data }], guard := none }) (v := ?v56) rfl (by kernel_rfl) (by kernel_rfl) (by kernel_rfl) (fun _ _ _ h => h) (Or.inl ⟨by rfl, ?hy56⟩) hHeld ?rest56
    case hy56 => (intro w' hSw; (try dsimp only at hSw); go_simp; (try with_reducible rfl))
    try simp only [Act.put, List.setIfInBounds_toArray, List.set_cons_zero, List.set_cons_succ]
    refine wpAnyH_take (i := 29) (oi := { dst := some 69, op := Op.move (Operand.tmp 68), type := 4, pos := "law.go:35", after := #[{ on := 28, ground := Ground.data }, { on := 27, ground := Ground.chain }], guard := none }) (v := ?v57) rfl (by kernel_rfl) (by kernel_rfl) (by kernel_rfl) (fun _ _ _ h => h) (Or.inl ⟨by rfl, ?hy57⟩) hHeld ?rest57
    case hy57 => (intro w' hSw; (try dsimp only at hSw); go_simp; (try with_reducible rfl))
    try simp only [Act.put, List.setIfInBounds_toArray, List.set_cons_zero, List.set_cons_succ]
    refine wpAnyH_take (i := 30) (oi := { dst := some 70, op := Op.move (Operand.tmp 10), type := 25, pos := "law.go:35", after := #[{ on := 29, ground := Ground.guard }], guard := some (29, true) }) (v := ?v58) rfl (by kernel_rfl) (by kernel_rfl) (by kernel_rfl) (fun _ _ _ h => h) (Or.inl ⟨by rfl, ?hy58⟩) hHeld ?rest58
    case hy58 => (intro w' hSw; (try dsimp only at hSw); go_simp; (try with_reducible rfl))
    try simp only [Act.put, List.setIfInBounds_toArray, List.set_cons_zero, List.set_cons_succ]
    refine wpAnyH_take (i := 31) (oi := { dst := some 71, op := Op.move (Operand.tmp 7), type := 25, pos := "law.go:35", after := #[{ on := 29, ground := Ground.guard }], guard := some (29, true) }) (v := ?v59) rfl (by kernel_rfl) (by kernel_rfl) (by kernel_rfl) (fun _ _ _ h => h) (Or.inl ⟨by rfl, ?hy59⟩) hHeld ?rest59
    case hy59 => (intro w' hSw; (try dsimp only at hSw); go_simp; (try with_reducible rfl))
    try simp only [Act.put, List.setIfInBounds_toArray, List.set_cons_zero, List.set_cons_succ]
    refine wpAnyH_ready (rs := [32]) (by kernel_rfl) (by simp) (AllReadyH.cons (o := { dst := some 72, op := Op.call { callee := Callee.value (Operand.func 11), args := #[Operand.tmp 70, Operand.tmp 71], argTypes := #[25, 25] }, type := 4, pos := "law.go:35", after := #[{ on := 30, ground := Ground.data }, { on := 31, ground := Ground.data }, { on := 29, ground := Ground.chain }, { on := 29, ground := Ground.guard }], guard := some (29, true) }) rfl (fun K hK => ?_) AllReadyH.nil)
    go_simp
    (with_reducible refine (rsame_any A6 A3 _ _ _ _ W6.heap.size X X _ (KY.out _ tb4).2.1 (KY.out _ tb4).1.2).mono ?_)
    rintro e t5 ⟨rfl, h5⟩
    rw [show sameB X X = true from by simp [sameB]]
    have tb5 : Below W6.heap.size W6 t5 := tb4.trans (h5.below _)
    have tg5 := GW.out.below tb5 GW.out.lt
    have tv5 := VW.out.below tb5 VW.out.lt
    have ts5 := SW.out.below tb5 SW.out.lt
    go_wp2_with fail
    refine hK.out _ _ (ten tg5 tv5 ts5) (fun hHeld' => ?_)
    clear hK K hHeld
    have hHeld := hHeld'
    clear hHeld'
    try simp only [Act.put, List.setIfInBounds_toArray, List.set_cons_zero, List.set_cons_succ]
    refine wpAnyH_take (i := 33) (oi := { dst := some 73, op := Op.pick (Operand.tmp 69) (Operand.tmp 72) (Operand.const (Value.bool false)), type := 4, pos := "law.go:35", after := #[{ on := 29, ground := Ground.data }, { on := 32, ground := Ground.data }], guard := none }) (v := ?v60) rfl (by kernel_rfl) (by kernel_rfl) (by kernel_rfl) (fun _ _ _ h => h) (Or.inl ⟨by rfl, ?hy60⟩) hHeld ?rest60
    case hy60 => (intro w' hSw; (try dsimp only at hSw); go_simp; (try with_reducible rfl))
    try simp only [Act.put, List.setIfInBounds_toArray, List.set_cons_zero, List.set_cons_succ]
    refine wpAnyH_take (i := 34) (oi := { dst := some 74, op := Op.move (Operand.tmp 73), type := 4, pos := "law.go:35", after := #[{ on := 33, ground := Ground.data }, { on := 32, ground := Ground.chain }], guard := none }) (v := ?v61) rfl (by kernel_rfl) (by kernel_rfl) (by kernel_rfl) (fun _ _ _ h => h) (Or.inl ⟨by rfl, ?hy61⟩) hHeld ?rest61
    case hy61 => (intro w' hSw; (try dsimp only at hSw); go_simp; (try with_reducible rfl))
    try simp only [Act.put, List.setIfInBounds_toArray, List.set_cons_zero, List.set_cons_succ]
    refine wpAnyH_take (i := 35) (oi := { dst := some 75, op := Op.move (Operand.tmp 11), type := 29, pos := "law.go:35", after := #[{ on := 34, ground := Ground.guard }], guard := some (34, true) }) (v := ?v62) rfl (by kernel_rfl) (by kernel_rfl) (by kernel_rfl) (fun _ _ _ h => h) (Or.inl ⟨by rfl, ?hy62⟩) hHeld ?rest62
    case hy62 => (intro w' hSw; (try dsimp only at hSw); go_simp; (try with_reducible rfl))
    try simp only [Act.put, List.setIfInBounds_toArray, List.set_cons_zero, List.set_cons_succ]
    refine wpAnyH_take (i := 36) (oi := { dst := some 76, op := Op.move (Operand.tmp 8), type := 3, pos := "law.go:35", after := #[{ on := 34, ground := Ground.guard }], guard := some (34, true) }) (v := ?v63) rfl (by kernel_rfl) (by kernel_rfl) (by kernel_rfl) (fun _ _ _ h => h) (Or.inl ⟨by rfl, ?hy63⟩) hHeld ?rest63
    case hy63 => (intro w' hSw; (try dsimp only at hSw); go_simp; (try with_reducible rfl))
    try simp only [Act.put, List.setIfInBounds_toArray, List.set_cons_zero, List.set_cons_succ]
    refine wpAnyH_take (i := 37) (oi := { dst := some 77, op := Op.binOp BinOp.eql 3 (Operand.tmp 75) (Operand.tmp 76) 3, type := 4, pos := "law.go:35", after := #[{ on := 35, ground := Ground.data }, { on := 36, ground := Ground.data }, { on := 34, ground := Ground.guard }], guard := some (34, true) }) (v := ?v64) rfl (by kernel_rfl) (by kernel_rfl) (by kernel_rfl) (fun _ _ _ h => h) (Or.inl ⟨by rfl, ?hy64⟩) hHeld ?rest64
    case hy64 => (intro w' hSw; (try dsimp only at hSw); go_simp; (try with_reducible rfl))
    try simp only [Act.put, List.setIfInBounds_toArray, List.set_cons_zero, List.set_cons_succ]
    refine wpAnyH_take (i := 38) (oi := { dst := some 78, op := Op.pick (Operand.tmp 74) (Operand.tmp 77) (Operand.const (Value.bool false)), type := 4, pos := "law.go:35", after := #[{ on := 34, ground := Ground.data }, { on := 37, ground := Ground.data }], guard := none }) (v := ?v65) rfl (by kernel_rfl) (by kernel_rfl) (by kernel_rfl) (fun _ _ _ h => h) (Or.inl ⟨by rfl, ?hy65⟩) hHeld ?rest65
    case hy65 => (intro w' hSw; (try dsimp only at hSw); go_simp; (try with_reducible rfl))
    try simp only [Act.put, List.setIfInBounds_toArray, List.set_cons_zero, List.set_cons_succ]
    refine wpAnyH_take (i := 39) (oi := { dst := some 79, op := Op.move (Operand.tmp 78), type := 4, pos := "law.go:35", after := #[{ on := 38, ground := Ground.data }, { on := 34, ground := Ground.chain }], guard := none }) (v := ?v66) rfl (by kernel_rfl) (by kernel_rfl) (by kernel_rfl) (fun _ _ _ h => h) (Or.inl ⟨by rfl, ?hy66⟩) hHeld ?rest66
    case hy66 => (intro w' hSw; (try dsimp only at hSw); go_simp; (try with_reducible rfl))
    try simp only [Act.put, List.setIfInBounds_toArray, List.set_cons_zero, List.set_cons_succ]
    refine wpAnyH_ready (rs := [40]) (by kernel_rfl) (by simp) (AllReadyH.cons (o := { dst := some 80, op := Op.call { callee := Callee.value (Operand.func 6), args := #[], argTypes := #[] }, type := 4, pos := "law.go:35", after := #[{ on := 39, ground := Ground.chain }, { on := 39, ground := Ground.guard }], guard := some (39, true) }) rfl (fun K hK => ?_) AllReadyH.nil)
    go_simp
    (with_reducible refine (alive_any _ (HT.out _ (BW.out.trans (tb5.mono BW.out.size)))).mono ?_)
    rintro e t6 ⟨rfl, h6⟩
    have tb6 : Below W6.heap.size W6 t6 := tb5.trans (h6.mono tb5.size)
    have tg6 := GW.out.below tb6 GW.out.lt
    have tv6 := VW.out.below tb6 VW.out.lt
    have ts6 := SW.out.below tb6 SW.out.lt
    go_wp2_with fail
    refine hK.out _ _ (ten tg6 tv6 ts6) (fun hHeld' => ?_)
    clear hK K hHeld
    have hHeld := hHeld'
    clear hHeld'
    try simp only [Act.put, List.setIfInBounds_toArray, List.set_cons_zero, List.set_cons_succ]
    refine wpAnyH_take (i := 41) (oi := { dst := some 81, op := Op.pick (Operand.tmp 79) (Operand.tmp 80) (Operand.const (Value.bool false)), type := 4, pos := "law.go:35", after := #[{ on := 39, ground := Ground.data }, { on := 40, ground := Ground.data }], guard := none }) (v := ?v67) rfl (by kernel_rfl) (by kernel_rfl) (by kernel_rfl) (fun _ _ _ h => h) (Or.inl ⟨by rfl, ?hy67⟩) hHeld ?rest67
    case hy67 => (intro w' hSw; (try dsimp only at hSw); go_simp; (try with_reducible rfl))
    try simp only [Act.put, List.setIfInBounds_toArray, List.set_cons_zero, List.set_cons_succ]
    refine wpAnyH_take (i := 42) (oi := { dst := some 4, op := Op.assign (Operand.tmp 81), type := 4, pos := "law.go:35", after := #[{ on := 41, ground := Ground.data }, { on := 40, ground := Ground.chain }, { on := 0, ground := Ground.phase }, { on := 1, ground := Ground.phase }, { on := 2, ground := Ground.phase }, { on := 3, ground := Ground.phase }, { on := 4, ground := Ground.phase }, { on := 5, ground := Ground.phase }, { on := 6, ground := Ground.phase }, { on := 7, ground := Ground.phase }, { on := 8, ground := Ground.phase }, { on := 9, ground := Ground.phase }, { on := 10, ground := Ground.phase }, { on := 11, ground := Ground.phase }, { on := 12, ground := Ground.phase }, { on := 13, ground := Ground.phase }, { on := 14, ground := Ground.phase }, { on := 15, ground := Ground.phase }, { on := 16, ground := Ground.phase }, { on := 17, ground := Ground.phase }, { on := 18, ground := Ground.phase }, { on := 19, ground := Ground.phase }, { on := 20, ground := Ground.phase }, { on := 21, ground := Ground.phase }, { on := 22, ground := Ground.phase }, { on := 23, ground := Ground.phase }, { on := 24, ground := Ground.phase }, { on := 25, ground := Ground.phase }, { on := 26, ground := Ground.phase }, { on := 27, ground := Ground.phase }, { on := 28, ground := Ground.phase }, { on := 29, ground := Ground.phase }, { on := 30, ground := Ground.phase }, { on := 31, ground := Ground.phase }, { on := 32, ground := Ground.phase }, { on := 33, ground := Ground.phase }, { on := 34, ground := Ground.phase }, { on := 35, ground := Ground.phase }, { on := 36, ground := Ground.phase }, { on := 37, ground := Ground.phase }, { on := 38, ground := Ground.phase }, { on := 39, ground := Ground.phase }, { on := 40, ground := Ground.phase }, { on := 41, ground := Ground.phase }], guard := none }) (v := ?v68) rfl (by kernel_rfl) (by kernel_rfl) (by kernel_rfl) (fun _ _ _ h => h) (Or.inl ⟨by rfl, ?hy68⟩) hHeld ?rest68
    case hy68 => (intro w' hSw; (try dsimp only at hSw); go_simp; (try with_reducible rfl))
    try simp only [Act.put, List.setIfInBounds_toArray, List.set_cons_zero, List.set_cons_succ]
    refine wpAnyH_done (by kernel_rfl) ?_ _
    go_wp2
    go_ret
    exact ⟨by simp, BW.out.trans (tb6.mono BW.out.size)⟩
  · have hwd : w.heap.size + 1 < W3.heap.size := wd3
    generalize hV : (((x2.setCell ⟨W3.heap.size, 0, none⟩ (.int .u64 (U : Int))).setCell ⟨W3.heap.size, 1, none⟩ (.int .i64 I)).setCell ⟨W3.heap.size, 2, none⟩ (.slice A5 n5 c5)).setCell ⟨W3.heap.size, 3, none⟩ (.bool Q) = V
    have SV := Lib.hid (show Four V W3.heap.size (.int .u64 (U : Int)) (.int .i64 I) (.slice A5 n5 c5) (.bool Q) from by subst hV; exact hz2.set4 _ _ _ _)
    have GV := Lib.hid (show Two V w.heap.size (.int .i64 k) (.bool f) from by subst hV; exact hg2.far4 hne0 _ _ _ _)
    have VVV := Lib.hid (show Four V (w.heap.size + 1) (.int .u64 (u : Int)) (.int .i64 i) (.slice A n c) (.bool t) from by subst hV; exact hv2.far4 hne1 _ _ _ _)
    have BV := Lib.hid (show Below w.heap.size w V from by subst hV; exact below_set4 hb2 (by omega) _ _ _ _)
    have DV := Lib.hid (show Below W3.heap.size W3 V from by subst hV; exact below_set4 hd2 (by omega) _ _ _ _)
    have YV := Lib.hid (show Byt V V.heap.size A5 n5 LL from by subst hV; rw [size_set4]; exact hz2.keep4 y2 _ _ _ _)
    clear hV h1 h2 y2 hg1 hv1 hb1 hd1 hg2 hv2 hb2 hd2 B3d G3d V3d B3a G3a V3a G3b V3b Z3a D3d D3a k0 k1 v0 v1 v2 v3 hz2 z0 z1 z2 z3 zf hz1
    have k0 := GV.out.k0
    have k1 := GV.out.k1
    have v0 := VVV.out.c0
    have v1 := VVV.out.c1
    have v2 := VVV.out.c2
    have v3 := VVV.out.c3
    have s0 := SV.out.c0
    have s1 := SV.out.c1
    have s2 := SV.out.c2
    have s3 := SV.out.c3
    go_wp2_with fail
    (with_reducible refine (HPB.out _ _ _ _ BV.out YV.out).mono ?_)
    rintro e W6 ⟨A6, n6, c6, rfl, y6, h6⟩
    have GW := Lib.hid (GV.out.below h6 GV.out.lt)
    have VW := Lib.hid (VVV.out.below h6 VVV.out.lt)
    have SW := Lib.hid (SV.out.below h6 SV.out.lt)
    have BW := Lib.hid (BV.out.trans (h6.mono BV.out.size))
    have KY := Lib.hid (show ∀ Z, Below W6.heap.size W6 Z → (Byt Z W6.heap.size A2 n2 X ∧ Byt Z W6.heap.size A3 n3 X) ∧ Byt Z W6.heap.size A6 n6 X ∧ Byt Z W6.heap.size A5 n5 LL from by
      have hd : Below W3.heap.size W3 W6 := DV.out.trans (h6.mono DV.out.size)
      have q1 : Byt W6 W6.heap.size A2 n2 X := (Y23.out.below hd).more hd.size
      have q2 : Byt W6 W6.heap.size A3 n3 X := (Y3.out.below hd).more hd.size
      have q3 : Byt W6 W6.heap.size A5 n5 LL := (YV.out.below h6).more h6.size
      exact fun Z h => ⟨⟨q1.below h, q2.below h⟩, y6.below h, q3.below h⟩)
    clear h6 y6 s0 s1 s2 s3 k0 k1 v0 v1 v2 v3
    have hb0 : Below W6.heap.size W6 W6 := Below.refl _ _
    have hbd : Below W6.heap.size W6 W6.drew := (Below.refl _ _).drew
    have GWd : Two W6.drew w.heap.size (.int .i64 k) (.bool f) := GW.out
    have VWd : Four W6.drew (w.heap.size + 1) (.int .u64 (u : Int)) (.int .i64 i) (.slice A n c) (.bool t) := VW.out
    have SWd : Four W6.drew W3.heap.size (.int .u64 (U : Int)) (.int .i64 I) (.slice A5 n5 c5) (.bool Q) := SW.out
    go_wp2_with fail
    refine wp_region_held_drew (S := fun w' => w'.cell? ⟨w.heap.size, 0, none⟩ = some (.int .i64 k) ∧ w'.cell? ⟨w.heap.size, 1, none⟩ = some (.bool f) ∧ w'.cell? ⟨w.heap.size + 1, 0, none⟩ = some (.int .u64 (u : Int)) ∧ w'.cell? ⟨w.heap.size + 1, 1, none⟩ = some (.int .i64 i) ∧ w'.cell? ⟨w.heap.size + 1, 2, none⟩ = some (.slice A n c) ∧ w'.cell? ⟨w.heap.size + 1, 3, none⟩ = some (.bool t) ∧ w'.cell? ⟨W3.heap.size, 0, none⟩ = some (.int .u64 (U : Int)) ∧ w'.cell? ⟨W3.heap.size, 1, none⟩ = some (.int .i64 I) ∧ w'.cell? ⟨W3.heap.size, 2, none⟩ = some (.slice A5 n5 c5) ∧ w'.cell? ⟨W3.heap.size, 3, none⟩ = some (.bool Q)) (by kernel_rfl) (ten GWd VWd SWd) (fun hHeld => ?_)
    refine wpAnyH_take (i := 0) (oi := { dst := some 40, op := Op.move (Operand.tmp 5), type := 25, pos := "law.go:35", after := #[], guard := none }) (v := ?v69) rfl (by kernel_rfl) (by kernel_rfl) (by kernel_rfl) (fun _ _ _ h => h) (Or.inl ⟨by rfl, ?hy69⟩) hHeld ?rest69
    case hy69 => (intro w' hSw; (try dsimp only at hSw); go_simp; (try with_reducible rfl))
    try simp only [Act.put, List.setIfInBounds_toArray, List.set_cons_zero, List.set_cons_succ]
    refine wpAnyH_take (i := 1) (oi := { dst := some 41, op := Op.move (Operand.tmp 7), type := 25, pos := "law.go:35", after := #[], guard := none }) (v := ?v70) rfl (by kernel_rfl) (by kernel_rfl) (by kernel_rfl) (fun _ _ _ h => h) (Or.inl ⟨by rfl, ?hy70⟩) hHeld ?rest70
    case hy70 => (intro w' hSw; (try dsimp only at hSw); go_simp; (try with_reducible rfl))
    try simp only [Act.put, List.setIfInBounds_toArray, List.set_cons_zero, List.set_cons_succ]
    refine wpAnyH_ready (rs := [2]) (by kernel_rfl) (by simp) (AllReadyH.cons (o := { dst := some 42, op := Op.call { callee := Callee.value (Operand.func 11), args := #[Operand.tmp 40, Operand.tmp 41], argTypes := #[25, 25] }, type := 4, pos := "law.go:35", after := #[{ on := 0, ground := Ground.data }, { on := 1, ground := Ground.data }], guard := none }) rfl (fun K hK => ?_) AllReadyH.nil)
    go_simp
    (with_reducible refine (rsame_any A2 A3 _ _ _ _ W6.heap.size X X W6.drew (KY.out _ hbd).1.1 (KY.out _ hbd).1.2).mono ?_)
    rintro e t1 ⟨rfl, h1⟩
    rw [show sameB X X = true from by simp [sameB]]
    have tb1 : Below W6.heap.size W6 t1 := hbd.trans (h1.below _)
    have tg1 := GW.out.below tb1 GW.out.lt
    have tv1 := VW.out.below tb1 VW.out.lt
    have ts1 := SW.out.below tb1 SW.out.lt
    go_wp2_with fail
    refine hK.out _ _ (ten tg1 tv1 ts1) (fun hHeld' => ?_)
    clear hK K hHeld
    have hHeld := hHeld'
    clear hHeld'
    try simp only [Act.put, List.setIfInBounds_toArray, List.set_cons_zero, List.set_cons_succ]
    refine wpAnyH_take (i := 3) (oi := { dst := some 43, op := Op.move (Operand.tmp 42), type := 4, pos := "law.go:35", after := #[{ on := 2, ground := Ground.data }, { on := 2, ground := Ground.chain }], guard := none }) (v := ?v71) rfl (by kernel_rfl) (by kernel_rfl) (by kernel_rfl) (fun _ _ _ h => h) (Or.inl ⟨by rfl, ?hy71⟩) hHeld ?rest71
    case hy71 => (intro w' hSw; (try dsimp only at hSw); go_simp; (try with_reducible rfl))
    try simp only [Act.put, List.setIfInBounds_toArray, List.set_cons_zero, List.set_cons_succ]
    refine wpAnyH_take (i := 4) (oi := { dst := some 44, op := Op.move (Operand.tmp 6), type := 29, pos := "law.go:35", after := #[{ on := 3, ground := Ground.guard }], guard := some (3, true) }) (v := ?v72) rfl (by kernel_rfl) (by kernel_rfl) (by kernel_rfl) (fun _ _ _ h => h) (Or.inl ⟨by rfl, ?hy72⟩) hHeld ?rest72
    case hy72 => (intro w' hSw; (try dsimp only at hSw); go_simp; (try with_reducible rfl))
    try simp only [Act.put, List.setIfInBounds_toArray, List.set_cons_zero, List.set_cons_succ]
    refine wpAnyH_take (i := 5) (oi := { dst := some 45, op := Op.move (Operand.tmp 8), type := 3, pos := "law.go:35", after := #[{ on := 3, ground := Ground.guard }], guard := some (3, true) }) (v := ?v73) rfl (by kernel_rfl) (by kernel_rfl) (by kernel_rfl) (fun _ _ _ h => h) (Or.inl ⟨by rfl, ?hy73⟩) hHeld ?rest73
    case hy73 => (intro w' hSw; (try dsimp only at hSw); go_simp; (try with_reducible rfl))
    try simp only [Act.put, List.setIfInBounds_toArray, List.set_cons_zero, List.set_cons_succ]
    refine wpAnyH_take (i := 6) (oi := { dst := some 46, op := Op.binOp BinOp.eql 3 (Operand.tmp 44) (Operand.tmp 45) 3, type := 4, pos := "law.go:35", after := #[{ on := 4, ground := Ground.data }, { on := 5, ground := Ground.data }, { on := 3, ground := Ground.guard }], guard := some (3, true) }) (v := ?v74) rfl (by kernel_rfl) (by kernel_rfl) (by kernel_rfl) (fun _ _ _ h => h) (Or.inl ⟨by rfl, ?hy74⟩) hHeld ?rest74
    case hy74 => (intro w' hSw; (try dsimp only at hSw); go_simp; (try with_reducible rfl))
    try simp only [Act.put, List.setIfInBounds_toArray, List.set_cons_zero, List.set_cons_succ]
    refine wpAnyH_take (i := 7) (oi := { dst := some 47, op := Op.pick (Operand.tmp 43) (Operand.tmp 46) (Operand.const (Value.bool false)), type := 4, pos := "law.go:35", after := #[{ on := 3, ground := Ground.data }, { on := 6, ground := Ground.data }], guard := none }) (v := ?v75) rfl (by kernel_rfl) (by kernel_rfl) (by kernel_rfl) (fun _ _ _ h => h) (Or.inl ⟨by rfl, ?hy75⟩) hHeld ?rest75
    case hy75 => (intro w' hSw; (try dsimp only at hSw); go_simp; (try with_reducible rfl))
    try simp only [Act.put, List.setIfInBounds_toArray, List.set_cons_zero, List.set_cons_succ]
    refine wpAnyH_take (i := 8) (oi := { dst := some 48, op := Op.move (Operand.tmp 47), type := 4, pos := "law.go:35", after := #[{ on := 7, ground := Ground.data }, { on := 3, ground := Ground.chain }], guard := none }) (v := ?v76) rfl (by kernel_rfl) (by kernel_rfl) (by kernel_rfl) (fun _ _ _ h => h) (Or.inl ⟨by rfl, ?hy76⟩) hHeld ?rest76
    case hy76 => (intro w' hSw; (try dsimp only at hSw); go_simp; (try with_reducible rfl))
    try simp only [Act.put, List.setIfInBounds_toArray, List.set_cons_zero, List.set_cons_succ]
    refine wpAnyH_take (i := 9) (oi := { dst := some 49, op := Op.load 23 (Operand.tmp 2), type := 23, pos := "law.go:35", after := #[{ on := 8, ground := Ground.guard }], guard := some (8, true) }) (v := ?v77) rfl (by kernel_rfl) (by kernel_rfl) (by kernel_rfl) (fun _ _ _ h => h) (Or.inl ⟨by rfl, ?hy77⟩) hHeld ?rest77
    case hy77 => (intro w' hSw; (try dsimp only at hSw); go_simp; (try with_reducible rfl))
    try simp only [Act.put, List.setIfInBounds_toArray, List.set_cons_zero, List.set_cons_succ]
    refine wpAnyH_take (i := 12) (oi := { dst := some 52, op := Op.fieldAddr 23 (Operand.tmp 2) 0, type := 0, pos := "law.go:35", after := #[{ on := 8, ground := Ground.guard }], guard := some (8, true) }) (v := ?v78) rfl (by kernel_rfl) (by kernel_rfl) (by kernel_rfl) (fun _ _ _ h => h) (Or.inl ⟨by rfl, ?hy78⟩) hHeld ?rest78
    case hy78 => (intro w' hSw; (try dsimp only at hSw); go_simp; (try with_reducible rfl))
    try simp only [Act.put, List.setIfInBounds_toArray, List.set_cons_zero, List.set_cons_succ]
    refine wpAnyH_take (i := 13) (oi := { dst := some 53, op := Op.load 3 (Operand.tmp 52), type := 3, pos := "law.go:35", after := #[{ on := 12, ground := Ground.data }, { on := 8, ground := Ground.guard }], guard := some (8, true) }) (v := ?v79) rfl (by kernel_rfl) (by kernel_rfl) (by kernel_rfl) (fun _ _ _ h => h) (Or.inl ⟨by rfl, ?hy79⟩) hHeld ?rest79
    case hy79 => (intro w' hSw; (try dsimp only at hSw); go_simp; (try with_reducible rfl))
    try simp only [Act.put, List.setIfInBounds_toArray, List.set_cons_zero, List.set_cons_succ]
    refine wpAnyH_take (i := 14) (oi := { dst := some 54, op := Op.binOp BinOp.geq 3 (Operand.tmp 53) (Operand.const (Value.int IntKind.i64 1)) 3, type := 4, pos := "law.go:35", after := #[{ on := 13, ground := Ground.data }, { on := 8, ground := Ground.guard }], guard := some (8, true) }) (v := ?v80) rfl (by kernel_rfl) (by kernel_rfl) (by kernel_rfl) (fun _ _ _ h => h) (Or.inl ⟨by rfl, ?hy80⟩) hHeld ?rest80
    case hy80 => (intro w' hSw; (try dsimp only at hSw); go_simp; (try with_reducible rfl))
    try simp only [Act.put, List.setIfInBounds_toArray, List.set_cons_zero, List.set_cons_succ]
    refine wpAnyH_ready (rs := [10]) (by kernel_rfl) (by simp) (AllReadyH.cons (o := { dst := some 50, op := Op.call { callee := Callee.value (Operand.func 12), args := #[Operand.tmp 49], argTypes := #[32] }, type := 29, pos := "law.go:35", after := #[{ on := 9, ground := Ground.data }, { on := 8, ground := Ground.chain }, { on := 8, ground := Ground.guard }], guard := some (8, true) }) rfl (fun K hK => ?_) AllReadyH.nil)
    go_simp
    (with_reducible refine (HC.out _).mono ?_)
    rintro e t2 ⟨rfl, h2⟩
    have tb2 : Below W6.heap.size W6 t2 := tb1.trans (h2.mono tb1.size)
    have tg2 := GW.out.below tb2 GW.out.lt
    have tv2 := VW.out.below tb2 VW.out.lt
    have ts2 := SW.out.below tb2 SW.out.lt
    go_wp2_with fail
    refine hK.out _ _ (ten tg2 tv2 ts2) (fun hHeld' => ?_)
    clear hK K hHeld
    have hHeld := hHeld'
    clear hHeld'
    try simp only [Act.put, List.setIfInBounds_toArray, List.set_cons_zero, List.set_cons_succ]
    refine wpAnyH_take (i := 11) (oi := { dst := some 51, op := Op.binOp BinOp.eql 29 (Operand.tmp 50) (Operand.const (Value.int IntKind.i64 0)) 29, type := 4, pos := "law.go:35", after := #[{ on := 10, ground := Ground.data }, { on := 8, ground := Ground.guard }], guard := some (8, true) }) (v := ?v81) rfl (by kernel_rfl) (by kernel_rfl) (by kernel_rfl) (fun _ _ _ h => h) (Or.inl ⟨by rfl, ?hy81⟩) hHeld ?rest81
    case hy81 => (intro w' hSw; (try dsimp only at hSw); go_simp; (try with_reducible rfl))
    try simp only [Act.put, List.setIfInBounds_toArray, List.set_cons_zero, List.set_cons_succ]
    refine wpAnyH_take (i := 15) (oi := { dst := some 55, op := Op.move (Operand.tmp 54), type := 4, pos := "law.go:35", after := #[{ on := 14, ground := Ground.data }, { on := 10, ground := Ground.chain }, { on := 8, ground := Ground.guard }], guard := some (8, true) }) (v := ?v82) rfl (by kernel_rfl) (by kernel_rfl) (by kernel_rfl) (fun _ _ _ h => h) (Or.inl ⟨by rfl, ?hy82⟩) hHeld ?rest82
    case hy82 => (intro w' hSw; (try dsimp only at hSw); go_simp; (try with_reducible rfl))
    try simp only [Act.put, List.setIfInBounds_toArray, List.set_cons_zero, List.set_cons_succ]
    refine wpAnyH_take (i := 16) (oi := { dst := some 56, op := Op.fieldAddr 23 (Operand.tmp 2) 0, type := 0, pos := "law.go:35", after := #[{ on := 15, ground := Ground.guard }], guard := some (15, true) }) (v := undef) rfl (by kernel_rfl) (by kernel_rfl) (by kernel_rfl) (fun _ _ _ h => h) (Or.inr ⟨by rfl, rfl⟩) hHeld ?_
    try simp only [Act.put, List.setIfInBounds_toArray, List.set_cons_zero, List.set_cons_succ]
    refine wpAnyH_take (i := 17) (oi := { dst := some 57, op := Op.load 3 (Operand.tmp 56), type := 3, pos := "law.go:35", after := #[{ on := 16, ground := Ground.data }, { on := 15, ground := Ground.guard }], guard := some (15, true) }) (v := undef) rfl (by kernel_rfl) (by kernel_rfl) (by kernel_rfl) (fun _ _ _ h => h) (Or.inr ⟨by rfl, rfl⟩) hHeld ?_
    try simp only [Act.put, List.setIfInBounds_toArray, List.set_cons_zero, List.set_cons_succ]
    refine wpAnyH_take (i := 18) (oi := { dst := some 58, op := Op.binOp BinOp.leq 3 (Operand.tmp 57) (Operand.const (Value.int IntKind.i64 10)) 3, type := 4, pos := "law.go:35", after := #[{ on := 17, ground := Ground.data }, { on := 15, ground := Ground.guard }], guard := some (15, true) }) (v := undef) rfl (by kernel_rfl) (by kernel_rfl) (by kernel_rfl) (fun _ _ _ h => h) (Or.inr ⟨by rfl, rfl⟩) hHeld ?_
    try simp only [Act.put, List.setIfInBounds_toArray, List.set_cons_zero, List.set_cons_succ]
    refine wpAnyH_take (i := 19) (oi := { dst := some 59, op := Op.pick (Operand.tmp 55) (Operand.tmp 58) (Operand.const (Value.bool false)), type := 4, pos := "law.go:35", after := #[{ on := 15, ground := Ground.data }, { on := 18, ground := Ground.data }, { on := 8, ground := Ground.guard }], guard := some (8, true) }) (v := ?v83) rfl (by kernel_rfl) (by kernel_rfl) (by kernel_rfl) (fun _ _ _ h => h) (Or.inl ⟨by rfl, ?hy83⟩) hHeld ?rest83
    case hy83 => (intro w' hSw; (try dsimp only at hSw); go_simp; (try with_reducible rfl))
    try simp only [Act.put, List.setIfInBounds_toArray, List.set_cons_zero, List.set_cons_succ]
    refine wpAnyH_take (i := 20) (oi := { dst := some 60, op := Op.binOp BinOp.eql 4 (Operand.tmp 51) (Operand.tmp 59) 4, type := 4, pos := "law.go:35", after := #[{ on := 11, ground := Ground.data }, { on := 19, ground := Ground.data }, { on := 8, ground := Ground.guard }], guard := some (8, true) }) (v := ?v84) rfl (by kernel_rfl) (by kernel_rfl) (by kernel_rfl) (fun _ _ _ h => h) (Or.inl ⟨by rfl, ?hy84⟩) hHeld ?rest84
    case hy84 => (intro w' hSw; (try dsimp only at hSw); go_simp; (try with_reducible rfl))
    try simp only [Act.put, List.setIfInBounds_toArray, List.set_cons_zero, List.set_cons_succ]
    refine wpAnyH_take (i := 21) (oi := { dst := some 61, op := Op.pick (Operand.tmp 48) (Operand.tmp 60) (Operand.const (Value.bool false)), type := 4, pos := "law.go:35", after := #[{ on := 8, ground := Ground.data }, { on := 20, ground := Ground.data }], guard := none }) (v := ?v85) rfl (by kernel_rfl) (by kernel_rfl) (by kernel_rfl) (fun _ _ _ h => h) (Or.inl ⟨by rfl, ?hy85⟩) hHeld ?rest85
    case hy85 => (intro w' hSw; (try dsimp only at hSw); go_simp; (try with_reducible rfl))
    try simp only [Act.put, List.setIfInBounds_toArray, List.set_cons_zero, List.set_cons_succ]
    refine wpAnyH_take (i := 22) (oi := { dst := some 62, op := Op.move (Operand.tmp 61), type := 4, pos := "law.go:35", after := #[{ on := 21, ground := Ground.data }, { on := 15, ground := Ground.chain }], guard := none }) (v := ?v86) rfl (by kernel_rfl) (by kernel_rfl) (by kernel_rfl) (fun _ _ _ h => h) (Or.inl ⟨by rfl, ?hy86⟩) hHeld ?rest86
    case hy86 => (intro w' hSw; (try dsimp only at hSw); go_simp; (try with_reducible rfl))
    try simp only [Act.put, List.setIfInBounds_toArray, List.set_cons_zero, List.set_cons_succ]
    refine wpAnyH_take (i := 23) (oi := { dst := some 63, op := Op.load 33 (Operand.tmp 9), type := 33, pos := "law.go:35", after := #[{ on := 22, ground := Ground.guard }], guard := some (22, true) }) (v := ?v87) rfl (by kernel_rfl) (by kernel_rfl) (by kernel_rfl) (fun _ _ _ h => h) (Or.inl ⟨by rfl, ?hy87⟩) hHeld ?rest87
    case hy87 => (intro w' hSw; (try dsimp only at hSw); go_simp; (try with_reducible rfl))
    try simp only [Act.put, List.setIfInBounds_toArray, List.set_cons_zero, List.set_cons_succ]
    refine wpAnyH_take (i := 24) (oi := { dst := some 64, op := Op.load 23 (Operand.tmp 2), type := 23, pos := "law.go:35", after := #[{ on := 22, ground := Ground.guard }], guard := some (22, true) }) (v := ?v88) rfl (by kernel_rfl) (by kernel_rfl) (by kernel_rfl) (fun _ _ _ h => h) (Or.inl ⟨by rfl, ?hy88⟩) hHeld ?rest88
    case hy88 => (intro w' hSw; (try dsimp only at hSw); go_simp; (try with_reducible rfl))
    try simp only [Act.put, List.setIfInBounds_toArray, List.set_cons_zero, List.set_cons_succ]
    refine wpAnyH_take (i := 25) (oi := { dst := some 65, op := Op.load 27 (Operand.tmp 3), type := 27, pos := "law.go:35", after := #[{ on := 22, ground := Ground.guard }], guard := some (22, true) }) (v := ?v89) rfl (by kernel_rfl) (by kernel_rfl) (by kernel_rfl) (fun _ _ _ h => h) (Or.inl ⟨by rfl, ?hy89⟩) hHeld ?rest89
    case hy89 => (intro w' hSw; (try dsimp only at hSw); go_simp; (try with_reducible rfl))
    try simp only [Act.put, List.setIfInBounds_toArray, List.set_cons_zero, List.set_cons_succ]
    refine wpAnyH_ready (rs := [26]) (by kernel_rfl) (by simp) (AllReadyH.cons (o := { dst := some 66, op := Op.call { callee := Callee.value (Operand.func 14), args := #[Operand.tmp 64, Operand.tmp 65], argTypes := #[23, 27] }, type := 27, pos := "law.go:35", after := #[{ on := 24, ground := Ground.data }, { on := 25, ground := Ground.data }, { on := 22, ground := Ground.chain }, { on := 22, ground := Ground.guard }], guard := some (22, true) }) rfl (fun K hK => ?_) AllReadyH.nil)
    go_simp
    (with_reducible refine (HRb.out _ (BW.out.trans (tb2.mono BW.out.size))).mono ?_)
    rintro e t3 ⟨A7, n7, c7, rfl, y7, _, h3⟩
    have tb3 : Below W6.heap.size W6 t3 := tb2.trans (h3.mono tb2.size)
    have tg3 := GW.out.below tb3 GW.out.lt
    have tv3 := VW.out.below tb3 VW.out.lt
    have ts3 := SW.out.below tb3 SW.out.lt
    go_wp2_with fail
    refine hK.out _ _ (ten tg3 tv3 ts3) (fun hHeld' => ?_)
    clear hK K hHeld
    have hHeld := hHeld'
    clear hHeld'
    try simp only [Act.put, List.setIfInBounds_toArray, List.set_cons_zero, List.set_cons_succ]
    refine wpAnyH_ready (rs := [27]) (by kernel_rfl) (by simp) (AllReadyH.cons (o := { dst := some 67, op := Op.call { callee := Callee.value (Operand.func 13), args := #[Operand.tmp 63, Operand.tmp 66], argTypes := #[33, 27] }, type := 4, pos := "law.go:35", after := #[{ on := 23, ground := Ground.data }, { on := 26, ground := Ground.data }, { on := 26, ground := Ground.chain }, { on := 22, ground := Ground.guard }], guard := some (22, true) }) rfl (fun K hK => ?_) AllReadyH.nil)
    go_simp
    (with_reducible refine (same_yes _ _ _ _ _ _ _ _ _ LL _ _ ((KY.out _ tb3).2.2.more tb3.size) y7 (Nat.le_refl _)).mono ?_)
    rintro e t4 ⟨rfl, h4⟩
    have tb4 : Below W6.heap.size W6 t4 := tb3.trans (h4.mono tb3.size)
    have tg4 := GW.out.below tb4 GW.out.lt
    have tv4 := VW.out.below tb4 VW.out.lt
    have ts4 := SW.out.below tb4 SW.out.lt
    go_wp2_with fail
    refine hK.out _ _ (ten tg4 tv4 ts4) (fun hHeld' => ?_)
    clear hK K hHeld
    have hHeld := hHeld'
    clear hHeld'
    try simp only [Act.put, List.setIfInBounds_toArray, List.set_cons_zero, List.set_cons_succ]
    refine wpAnyH_take (i := 28) (oi := { dst := some 68, op := Op.pick (Operand.tmp 62) (Operand.tmp 67) (Operand.const (Value.bool false)), type := 4, pos := "law.go:35", after := #[{ on := 22, ground := Ground.data }, { on := 27, ground := Ground.data }], guard := none }) (v := ?v90) rfl (by kernel_rfl) (by kernel_rfl) (by kernel_rfl) (fun _ _ _ h => h) (Or.inl ⟨by rfl, ?hy90⟩) hHeld ?rest90
    case hy90 => (intro w' hSw; (try dsimp only at hSw); go_simp; (try with_reducible rfl))
    try simp only [Act.put, List.setIfInBounds_toArray, List.set_cons_zero, List.set_cons_succ]
    refine wpAnyH_take (i := 29) (oi := { dst := some 69, op := Op.move (Operand.tmp 68), type := 4, pos := "law.go:35", after := #[{ on := 28, ground := Ground.data }, { on := 27, ground := Ground.chain }], guard := none }) (v := ?v91) rfl (by kernel_rfl) (by kernel_rfl) (by kernel_rfl) (fun _ _ _ h => h) (Or.inl ⟨by rfl, ?hy91⟩) hHeld ?rest91
    case hy91 => (intro w' hSw; (try dsimp only at hSw); go_simp; (try with_reducible rfl))
    try simp only [Act.put, List.setIfInBounds_toArray, List.set_cons_zero, List.set_cons_succ]
    refine wpAnyH_take (i := 30) (oi := { dst := some 70, op := Op.move (Operand.tmp 10), type := 25, pos := "law.go:35", after := #[{ on := 29, ground := Ground.guard }], guard := some (29, true) }) (v := ?v92) rfl (by kernel_rfl) (by kernel_rfl) (by kernel_rfl) (fun _ _ _ h => h) (Or.inl ⟨by rfl, ?hy92⟩) hHeld ?rest92
    case hy92 => (intro w' hSw; (try dsimp only at hSw); go_simp; (try with_reducible rfl))
    try simp only [Act.put, List.setIfInBounds_toArray, List.set_cons_zero, List.set_cons_succ]
    refine wpAnyH_take (i := 31) (oi := { dst := some 71, op := Op.move (Operand.tmp 7), type := 25, pos := "law.go:35", after := #[{ on := 29, ground := Ground.guard }], guard := some (29, true) }) (v := ?v93) rfl (by kernel_rfl) (by kernel_rfl) (by kernel_rfl) (fun _ _ _ h => h) (Or.inl ⟨by rfl, ?hy93⟩) hHeld ?rest93
    case hy93 => (intro w' hSw; (try dsimp only at hSw); go_simp; (try with_reducible rfl))
    try simp only [Act.put, List.setIfInBounds_toArray, List.set_cons_zero, List.set_cons_succ]
    refine wpAnyH_ready (rs := [32]) (by kernel_rfl) (by simp) (AllReadyH.cons (o := { dst := some 72, op := Op.call { callee := Callee.value (Operand.func 11), args := #[Operand.tmp 70, Operand.tmp 71], argTypes := #[25, 25] }, type := 4, pos := "law.go:35", after := #[{ on := 30, ground := Ground.data }, { on := 31, ground := Ground.data }, { on := 29, ground := Ground.chain }, { on := 29, ground := Ground.guard }], guard := some (29, true) }) rfl (fun K hK => ?_) AllReadyH.nil)
    go_simp
    (with_reducible refine (rsame_any A6 A3 _ _ _ _ W6.heap.size X X _ (KY.out _ tb4).2.1 (KY.out _ tb4).1.2).mono ?_)
    rintro e t5 ⟨rfl, h5⟩
    rw [show sameB X X = true from by simp [sameB]]
    have tb5 : Below W6.heap.size W6 t5 := tb4.trans (h5.below _)
    have tg5 := GW.out.below tb5 GW.out.lt
    have tv5 := VW.out.below tb5 VW.out.lt
    have ts5 := SW.out.below tb5 SW.out.lt
    go_wp2_with fail
    refine hK.out _ _ (ten tg5 tv5 ts5) (fun hHeld' => ?_)
    clear hK K hHeld
    have hHeld := hHeld'
    clear hHeld'
    try simp only [Act.put, List.setIfInBounds_toArray, List.set_cons_zero, List.set_cons_succ]
    refine wpAnyH_take (i := 33) (oi := { dst := some 73, op := Op.pick (Operand.tmp 69) (Operand.tmp 72) (Operand.const (Value.bool false)), type := 4, pos := "law.go:35", after := #[{ on := 29, ground := Ground.data }, { on := 32, ground := Ground.data }], guard := none }) (v := ?v94) rfl (by kernel_rfl) (by kernel_rfl) (by kernel_rfl) (fun _ _ _ h => h) (Or.inl ⟨by rfl, ?hy94⟩) hHeld ?rest94
    case hy94 => (intro w' hSw; (try dsimp only at hSw); go_simp; (try with_reducible rfl))
    try simp only [Act.put, List.setIfInBounds_toArray, List.set_cons_zero, List.set_cons_succ]
    refine wpAnyH_take (i := 34) (oi := { dst := some 74, op := Op.move (Operand.tmp 73), type := 4, pos := "law.go:35", after := #[{ on := 33, ground := Ground.data }, { on := 32, ground := Ground.chain }], guard := none }) (v := ?v95) rfl (by kernel_rfl) (by kernel_rfl) (by kernel_rfl) (fun _ _ _ h => h) (Or.inl ⟨by rfl, ?hy95⟩) hHeld ?rest95
    case hy95 => (intro w' hSw; (try dsimp only at hSw); go_simp; (try with_reducible rfl))
    try simp only [Act.put, List.setIfInBounds_toArray, List.set_cons_zero, List.set_cons_succ]
    refine wpAnyH_take (i := 35) (oi := { dst := some 75, op := Op.move (Operand.tmp 11), type := 29, pos := "law.go:35", after := #[{ on := 34, ground := Ground.guard }], guard := some (34, true) }) (v := ?v96) rfl (by kernel_rfl) (by kernel_rfl) (by kernel_rfl) (fun _ _ _ h => h) (Or.inl ⟨by rfl, ?hy96⟩) hHeld ?rest96
    case hy96 => (intro w' hSw; (try dsimp only at hSw); go_simp; (try with_reducible rfl))
    try simp only [Act.put, List.setIfInBounds_toArray, List.set_cons_zero, List.set_cons_succ]
    refine wpAnyH_take (i := 36) (oi := { dst := some 76, op := Op.move (Operand.tmp 8), type := 3, pos := "law.go:35", after := #[{ on := 34, ground := Ground.guard }], guard := some (34, true) }) (v := ?v97) rfl (by kernel_rfl) (by kernel_rfl) (by kernel_rfl) (fun _ _ _ h => h) (Or.inl ⟨by rfl, ?hy97⟩) hHeld ?rest97
    case hy97 => (intro w' hSw; (try dsimp only at hSw); go_simp; (try with_reducible rfl))
    try simp only [Act.put, List.setIfInBounds_toArray, List.set_cons_zero, List.set_cons_succ]
    refine wpAnyH_take (i := 37) (oi := { dst := some 77, op := Op.binOp BinOp.eql 3 (Operand.tmp 75) (Operand.tmp 76) 3, type := 4, pos := "law.go:35", after := #[{ on := 35, ground := Ground.data }, { on := 36, ground := Ground.data }, { on := 34, ground := Ground.guard }], guard := some (34, true) }) (v := ?v98) rfl (by kernel_rfl) (by kernel_rfl) (by kernel_rfl) (fun _ _ _ h => h) (Or.inl ⟨by rfl, ?hy98⟩) hHeld ?rest98
    case hy98 => (intro w' hSw; (try dsimp only at hSw); go_simp; (try with_reducible rfl))
    try simp only [Act.put, List.setIfInBounds_toArray, List.set_cons_zero, List.set_cons_succ]
    refine wpAnyH_take (i := 38) (oi := { dst := some 78, op := Op.pick (Operand.tmp 74) (Operand.tmp 77) (Operand.const (Value.bool false)), type := 4, pos := "law.go:35", after := #[{ on := 34, ground := Ground.data }, { on := 37, ground := Ground.data }], guard := none }) (v := ?v99) rfl (by kernel_rfl) (by kernel_rfl) (by kernel_rfl) (fun _ _ _ h => h) (Or.inl ⟨by rfl, ?hy99⟩) hHeld ?rest99
    case hy99 => (intro w' hSw; (try dsimp only at hSw); go_simp; (try with_reducible rfl))
    try simp only [Act.put, List.setIfInBounds_toArray, List.set_cons_zero, List.set_cons_succ]
    refine wpAnyH_take (i := 39) (oi := { dst := some 79, op := Op.move (Operand.tmp 78), type := 4, pos := "law.go:35", after := #[{ on := 38, ground := Ground.data }, { on := 34, ground := Ground.chain }], guard := none }) (v := ?v100) rfl (by kernel_rfl) (by kernel_rfl) (by kernel_rfl) (fun _ _ _ h => h) (Or.inl ⟨by rfl, ?hy100⟩) hHeld ?rest100
    case hy100 => (intro w' hSw; (try dsimp only at hSw); go_simp; (try with_reducible rfl))
    try simp only [Act.put, List.setIfInBounds_toArray, List.set_cons_zero, List.set_cons_succ]
    refine wpAnyH_ready (rs := [40]) (by kernel_rfl) (by simp) (AllReadyH.cons (o := { dst := some 80, op := Op.call { callee := Callee.value (Operand.func 6), args := #[], argTypes := #[] }, type := 4, pos := "law.go:35", after := #[{ on := 39, ground := Ground.chain }, { on := 39, ground := Ground.guard }], guard := some (39, true) }) rfl (fun K hK => ?_) AllReadyH.nil)
    go_simp
    (with_reducible refine (alive_any _ (HT.out _ (BW.out.trans (tb5.mono BW.out.size)))).mono ?_)
    rintro e t6 ⟨rfl, h6⟩
    have tb6 : Below W6.heap.size W6 t6 := tb5.trans (h6.mono tb5.size)
    have tg6 := GW.out.below tb6 GW.out.lt
    have tv6 := VW.out.below tb6 VW.out.lt
    have ts6 := SW.out.below tb6 SW.out.lt
    go_wp2_with fail
    refine hK.out _ _ (ten tg6 tv6 ts6) (fun hHeld' => ?_)
    clear hK K hHeld
    have hHeld := hHeld'
    clear hHeld'
    try simp only [Act.put, List.setIfInBounds_toArray, List.set_cons_zero, List.set_cons_succ]
    refine wpAnyH_take (i := 41) (oi := { dst := some 81, op := Op.pick (Operand.tmp 79) (Operand.tmp 80) (Operand.const (Value.bool false)), type := 4, pos := "law.go:35", after := #[{ on := 39, ground := Ground.data }, { on := 40, ground := Ground.data }], guard := none }) (v := ?v101) rfl (by kernel_rfl) (by kernel_rfl) (by kernel_rfl) (fun _ _ _ h => h) (Or.inl ⟨by rfl, ?hy101⟩) hHeld ?rest101
    case hy101 => (intro w' hSw; (try dsimp only at hSw); go_simp; (try with_reducible rfl))
    try simp only [Act.put, List.setIfInBounds_toArray, List.set_cons_zero, List.set_cons_succ]
    refine wpAnyH_take (i := 42) (oi := { dst := some 4, op := Op.assign (Operand.tmp 81), type := 4, pos := "law.go:35", after := #[{ on := 41, ground := Ground.data }, { on := 40, ground := Ground.chain }, { on := 0, ground := Ground.phase }, { on := 1, ground := Ground.phase }, { on := 2, ground := Ground.phase }, { on := 3, ground := Ground.phase }, { on := 4, ground := Ground.phase }, { on := 5, ground := Ground.phase }, { on := 6, ground := Ground.phase }, { on := 7, ground := Ground.phase }, { on := 8, ground := Ground.phase }, { on := 9, ground := Ground.phase }, { on := 10, ground := Ground.phase }, { on := 11, ground := Ground.phase }, { on := 12, ground := Ground.phase }, { on := 13, ground := Ground.phase }, { on := 14, ground := Ground.phase }, { on := 15, ground := Ground.phase }, { on := 16, ground := Ground.phase }, { on := 17, ground := Ground.phase }, { on := 18, ground := Ground.phase }, { on := 19, ground := Ground.phase }, { on := 20, ground := Ground.phase }, { on := 21, ground := Ground.phase }, { on := 22, ground := Ground.phase }, { on := 23, ground := Ground.phase }, { on := 24, ground := Ground.phase }, { on := 25, ground := Ground.phase }, { on := 26, ground := Ground.phase }, { on := 27, ground := Ground.phase }, { on := 28, ground := Ground.phase }, { on := 29, ground := Ground.phase }, { on := 30, ground := Ground.phase }, { on := 31, ground := Ground.phase }, { on := 32, ground := Ground.phase }, { on := 33, ground := Ground.phase }, { on := 34, ground := Ground.phase }, { on := 35, ground := Ground.phase }, { on := 36, ground := Ground.phase }, { on := 37, ground := Ground.phase }, { on := 38, ground := Ground.phase }, { on := 39, ground := Ground.phase }, { on := 40, ground := Ground.phase }, { on := 41, ground := Ground.phase }], guard := none }) (v := ?v102) rfl (by kernel_rfl) (by kernel_rfl) (by kernel_rfl) (fun _ _ _ h => h) (Or.inl ⟨by rfl, ?hy102⟩) hHeld ?rest102
    case hy102 => (intro w' hSw; (try dsimp only at hSw); go_simp; (try with_reducible rfl))
    try simp only [Act.put, List.setIfInBounds_toArray, List.set_cons_zero, List.set_cons_succ]
    refine wpAnyH_done (by kernel_rfl) ?_ _
    go_wp2
    go_ret
    exact ⟨by simp, BW.out.trans (tb6.mono BW.out.size)⟩
end Go.Proofs.YtknkpmkpcfiefaaDoor.fieldPuts
