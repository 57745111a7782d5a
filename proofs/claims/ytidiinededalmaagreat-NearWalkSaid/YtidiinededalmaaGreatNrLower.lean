/-
  near.Lower: the last pair that stands ahead of a key.
-/
import Derived.Test.YtidiinededalmaaGreatNrCeil
namespace Go.Proofs.YtidiinededalmaaGreat
open Go.RowKit Go.Shelf
attribute [local go_sem] Oper.semAt_some

def endL_ (t : Option (Nn × Fo)) (l : List UInt8) : Bool :=
  match t with
  | none => false
  | some (x, _) => decide (cmpL x.part l < 0)
/-- What is left where the last forks have nothing to their lesser side. -/
theorem dn_left {gs : List (Fk × Nat)} {k : Nat} (h : ∀ j p, j + k ≥ gs.length → gs[j]? = some p → p.1.dn = []) {j : Nat} (hj : j + k = gs.length) : ((gs.map Prod.fst).map Fk.dn).flatten = (((gs.take j).map Prod.fst).map Fk.dn).flatten := by
  conv => lhs; rw [← List.take_append_drop j gs]
  rw [List.map_append, List.map_append, List.flatten_append]
  have : (((gs.drop j).map Prod.fst).map Fk.dn).flatten = [] := by
    rw [List.flatten_eq_nil_iff]
    intro l hl
    obtain ⟨f, hf, rfl⟩ := List.mem_map.1 hl
    obtain ⟨p, hp, rfl⟩ := List.mem_map.1 hf
    obtain ⟨i, hi⟩ := List.mem_iff_getElem?.1 hp
    rw [List.getElem?_drop] at hi
    exact h (j + i) p (by omega) hi
  rw [this, List.append_nil]
theorem dn_here {gs : List (Fk × Nat)} {j : Nat} {p : Fk × Nat} (hp : gs[j]? = some p) : (((gs.take (j + 1)).map Prod.fst).map Fk.dn).flatten = (((gs.take j).map Prod.fst).map Fk.dn).flatten ++ p.1.dn := by
  rw [List.take_add_one, hp]
  simp

set_option maxRecDepth 100000 in
set_option maxHeartbeats 4000000 in
theorem nlower_any (t : Option (Nn × Fo)) (p A : Option Addr) (n c : Nat) (key : List UInt8) (w : World) (ht : OTre w (· < w.heap.size) t p) (hwf : owf t) (hf : ofull t) (hM : ∀ q ∈ olist t, q.1.length ≤ 60000) (hk : Byt w w.heap.size A n key) (hnc : n ≤ c) (hn : n ≤ 60000) :
    Calls Tryz.prog 19 #[.pointer p, .slice A n c] w (NrPost (fun _ => False) w (ltL (olist t) key).getLast?) := by
  obtain ⟨o, ho⟩ : ∃ o, (ltL (olist t) key).getLast? = o := ⟨_, rfl⟩
  rw [ho]
  obtain ⟨W, hW⟩ : ∃ W, (w.alloc (.cells #[.slice none 0 0, .int .u64 0] 31)).alloc (.cells #[.bool false] 4) = W := ⟨_, rfl⟩
  have hb : Below w.heap.size w W := by rw [← hW]; exact ((Below.refl _ _).alloc (Nat.le_refl _) _).alloc (by simp) _
  have hs : W.heap.size = w.heap.size + 2 := by rw [← hW]; simp
  have hj0 : Blk W w.heap.size #[.slice none 0 0, .int .u64 0] := by rw [← hW]; exact (Blk.new w _ _).alloc _
  have hj1 : Blk W (w.heap.size + 1) #[.bool false] := by
    rw [← hW]
    have := Blk.new (w.alloc (.cells #[.slice none 0 0, .int .u64 0] 31)) 4 #[.bool false]
    rwa [World.size_alloc] at this
  have HAL := Lib.hid (nalong_any t p A n c key W ((otre_on ht hb).mono (fun i q => by omega)) hwf hf ((hk.below hb).more (by omega)) hnc hn)
  obtain ⟨L, hL⟩ : ∃ L, olist t = L := ⟨_, rfl⟩
  rw [hL] at ho hM HAL
  have HO := Lib.hid ho
  have HW := Lib.hid hW
  have HBW := Lib.hid (And.intro hb (And.intro hs (And.intro hj0 hj1)))
  have HM := Lib.hid hM
  have HKY := Lib.hid (fun (V : World) (hV : Below W.heap.size W V) => show Byt V W.heap.size A n key from ((hk.below hb).more (show w.heap.size ≤ W.heap.size by omega)).below hV)
  have HLN := Lib.hid (And.intro hk.1 (And.intro hnc hn))
  clear ht hwf hf hM hk hnc hn ho hL hW hb hs hj0 hj1
  obtain ⟨nd, hn1⟩ : ∃ n : Nat, 1 ≤ n := ⟨1, Nat.le_refl _⟩
  have HN1 := Lib.hid hn1
  clear hn1
  refine (callsIn_wide (n := nd)).1 ?_
  refine callsIn_of_wp_marks Tryz.func19 rfl trivial ?_
  simp only [Tryz.ntmps19, List.size_toArray, List.length_cons, List.length_nil, Nat.reduceAdd, Nat.reduceSub, Array.replicate_succ, Array.replicate_zero, List.push_toArray, List.append_toArray, List.nil_append, List.cons_append]
  refine wpIn_wide.2 ?_
  go_wp2_with fail
  rw [HW.out]
  (with_reducible refine HAL.out.mono ?_)
  rintro e w1 ⟨gs, t1, q1, F, c1, a, rfl, hc1, hmg, g1, g2, g3, g4, g5, g6, b1⟩
  have G1 := Lib.hid g1
  have G2 := Lib.hid g2
  have G3 := Lib.hid g3
  have G4 := Lib.hid g4
  have G5 := Lib.hid (And.intro g5 (And.intro hc1 hmg))
  have G6 := Lib.hid g6
  have B1 := Lib.hid b1
  obtain ⟨bb, hbb⟩ : ∃ b, endL_ t1 (key.drop a) = b := ⟨_, rfl⟩
  have HBB := Lib.hid hbb
  clear HAL hc1 hmg g1 g2 g3 g4 g5 g6 b1 hbb
  go_upto_region 2 with fail
  go_cut [32] from 22 to 32 (fun v32 wc => v32 = .bool bb ∧ Hid (Below w1.heap.size w1 wc))
  case first =>
    cases t1 with
    | none =>
      obtain rfl : q1 = none := G4.out
      obtain rfl : false = bb := HBB.out
      go_quiet (fail)
      go_wp2_with fail
      go_meet
      exact ⟨rfl, Lib.hid ((Still.drewN _ _).below _)⟩
    | some xk =>
      obtain ⟨x, k⟩ := xk
      obtain ⟨g, rfl, T⟩ := G4.out
      obtain ⟨ha, hend⟩ := G2.out x k rfl
      have hla : a ≤ n := by rw [← HLN.out.1]; exact ha
      have HPT := Lib.hid (fun (V : World) (hV : Below w1.heap.size w1 V) => show Calls Tryz.prog 34 #[.pointer (some ⟨g, 0, none⟩)] V (fun e w' => ∃ A2 c2, e = .returned (.slice A2 x.part.length c2) ∧ Byt w' w'.heap.size A2 x.part.length x.part ∧ Below w1.heap.size w1 w') from by
        obtain ⟨be, A1, ek, hN1, _⟩ := (T.below (fun _ q => q) (hV.mono B1.out.size)).nod
        exact (npart_any hN1).mono fun e w' ⟨A2, c2, h1, h2, _, h4⟩ => ⟨A2, c2, h1, h2, hV.trans (h4.mono hV.size)⟩)
      obtain ⟨cv, hcv⟩ : ∃ z, cmpL x.part (key.drop a) = z := ⟨_, rfl⟩
      obtain ⟨m, hm⟩ : ∃ m, x.part.length = m := ⟨_, rfl⟩
      have HCM := Lib.hid (fun (U : World) (A2 : Option Addr) (c2 : Nat) (y : Byt U U.heap.size A2 m x.part) (hU : Below w1.heap.size w1 U) => show Calls Tryz.prog 33 #[.slice A2 m c2, .slice (cutA A a c 1) (n - a) (c - a)] U (fun e w' => e = .returned (.int .i64 cv) ∧ Still U w') from by
        have h1 := (HKY.out U (B1.out.trans (hU.mono B1.out.size))).cut_ a n hla (Nat.le_refl _) HLN.out.2.1
        rw [List.take_of_length_le (by rw [HLN.out.1]; exact Nat.le_refl _)] at h1
        rw [← hcv]
        exact cmp_any A2 (cutA A a c 1) m (n - a) c2 (c - a) U.heap.size x.part (key.drop a) U y (h1.more (Nat.le_trans B1.out.size hU.size)))
      rw [hm] at HPT
      have hsl := fun V => slc_from (P := Tryz.prog) Tryz.underlying23 size_u8 A n c a hla V
      have HE := Lib.hid (show Value.bool (decide (cv < 0)) = .bool bb from by
        rw [← HBB.out]
        show _ = Value.bool (decide (cmpL x.part (key.drop a) < 0))
        rw [hcv])
      clear T ha hend hla hm hcv
      refine wp_calm ?_
      refine wp_region_held_drew (S := (fun w' => 0 ≤ w'.heap.size)) (by kernel_rfl) (Nat.zero_le _) (fun hHeld => ?_)
      refine wpAnyH_take (i := 0) (oi := { dst := some 22, op := Op.move (Operand.tmp 7), type := 27, pos := "near.go:49", after := #[], guard := none }) (v := ?v1) rfl (by kernel_rfl) (by kernel_rfl) (by kernel_rfl) (fun _ _ _ h => h) (Or.inl ⟨by rfl, ?hy1⟩) hHeld ?rest1
      case hy1 => (intro w' hSw; (try dsimp only at hSw); go_simp; (try with_reducible rfl))
      try simp only [Act.put, List.setIfInBounds_toArray, List.set_cons_zero, List.set_cons_succ]
      refine wpAnyH_take (i := 1) (oi := { dst := some 23, op := Op.binOp BinOp.neq 27 (Operand.tmp 22) (Operand.const (Value.pointer none)) 27, type := 4, pos := "near.go:49", after := #[{ on := 0, ground := Ground.data }], guard := none }) (v := ?v2) rfl (by kernel_rfl) (by kernel_rfl) (by kernel_rfl) (fun _ _ _ h => h) (Or.inl ⟨by rfl, ?hy2⟩) hHeld ?rest2
      case hy2 => (intro w' hSw; (try dsimp only at hSw); go_simp; (try with_reducible rfl))
      try simp only [Act.put, List.setIfInBounds_toArray, List.set_cons_zero, List.set_cons_succ]
      refine wpAnyH_take (i := 2) (oi := { dst := some 24, op := Op.move (Operand.tmp 23), type := 4, pos := "near.go:49", after := #[{ on := 1, ground := Ground.data }], guard := none }) (v := ?v3) rfl (by kernel_rfl) (by kernel_rfl) (by kernel_rfl) (fun _ _ _ h => h) (Or.inl ⟨by rfl, ?hy3⟩) hHeld ?rest3
      case hy3 => (intro w' hSw; (try dsimp only at hSw); go_simp; (try with_reducible rfl))
      try simp only [Act.put, List.setIfInBounds_toArray, List.set_cons_zero, List.set_cons_succ]
      refine wpAnyH_take (i := 3) (oi := { dst := some 25, op := Op.move (Operand.tmp 7), type := 27, pos := "near.go:49", after := #[{ on := 2, ground := Ground.guard }], guard := some (2, true) }) (v := ?v4) rfl (by kernel_rfl) (by kernel_rfl) (by kernel_rfl) (fun _ _ _ h => h) (Or.inl ⟨by rfl, ?hy4⟩) hHeld ?rest4
      case hy4 => (intro w' hSw; (try dsimp only at hSw); go_simp; (try with_reducible rfl))
      try simp only [Act.put, List.setIfInBounds_toArray, List.set_cons_zero, List.set_cons_succ]
      refine wpAnyH_take (i := 5) (oi := { dst := some 27, op := Op.move (Operand.tmp 1), type := 23, pos := "near.go:49", after := #[{ on := 2, ground := Ground.guard }], guard := some (2, true) }) (v := ?v5) rfl (by kernel_rfl) (by kernel_rfl) (by kernel_rfl) (fun _ _ _ h => h) (Or.inl ⟨by rfl, ?hy5⟩) hHeld ?rest5
      case hy5 => (intro w' hSw; (try dsimp only at hSw); go_simp; (try with_reducible rfl))
      try simp only [Act.put, List.setIfInBounds_toArray, List.set_cons_zero, List.set_cons_succ]
      refine wpAnyH_take (i := 6) (oi := { dst := some 28, op := Op.move (Operand.tmp 8), type := 3, pos := "near.go:49", after := #[{ on := 2, ground := Ground.guard }], guard := some (2, true) }) (v := ?v6) rfl (by kernel_rfl) (by kernel_rfl) (by kernel_rfl) (fun _ _ _ h => h) (Or.inl ⟨by rfl, ?hy6⟩) hHeld ?rest6
      case hy6 => (intro w' hSw; (try dsimp only at hSw); go_simp; (try with_reducible rfl))
      try simp only [Act.put, List.setIfInBounds_toArray, List.set_cons_zero, List.set_cons_succ]
      refine wpAnyH_take (i := 7) (oi := { dst := some 29, op := Op.slice 23 (Operand.tmp 27) (some (Operand.tmp 28)) none none, type := 23, pos := "near.go:49", after := #[{ on := 5, ground := Ground.data }, { on := 6, ground := Ground.data }, { on := 2, ground := Ground.guard }], guard := some (2, true) }) (v := ?v7) rfl (by kernel_rfl) (by kernel_rfl) (by kernel_rfl) (fun _ _ _ h => h) (Or.inl ⟨by rfl, ?hy7⟩) hHeld ?rest7
      case hy7 => (intro w' hSw; (try dsimp only at hSw); go_simp; (try with_reducible rfl))
      try simp only [Act.put, List.setIfInBounds_toArray, List.set_cons_zero, List.set_cons_succ]
      refine wpAnyH_ready (rs := [4]) (by kernel_rfl) (by simp) (AllReadyH.cons (o := { dst := some 26, op := Op.call { callee := Callee.value (Operand.func 34), args := #[Operand.tmp 25], argTypes := #[27] }, type := 23, pos := "near.go:49", after := #[{ on := 3, ground := Ground.data }, { on := 2, ground := Ground.chain }, { on := 2, ground := Ground.guard }], guard := some (2, true) }) rfl (fun K hK => ?_) AllReadyH.nil)
      go_simp
      (with_reducible refine (HPT.out _ ((Below.refl w1.heap.size w1).drew)).mono ?_)
      rintro e U2 ⟨A2, c2, rfl, y2, b2⟩
      have Y2 := Lib.hid y2
      have B2 := Lib.hid b2
      clear y2 b2
      go_wp2_with fail
      refine hK.out _ _ (Nat.zero_le _) (fun hHeld' => ?_)
      clear hK K hHeld
      have hHeld := hHeld'
      clear hHeld'
      try simp only [Act.put, List.setIfInBounds_toArray, List.set_cons_zero, List.set_cons_succ]
      refine wpAnyH_ready (rs := [8]) (by kernel_rfl) (by simp) (AllReadyH.cons (o := { dst := some 30, op := Op.call { callee := Callee.value (Operand.func 33), args := #[Operand.tmp 26, Operand.tmp 29], argTypes := #[23, 23] }, type := 3, pos := "near.go:49", after := #[{ on := 4, ground := Ground.data }, { on := 7, ground := Ground.data }, { on := 4, ground := Ground.chain }, { on := 2, ground := Ground.guard }], guard := some (2, true) }) rfl (fun K hK => ?_) AllReadyH.nil)
      go_simp
      (with_reducible refine (HCM.out U2 A2 c2 Y2.out B2.out).mono ?_)
      rintro e U3 ⟨rfl, s3⟩
      have B3 := Lib.hid (B2.out.trans ((s3.below U2.heap.size).mono B2.out.size))
      clear s3
      go_wp2_with fail
      refine hK.out _ _ (Nat.zero_le _) (fun hHeld' => ?_)
      clear hK K hHeld
      have hHeld := hHeld'
      clear hHeld'
      try simp only [Act.put, List.setIfInBounds_toArray, List.set_cons_zero, List.set_cons_succ]
      refine wpAnyH_take (i := 9) (oi := { dst := some 31, op := Op.binOp BinOp.lss 3 (Operand.tmp 30) (Operand.const (Value.int IntKind.i64 0)) 3, type := 4, pos := "near.go:49", after := #[{ on := 8, ground := Ground.data }, { on := 2, ground := Ground.guard }], guard := some (2, true) }) (v := ?v8) rfl (by kernel_rfl) (by kernel_rfl) (by kernel_rfl) (fun _ _ _ h => h) (Or.inl ⟨by rfl, ?hy8⟩) hHeld ?rest8
      case hy8 => (intro w' hSw; (try dsimp only at hSw); go_simp; (try with_reducible rfl))
      try simp only [Act.put, List.setIfInBounds_toArray, List.set_cons_zero, List.set_cons_succ]
      refine wpAnyH_take (i := 10) (oi := { dst := some 32, op := Op.pick (Operand.tmp 24) (Operand.tmp 31) (Operand.const (Value.bool false)), type := 4, pos := "near.go:49", after := #[{ on := 2, ground := Ground.data }, { on := 9, ground := Ground.data }], guard := none }) (v := ?v9) rfl (by kernel_rfl) (by kernel_rfl) (by kernel_rfl) (fun _ _ _ h => h) (Or.inl ⟨by rfl, ?hy9⟩) hHeld ?rest9
      case hy9 => (intro w' hSw; (try dsimp only at hSw); go_simp; (try with_reducible rfl))
      try simp only [Act.put, List.setIfInBounds_toArray, List.set_cons_zero, List.set_cons_succ]
      refine wpAnyH_done (by kernel_rfl) ?_ _
      go_wp2_with fail
      go_meet
      exact ⟨HE.out, Lib.hid B3.out⟩
  case rest =>
    obtain ⟨rfl, HC⟩ := hcut
    obtain ⟨V, hV⟩ : ∃ V, V = wc := ⟨_, rfl⟩
    rw [← hV] at HC ⊢
    clear hV wc
    cases bb with
    | true =>
      have hx : ∃ x k, t1 = some (x, k) ∧ cmpL x.part (key.drop a) < 0 := by
        have h := HBB.out
        rcases t1 with _ | ⟨x, k⟩
        · cases h
        · exact ⟨x, k, rfl, of_decide_eq_true (show decide (cmpL x.part (key.drop a) < 0) = true from h)⟩
      obtain ⟨x, k, rfl, hc⟩ := hx
      obtain ⟨g, rfl, T⟩ := G4.out
      obtain ⟨ha, hend⟩ := G2.out x k rfl
      have hla : a ≤ n := by rw [← HLN.out.1]; exact ha
      have h1 : (olb (some (x, k)) (key.take a)).getLast? = o := by
        have h2 := (end_lt (k := k) (pw := key.take a) hend hc).2
        rw [List.take_append_drop] at h2
        rw [← HO.out, G1.out.lt, show ltL (olb (some (x, k)) (key.take a)) key = tlist x k (key.take a) from h2, last_app (tlist_ne G3.out.1 _)]
        rfl
      have H3 := Lib.hid (ntrim_any A n c a hla HLN.out.2.1 V)
      have hyA : Byt V V.heap.size A a (key.take a) := ((HKY.out V (B1.out.trans (HC.out.mono B1.out.size))).take hla).more (Nat.le_trans B1.out.size HC.out.size)
      have H4 := nlast_any V.heap.size (fun _ => False) (some (x, k)) (some ⟨g, 0, none⟩) A a a (key.take a) V (Nat.le_refl _) ⟨g, rfl, (T.below (fun _ q => q) (HC.out.mono B1.out.size)).mono (fun i q => Nat.lt_of_lt_of_le q (Nat.le_trans B1.out.size HC.out.size))⟩ G3.out (fun q hq => HM.out q (mem_ge G1.out q hq)) (Wy.of_byt hyA) (by have := HLN.out.2.2; omega) (fun _ q => q.elim)
      rw [h1] at H4
      have H4 := Lib.hid H4
      clear T ha hend hla h1 hc hyA
      go_wp2_with fail
      (with_reducible refine H3.out.mono ?_)
      rintro e w4 ⟨rfl, h4⟩
      have h4 := h4.symm
      subst h4
      go_wp2_with fail
      (with_reducible refine H4.out.mono ?_)
      rintro e w5 ⟨A5, c5, rfl, y5, nc5, pb5, k5⟩
      have hb5 : Below V.heap.size V w5 := k5.below (Nat.le_refl _) (fun _ q => q.elim)
      have hw5 : Below W.heap.size W w5 := B1.out.trans ((HC.out.trans (hb5.mono HC.out.size)).mono B1.out.size)
      obtain ⟨q1, q2, q3, q4⟩ := HBW.out
      have j0 := q3.below hw5 (by omega)
      have j1 := q4.below hw5 (by omega)
      have d0 := j0.cell 0
      have d1 := j0.cell 1
      have d2 := j1.cell 0
      have z0 := j0.fz 0
      have z1 := j0.fz 1
      have z2 := j1.fz 0
      obtain ⟨v5, hv5⟩ : ∃ v, oV o = v := ⟨_, rfl⟩
      obtain ⟨n5, hn5⟩ : ∃ v, (oK o).length = v := ⟨_, rfl⟩
      obtain ⟨b5, hb5'⟩ : ∃ v, o.isSome = v := ⟨_, rfl⟩
      have hX := Lib.hid (EndX.made q1 q2 q3 q4 hw5 y5 nc5 (fun i hi => Nat.le_trans (Nat.le_trans B1.out.size HC.out.size) (pb5 i hi)) (Below.refl _ _) v5 hv5 n5 hn5 b5 hb5').1
      rw [hv5, hn5, hb5']
      have HV5 := Lib.hid (And.intro hv5 (And.intro hn5 hb5'))
      clear hb5 hw5 q1 q2 q3 q4 j0 j1 y5 nc5 pb5 k5 hv5 hn5 hb5' H4 H3
      go_wp2_with fail
      obtain ⟨rfl, rfl, rfl⟩ := HV5.out
      exact ⟨_, hX.out.run rfl rfl rfl, hX.out.post⟩
    | false =>
      have hge : ((gs.map Prod.fst).map Fk.dn).flatten.getLast? = o := by
        have h : ltL (olb t1 (key.take a)) key = [] := by
          rcases t1 with _ | ⟨x, k⟩
          · rfl
          · have h := HBB.out
            have hc : ¬ cmpL x.part (key.drop a) < 0 := of_decide_eq_false (show decide (cmpL x.part (key.drop a) < 0) = false from h)
            have h2 := (end_ge (k := k) (pw := key.take a) (G2.out x k rfl).2 hc).2
            rw [List.take_append_drop] at h2
            exact h2
        rw [← HO.out, G1.out.lt, h, List.append_nil]
      have HGE := Lib.hid hge
      have H5 := Lib.hid (nback_any F gs.length c1 V)
      obtain ⟨V2, hV2⟩ : ∃ U, V.alloc (.cells #[.slice F gs.length c1] 53) = U := ⟨_, rfl⟩
      have b2 : Below V.heap.size V V2 := by rw [← hV2]; exact (Below.refl _ _).alloc (Nat.le_refl _) _
      have s2 : V2.heap.size = V.heap.size + 1 := by rw [← hV2]; simp
      have c2 : V2.cell? ⟨V.heap.size, 0, none⟩ = some (.slice F gs.length c1) := by rw [← hV2]; exact (Blk.new V 53 #[.slice F gs.length c1]).cell 0
      have hseq := nback1_seqs (A := A) (gs := gs) c2 (((G5.out.1.below (HC.out.trans (b2.mono HC.out.size)))).more (Nat.le_trans HC.out.size b2.size)) (by
        have := G5.out.2.2
        have := HLN.out
        omega)
      have HV2 := Lib.hid hV2
      have HWV := Lib.hid (show w.heap.size ≤ V2.heap.size from by have := B1.out.size; have := HC.out.size; have := HBW.out.2.1; omega)
      clear hge hV2
      go_wp2_with fail
      (with_reducible refine H5.out.mono ?_)
      rintro e w4 ⟨rfl, h4⟩
      have h4 := h4.symm
      subst h4
      go_wp2_with fail
      rw [HV2.out]
      refine (wpIn_wide (n := nd)).1 ?_
      refine range_back (n₀ := V2.heap.size) HN1.out (gf := 54) (lb := #[.pointer (some ⟨V.heap.size, 0, none⟩)]) rfl (enters_of Tryz.func54 (by kernel_rfl) rfl) (Nat.le_refl _) hseq
        (fun k U => Below V2.heap.size V2 U ∧ ∀ (j : Nat) (q : Fk × Nat), gs.length ≤ j + k → gs[j]? = some q → q.1.dn = [])
        (fun cd U => cd = .ret ∧ ∃ A5 c5, EndX w o A5 c5 U) ?hI ?hIx ⟨Below.refl _ _, fun j q h1 h2 => absurd (List.getElem?_eq_some_iff.1 h2).1 (by omega)⟩
        (fun bx x => { tmps := #[.pointer p, .slice A n c, undef, undef, .pointer (some ⟨w.heap.size, 0, none⟩), .pointer (some ⟨w.heap.size + 1, 0, none⟩), .slice F gs.length c1, .pointer q1, .int .i64 (a : Int), undef, .pointer (some ⟨bx, 0, none⟩), undef, undef, undef, undef, .tuple #[.slice F gs.length c1, .pointer q1, .int .i64 (a : Int)], .pointer p, .slice A n c, .tuple #[.slice F gs.length c1, .pointer q1, .int .i64 (a : Int)], .slice F gs.length c1, .pointer q1, .int .i64 (a : Int), u22, u23, u24, u25, u26, u27, u28, u29, u30, u31, .bool false, undef, undef, undef, undef, undef, undef, undef, .slice F gs.length c1, .func (.func 54) #[] #[.pointer (some ⟨V.heap.size, 0, none⟩)], x.1, .agg x.2, undef, undef, undef, undef, undef, undef, undef, undef, undef, undef, undef, undef, undef, undef, undef, undef, undef, undef, undef, undef, undef, undef, undef, undef, undef, undef, undef, undef, undef, undef], defers := [] }) ?assign ?body ?done ?stop
      case hI =>
        rintro k U U' ⟨i1, i2⟩ hs
        exact ⟨i1.trans hs.below, i2⟩
      case hIx =>
        rintro cd U U' ⟨e, A5, c5, h⟩ hs
        exact ⟨e, A5, c5, h.step hs HWV.out⟩
      case assign =>
        rintro l x U K ⟨k, hx⟩ hK
        obtain ⟨j, q, hj, hq, rfl⟩ := xsB_of hx
        gi_wp2_with fail
        exact hK _ (Blk.new _ _ _) ((Below.refl _ _).alloc (Nat.le_refl _) _) (KeepsOthers.alloc _ _) (by simp)
      case body =>
        rintro l k x bx U ⟨i1, i2⟩ hx hbx hb
        obtain ⟨j, q, hj, hq, rfl⟩ := xsB_of hx
        have hwU : Below w1.heap.size w1 U := (HC.out.trans (b2.mono HC.out.size)).trans (i1.mono (by have := HC.out.size; omega))
        have hWU : Below W.heap.size W U := B1.out.trans (hwU.mono B1.out.size)
        have hfk := (G6.out q (List.mem_of_getElem? hq)).below (hwU.mono B1.out.size)
        have hqm : q.1 ∈ gs.map Prod.fst := List.mem_map.2 ⟨q, List.mem_of_getElem? hq, rfl⟩
        have hup := mem_dn G1.out hqm
        have hhead : q.1.dn ≠ [] → q.1.dn.getLast? = o := fun hne => by
          rw [← HGE.out, dn_left (k := k) (j := j + 1) (fun j' q' h1 h2 => i2 j' q' (by omega) h2) (by omega), dn_here hq, last_app hne]
        have I1 := Lib.hid i1
        have I2 := Lib.hid i2
        have HQ := Lib.hid hq
        have HJ := Lib.hid hj
        obtain ⟨⟨⟨x, kx, wl, on⟩, gq⟩, rfl⟩ : ∃ z, q = z := ⟨_, rfl⟩
        obtain ⟨h1, h2, h3, h4⟩ := hfk
        dsimp only at h1 h2 h3 h4 hup hhead
        have hml : wl.length ≤ 60000 := by have := HLN.out; omega
        have hyw : Byt U U.heap.size A wl.length wl := by
          have h5 := ((HKY.out U hWU).take (show wl.length ≤ n by have := HLN.out.1; omega)).more hWU.size
          rw [← h2] at h5
          exact h5
        obtain ⟨m, hm⟩ : ∃ m, wl.length = m := ⟨_, rfl⟩
        have e0 := hb.cell 0
        have e1 := hb.cell 1
        have e2 := hb.cell 2
        dsimp only at e0 e1 e2
        rw [hm] at e1 hyw hml
        obtain ⟨be, A1, ek, hN, hI⟩ := h1.nod
        have ho8 := on.toNat_lt
        have HNX := nprev_any hN ((on.toNat : Int) - 1) (by omega)
        rw [show (x.nd ek).es = ek from rfl] at HNX
        have hat := hI.prev_at on hN.up
        have HT1 := Lib.hid h1
        have HWU := Lib.hid hWU
        have HH := Lib.hid (And.intro hup hhead)
        have HF := Lib.hid h4
        obtain ⟨oz, hoz⟩ : ∃ z, (on.toNat : Int) = z := ⟨_, rfl⟩
        rw [hoz] at e2 HNX hat
        obtain ⟨ow, how⟩ : ∃ z, oz - 1 = z := ⟨_, rfl⟩
        have ewo : IntKind.i64.wrap (oz - 1) = ow := by rw [IntKind.wrap_i64]; omega
        rw [how] at HNX hat
        dsimp only
        rw [hm, hoz]
        clear hN hI h1 h2 h3 h4 hup hhead hqm hwU hq hj i1 i2 hWU how hoz hb hx ho8
        rcases hk : (kx.lo on).lst with _ | ⟨b, y, j2⟩
        · rw [hk] at hat
          rw [show prevE ek ow = none from hat] at HNX
          have HST := Lib.hid (nstep_none A m m U 40 (.pointer (some ⟨gq, 0, none⟩)) ow (fun xs V => Tryz.call40 xs V) HNX)
          have HDN := Lib.hid (show (Fk.mk x kx wl on).dn = ownL x wl from by show ownL x wl ++ (kx.lo on).list wl = _; rw [Fo.lst_none hk]; exact List.append_nil _)
          have HVL := Lib.hid (fun (V' : World) (hV' : Below U.heap.size U V') => show Calls Tryz.prog 43 #[.pointer (some ⟨gq, 0, none⟩)] V' (fun e w' => e = .returned (.tuple #[.int .u64 x.val, .bool x.has]) ∧ Still V' w') from by
            obtain ⟨be, A1, ek, hn', _⟩ := (HT1.out.below (fun _ q => q) (hV'.mono HWU.out.size)).nod
            exact val_any hn')
          have HYW := Lib.hid hyw
          have HML := Lib.hid hml
          have HBX := Lib.hid (fun (V' : World) (hV' : Below U.heap.size U V') => show V'.cell? ⟨bx, 0, none⟩ = some (.pointer (some ⟨gq, 0, none⟩)) ∧ V'.cell? ⟨bx, 1, none⟩ = some (.slice A m m) from ⟨(hV'.cell (p := ⟨bx, 0, none⟩) (lt_cell e0)).trans e0, (hV'.cell (p := ⟨bx, 1, none⟩) (lt_cell e1)).trans e1⟩)
          obtain ⟨vx, hvx⟩ : ∃ z, x.val = z := ⟨_, rfl⟩
          rw [hvx] at HVL
          have HVX := Lib.hid hvx
          clear hat hk HNX hyw hm hvx
          cases hh : x.has with
          | true =>
            rw [hh] at HVL
            have ho1 : some (wl, vx) = o := by
              have h5 : (Fk.mk x kx wl on).dn = [(wl, vx)] := by rw [HDN.out]; unfold ownL; rw [if_pos hh, HVX.out]
              have h6 := HH.out.2 (by rw [h5]; simp)
              rw [h5] at h6
              exact h6
            subst ho1
            clear hh
            gi_wp2_with fail
            refine ⟨trivial, round_deep (l := l), ?_⟩
            refine (CallsIn.inRound l (callsIn_wide.2 HST.out)).mono ?_
            rintro e U1 ⟨rfl, hs⟩
            have b1' : Below U.heap.size U U1 := hs.below _
            have HO1 := Lib.hid (nown_of (some ⟨gq, 0, none⟩) A m m wl vx true U1 ((HYW.out.below b1').more b1'.size) (by have := HML.out; omega) (some (wl, vx)) rfl (fun V' hV' => HVL.out V' (b1'.trans (hV'.mono b1'.size))))
            have HB1' := Lib.hid b1'
            obtain ⟨e0', e1'⟩ := HBX.out U1 b1'
            clear hs HST b1' e0 e1
            gi_wp2_with fail
            refine ⟨trivial, round_deep (l := l), ?_⟩
            refine (CallsIn.inRound l (callsIn_wide.2 HO1.out)).mono ?_
            rintro e U2 ⟨A5, c5, rfl, y5, nc5, pb5, k5⟩
            dsimp only [oK, oV, Option.isSome]
            have kb2 : Below U.heap.size U U2 := HB1'.out.trans ((k5.below (Nat.le_refl _) (fun _ q => q.elim)).mono HB1'.out.size)
            obtain ⟨U3, hU3⟩ : ∃ U3, U2.alloc (.cells #[.slice A5 wl.length c5, .int .u64 vx] 31) = U3 := ⟨_, rfl⟩
            have kb3 : Below U.heap.size U U3 := by rw [← hU3]; exact kb2.alloc kb2.size _
            have hw5 : Below W.heap.size W U3 := HWU.out.trans (kb3.mono HWU.out.size)
            have y6 : Byt U3 U3.heap.size A5 wl.length wl := by rw [← hU3]; exact (Byt.alloc (B := U2.heap.size) y5 (Nat.le_refl _) _).more (by simp)
            obtain ⟨r1, r2, r3, r4⟩ := HBW.out
            have hXX := EndX.made (o := some (wl, vx)) r1 r2 r3 r4 hw5 y6 nc5 (fun i hi => Nat.le_trans (Nat.le_trans HWU.out.size HB1'.out.size) (pb5 i hi)) (Below.refl _ _) vx rfl wl.length rfl true rfl
            rw [← hU3] at hXX
            have hX := Lib.hid hXX.1
            have hKO := Lib.hid (show KeepsOthers U (U2.alloc (.cells #[.slice A5 wl.length c5, .int .u64 vx] 31)) from by rw [hU3]; exact ⟨kb3.size, fun i ob hi _ => (kb3.block i (Array.getElem?_eq_some_iff.1 hi).1).trans hi⟩)
            have hw6 : Below W.heap.size W U2 := HWU.out.trans (kb2.mono HWU.out.size)
            have j0 := r3.below hw6 (by omega)
            have j1 := r4.below hw6 (by omega)
            have d0 := fun ob : Obj => (j0.alloc ob).cell 0
            have d1 := fun ob : Obj => (j0.alloc ob).cell 1
            have d2 := fun ob : Obj => (j1.alloc ob).cell 0
            have z0 := fun ob : Obj => (j0.alloc ob).fz 0
            have z1 := fun ob : Obj => (j0.alloc ob).fz 1
            have z2 := fun ob : Obj => (j1.alloc ob).fz 0
            clear kb2 kb3 hw5 hw6 y6 r1 r2 r3 r4 hXX hU3 j0 j1 y5 nc5 pb5 k5 HO1 e0' e1'
            gi_wp2
            exact ⟨((hKO.out.trans (KeepsOthers.setCell _ _ _)).trans (KeepsOthers.setCell _ _ _)).trans (KeepsOthers.setCell _ _ _), rfl, A5, c5, hX.out⟩
          | false =>
            rw [hh] at HVL
            have HU := Lib.hid (show (Fk.mk x kx wl on).dn = [] from by rw [HDN.out]; unfold ownL; rw [if_neg (by rw [hh]; decide)])
            clear hh
            gi_wp2_with fail
            refine ⟨trivial, round_deep (l := l), ?_⟩
            refine (CallsIn.inRound l (callsIn_wide.2 HST.out)).mono ?_
            rintro e U1 ⟨rfl, hs⟩
            have b1' : Below U.heap.size U U1 := hs.below _
            have HO1 := Lib.hid (nown_of (some ⟨gq, 0, none⟩) A m m wl vx false U1 ((HYW.out.below b1').more b1'.size) (by have := HML.out; omega) none rfl (fun V' hV' => HVL.out V' (b1'.trans (hV'.mono b1'.size))))
            have HB1' := Lib.hid b1'
            obtain ⟨e0', e1'⟩ := HBX.out U1 b1'
            clear hs HST b1' e0 e1
            gi_wp2_with fail
            refine ⟨trivial, round_deep (l := l), ?_⟩
            refine (CallsIn.inRound l (callsIn_wide.2 HO1.out)).mono ?_
            rintro e U2 ⟨A5, c5, rfl, _, _, _, k5⟩
            dsimp only [oK, oV, Option.isSome, List.length_nil]
            have kb2 : Below U.heap.size U U2 := HB1'.out.trans ((k5.below (Nat.le_refl _) (fun _ q => q.elim)).mono HB1'.out.size)
            have kb3 : Below U.heap.size U (U2.alloc (.cells #[.slice A5 0 c5, .int .u64 0] 31)) := kb2.alloc kb2.size _
            have FIN := Lib.hid (show KeepsOthers U (U2.alloc (.cells #[.slice A5 0 c5, .int .u64 0] 31)) ∧ Below V2.heap.size U (U2.alloc (.cells #[.slice A5 0 c5, .int .u64 0] 31)) ∧ Below V2.heap.size V2 (U2.alloc (.cells #[.slice A5 0 c5, .int .u64 0] 31)) ∧ ∀ (j' : Nat) (q' : Fk × Nat), gs.length ≤ j' + (k + 1) → gs[j']? = some q' → q'.1.dn = [] from
              ⟨⟨kb3.size, fun i ob hi _ => (kb3.block i (Array.getElem?_eq_some_iff.1 hi).1).trans hi⟩, kb3.mono I1.out.size, I1.out.trans (kb3.mono I1.out.size), fun j' q' z1 z2 => by
                by_cases e : gs.length ≤ j' + k
                · exact I2.out j' q' e z2
                · have e2 : j' = j := by have := HJ.out; omega
                  subst e2
                  rw [HQ.out] at z2
                  cases z2
                  exact HU.out⟩)
            clear kb2 kb3 k5 HO1 e0' e1'
            gi_wp2
            exact FIN.out
        · rw [hk] at hat
          obtain ⟨g2, e5, t5⟩ := hat
          rw [e5] at HNX
          have HST := Lib.hid (nstep_some U.heap.size (fun _ => False) A m m (m + 1) wl (wl ++ [b]) U (Nat.le_refl _) (Wy.of_byt hyw) (by omega) rfl 40 (.pointer (some ⟨gq, 0, none⟩)) ow b rfl ⟨g2, 0, none⟩ (fun xs V => Tryz.call40 xs V) HNX)
          have hff := Fo.lo_full (c := on) HF.out
          obtain ⟨h7, h8⟩ := Fo.lst_last hff hk wl
          have h9 : (Fk.mk x kx wl on).dn.getLast? = ((kx.lo on).list wl).getLast? := last_app h8
          have h10 : (Fk.mk x kx wl on).dn ≠ [] := fun q => h8 (List.append_eq_nil_iff.1 q).2
          have HE := Lib.hid (show (olb (some (y, j2)) (wl ++ [b])).getLast? = o ∧ ofull (some (y, j2)) ∧ ∀ z ∈ olb (some (y, j2)) (wl ++ [b]), z.1.length ≤ 60000 from
            ⟨h7.symm.trans (h9.symm.trans (HH.out.2 h10)), Fo.lst_full hff hk, fun z hz => HM.out z (HH.out.1 z (List.mem_append_right _ (Fo.lst_mem hk wl z hz)))⟩)
          have HT5 := Lib.hid t5
          have HML := Lib.hid (show m + 1 ≤ 60000 from by
            have h11 := tlist_way (Fo.lst_full hff hk).1 (M := 60000) (pw := wl ++ [b]) (fun z hz => HM.out z (HH.out.1 z (List.mem_append_right _ (Fo.lst_mem hk wl z hz))))
            simp only [List.length_append, List.length_singleton] at h11
            omega)
          clear hk HNX hyw hm hff h7 h8 h9 h10 t5 e5
          gi_wp2_with fail
          refine ⟨trivial, round_deep (l := l), ?_⟩
          refine (CallsIn.inRound l (callsIn_wide.2 HST.out)).mono ?_
          rintro e U1 ⟨A2, cc, rfl, wy, k1⟩
          have kb1 : Below U.heap.size U U1 := k1.below (Nat.le_refl _) (fun _ q => q.elim)
          have H4 := nlast_any U.heap.size (fun i => (False ∨ U.heap.size ≤ i) ∧ i < U1.heap.size) (some (y, j2)) (some ⟨g2, 0, none⟩) A2 (m + 1) cc (wl ++ [b]) U1 k1.size ⟨g2, rfl, (HT5.out.below (fun _ q => q) (kb1.mono HWU.out.size)).mono (fun i q => Nat.lt_of_lt_of_le q HWU.out.size)⟩ HE.out.2.1 HE.out.2.2 wy.less HML.out (fun i q => q.2)
          rw [HE.out.1] at H4
          have H4 := Lib.hid H4
          have KB1 := Lib.hid kb1
          clear wy k1 kb1 HST
          gi_wp2_with fail
          refine ⟨trivial, round_deep (l := l), ?_⟩
          refine (CallsIn.inRound l (callsIn_wide.2 H4.out)).mono ?_
          rintro e U2 ⟨A5, c5, rfl, y5, nc5, pb5, k5⟩
          have kb2 : Below U.heap.size U U2 := KB1.out.trans (k5.below KB1.out.size (fun i q => q.1.elim (fun q => q.elim) id))
          have hw5 : Below W.heap.size W U2 := HWU.out.trans (kb2.mono HWU.out.size)
          obtain ⟨r1, r2, r3, r4⟩ := HBW.out
          have j0 := r3.below hw5 (by omega)
          have j1 := r4.below hw5 (by omega)
          have d0 := j0.cell 0
          have d1 := j0.cell 1
          have d2 := j1.cell 0
          have z0 := j0.fz 0
          have z1 := j0.fz 1
          have z2 := j1.fz 0
          obtain ⟨v5, hv5⟩ : ∃ v, oV o = v := ⟨_, rfl⟩
          obtain ⟨n5, hn5⟩ : ∃ v, (oK o).length = v := ⟨_, rfl⟩
          obtain ⟨b5, hb5'⟩ : ∃ v, o.isSome = v := ⟨_, rfl⟩
          have hX := Lib.hid (EndX.made r1 r2 r3 r4 hw5 y5 nc5 (fun i hi => Nat.le_trans (Nat.le_trans HWU.out.size KB1.out.size) (pb5 i hi)) (Below.refl _ _) v5 hv5 n5 hn5 b5 hb5').1
          have hKO := Lib.hid (show KeepsOthers U U2 from ⟨kb2.size, fun i ob hi _ => (kb2.block i (Array.getElem?_eq_some_iff.1 hi).1).trans hi⟩)
          rw [hv5, hn5, hb5']
          clear kb2 hw5 r1 r2 r3 r4 j0 j1 y5 nc5 pb5 k5 hv5 hn5 hb5' H4
          gi_wp2
          exact ⟨((hKO.out.trans (KeepsOthers.setCell _ _ _)).trans (KeepsOthers.setCell _ _ _)).trans (KeepsOthers.setCell _ _ _), rfl, A5, c5, hX.out⟩
      case done =>
        rw [xsB_len]
        rintro D U hD ⟨i1, i2⟩ hK
        have hno : none = o := by
          rw [← HGE.out, dn_left (k := gs.length) (j := 0) (fun j' q' h1 h2 => i2 j' q' h1 h2) (by omega)]
          rfl
        have hwU : Below w1.heap.size w1 U := (HC.out.trans (b2.mono HC.out.size)).trans (i1.mono (by have := HC.out.size; omega))
        have hWU : Below W.heap.size W U := B1.out.trans (hwU.mono B1.out.size)
        obtain ⟨r1, r2, r3, r4⟩ := HBW.out
        have j0 := r3.below hWU (by omega)
        have j1 := r4.below hWU (by omega)
        have d0 := j0.cell 0
        have d1 := j0.cell 1
        have d2 := j1.cell 0
        have z0 := j0.fz 0
        have z1 := j0.fz 1
        have z2 := j1.fz 0
        have hX := Lib.hid (EndX.made (o := none) (A5 := none) (c5 := 0) r1 r2 r3 r4 hWU Byt.none_ (Nat.le_refl _) (fun i q => absurd rfl q.1) (Below.refl _ _) 0 rfl 0 rfl false rfl).1
        have HK := Lib.hid hK
        have HNO := Lib.hid hno
        have HD := Lib.hid (Nat.le_trans HWV.out hD)
        clear hwU hWU r1 r2 r3 r4 j0 j1 hK hno i1 i2
        go_wp2
        obtain rfl : none = o := HNO.out
        have hK3 := (((KeepsOthers.setCell U ⟨w.heap.size, 0, none⟩ (.slice none 0 0)).trans (KeepsOthers.setCell _ ⟨w.heap.size, 1, none⟩ (.int .u64 0))).trans (KeepsOthers.setCell _ ⟨w.heap.size + 1, 0, none⟩ (.bool false))).same D _ HK.out rfl
        refine ⟨by simp, .inl ⟨_, _, rfl, run_takeDeferred hK3, ?_⟩⟩
        have hE := hX.out.step (Stp1.put_obj (n₀ := w.heap.size) (fun _ => False) (.deferred none) hK3 rfl HD.out) (Nat.le_refl _)
        exact ⟨_, hE.run rfl rfl rfl, hE.post⟩
      case stop =>
        rintro D cd U hD ⟨rfl, A5, c5, hE⟩ hK
        have HK := Lib.hid hK
        have HE := Lib.hid hE
        clear hK hE
        gi_wp2
        refine ⟨by simp, .inl ⟨_, _, rfl, run_takeDeferred HK.out, ?_⟩⟩
        have hE := HE.out.step (Stp1.put_obj (n₀ := w.heap.size) (fun _ => False) (.deferred none) HK.out rfl (Nat.le_trans HWV.out hD)) (Nat.le_refl _)
        exact ⟨_, hE.run rfl rfl rfl, hE.post⟩
end Go.Proofs.YtidiinededalmaaGreat
