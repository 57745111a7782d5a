/-
  near.Ceil: the first pair that does not stand ahead of a key.
-/
import Derived.Test.YtidiinededalmaaGreatNrSeq
import Derived.Test.YtidiinededalmaaGreatPairE
import Derived.Test.YtidiinededalmaaGreatCnLaw
import Derived.Deep.CutBlock
import Derived.Deep.DeepCutAuto
namespace Go.Proofs.YtidiinededalmaaGreat
open Go.RowKit Go.Shelf
attribute [local go_sem] Oper.semAt_some

/-- Whether the way down ends at a node all of whose pairs stand at the key or behind it. -/
def endB (t : Option (Nn × Fo)) (l : List UInt8) : Bool :=
  match t with
  | none => false
  | some (x, _) => !decide (cmpL x.part l < 0)
theorem mem_ge {L : List KV} {key : List UInt8} {fs : List Fk} {t : Option (Nn × Fo)} {a : Nat} (h : Alg L key fs t a) : ∀ p ∈ olb t (key.take a), p ∈ L := fun p hp => by
  by_cases hc : cmpL p.1 key < 0
  · have : p ∈ ltL L key := by
      rw [h.lt]
      exact List.mem_append_right _ (List.mem_filter.2 ⟨hp, decide_eq_true hc⟩)
    exact (List.mem_filter.1 this).1
  · have : p ∈ geL L key := by
      rw [h.ge]
      exact List.mem_append_left _ (List.mem_filter.2 ⟨hp, by simp [hc]⟩)
    exact (List.mem_filter.1 this).1
theorem mem_up {L : List KV} {key : List UInt8} {fs : List Fk} {t : Option (Nn × Fo)} {a : Nat} (h : Alg L key fs t a) {f : Fk} (hf : f ∈ fs) : ∀ p ∈ f.up, p ∈ L := fun p hp => by
  have : p ∈ geL L key := by
    rw [h.ge]
    exact List.mem_append_right _ (List.mem_flatten.2 ⟨f.up, List.mem_map.2 ⟨f, List.mem_reverse.2 hf, rfl⟩, hp⟩)
  exact (List.mem_filter.1 this).1
theorem mem_dn {L : List KV} {key : List UInt8} {fs : List Fk} {t : Option (Nn × Fo)} {a : Nat} (h : Alg L key fs t a) {f : Fk} (hf : f ∈ fs) : ∀ p ∈ f.dn, p ∈ L := fun p hp => by
  have : p ∈ ltL L key := by
    rw [h.lt]
    exact List.mem_append_left _ (List.mem_flatten.2 ⟨f.dn, List.mem_map.2 ⟨f, hf, rfl⟩, hp⟩)
  exact (List.mem_filter.1 this).1
/-- What is left where the last forks have nothing to their greater side. -/
theorem up_left {gs : List (Fk × Nat)} {k : Nat} (h : ∀ j p, j + k ≥ gs.length → gs[j]? = some p → p.1.up = []) {j : Nat} (hj : j + k = gs.length) : ((gs.map Prod.fst).reverse.map Fk.up).flatten = (((gs.take j).map Prod.fst).reverse.map Fk.up).flatten := by
  conv => lhs; rw [← List.take_append_drop j gs]
  rw [List.map_append, List.reverse_append, List.map_append, List.flatten_append]
  have : (((gs.drop j).map Prod.fst).reverse.map Fk.up).flatten = [] := by
    rw [List.flatten_eq_nil_iff]
    intro l hl
    obtain ⟨f, hf, rfl⟩ := List.mem_map.1 hl
    obtain ⟨p, hp, rfl⟩ := List.mem_map.1 (List.mem_reverse.1 hf)
    obtain ⟨i, hi⟩ := List.mem_iff_getElem?.1 hp
    rw [List.getElem?_drop] at hi
    exact h (j + i) p (by omega) hi
  rw [this, List.nil_append]
theorem up_here {gs : List (Fk × Nat)} {j : Nat} {p : Fk × Nat} (hp : gs[j]? = some p) : (((gs.take (j + 1)).map Prod.fst).reverse.map Fk.up).flatten = p.1.up ++ (((gs.take j).map Prod.fst).reverse.map Fk.up).flatten := by
  rw [List.take_add_one, hp]
  simp
/-- Where nothing but the next step is left, no way out need be looked at. -/
theorem wp_calm {P : Program} {c : Code} {K : Act → World → Prop} {Q : Exit → Act → World → Prop} {a : Act} {w : World} (h : c.wp P (Exit.then K (fun _ _ _ => False)) a w) : c.wp P (Exit.then K Q) a w :=
  (wpIn_wide (n := 0)).1 (wpIn_mono ((wpIn_wide (n := 0)).2 h) fun e a' w' h' => by
    cases e <;> first | exact h' | exact h'.elim)
/-- What is handed back lies in the results' blocks. -/
structure EndX (w : World) (o : Option KV) (A5 : Option Addr) (c5 : Nat) (V : World) : Prop where
  b0 : Blk V w.heap.size #[.slice A5 (oK o).length c5, .int .u64 (oV o)]
  b1 : Blk V (w.heap.size + 1) #[.bool o.isSome]
  byt : Byt V V.heap.size A5 (oK o).length (oK o)
  room : (oK o).length ≤ c5
  new_ : ∀ i, Pb A5 (oK o) i → w.heap.size + 2 ≤ i
  kept : Below w.heap.size w V
theorem EndX.step {n₀ : Nat} {w : World} {o : Option KV} {A5 : Option Addr} {c5 : Nat} {A B : World} (h : EndX w o A5 c5 A) (hs : Stp1 n₀ (fun _ => False) A B) (hn : w.heap.size ≤ n₀) : EndX w o A5 c5 B :=
  ⟨h.b0.step hs (fun q => q), h.b1.step hs (fun q => q), h.byt.step hs (fun _ _ q => q), h.room, h.new_, h.kept.trans (hs.below.mono hn)⟩
theorem EndX.post {w : World} {o : Option KV} {A5 : Option Addr} {c5 : Nat} {V : World} (h : EndX w o A5 c5 V) : NrPost (fun _ => False) w o (.returned (.tuple #[.agg #[.slice A5 (oK o).length c5, .int .u64 (oV o)], .bool o.isSome])) V :=
  ⟨A5, c5, rfl, h.byt, h.room, fun i hi => by have := h.new_ i hi; omega, Kept.of_below h.kept⟩
theorem EndX.made {w W w4 w5 : World} {o : Option KV} {A5 : Option Addr} {c5 : Nat} (hb : Below w.heap.size w W) (hW : W.heap.size = w.heap.size + 2) (h0 : Blk W w.heap.size #[.slice none 0 0, .int .u64 0]) (h1 : Blk W (w.heap.size + 1) #[.bool false]) (k4 : Below W.heap.size W w4)
    (y5 : Byt w5 w5.heap.size A5 (oK o).length (oK o)) (nc5 : (oK o).length ≤ c5) (pb5 : ∀ i, Pb A5 (oK o) i → W.heap.size ≤ i) (k5 : Below W.heap.size w4 w5) (v : Int) (hv : oV o = v) (n : Nat) (hn : (oK o).length = n) (b : Bool) (hbb : o.isSome = b) :
    EndX w o A5 c5 (((w5.setCell ⟨w.heap.size, 0, none⟩ (.slice A5 n c5)).setCell ⟨w.heap.size, 1, none⟩ (.int .u64 v)).setCell ⟨w.heap.size + 1, 0, none⟩ (.bool b)) ∧
    Kept (fun i => w.heap.size ≤ i ∧ i < w.heap.size + 2) w5 (((w5.setCell ⟨w.heap.size, 0, none⟩ (.slice A5 n c5)).setCell ⟨w.heap.size, 1, none⟩ (.int .u64 v)).setCell ⟨w.heap.size + 1, 0, none⟩ (.bool b)) := by
  subst hv hn hbb
  have j0 := (h0.below (k4.trans k5) (by omega))
  have j1 := (h1.below (k4.trans k5) (by omega))
  obtain ⟨t1, t2⟩ := two_set j0 (.slice A5 (oK o).length c5) (.int .u64 (oV o))
  have r1 := t2.blk j1 (fun e => by omega)
  have k3 : Kept (fun i => w.heap.size ≤ i ∧ i < w.heap.size + 2) w5 _ := t2.mono (fun i e => by omega)
  have q1 := r1.set_ 0 (.bool o.isSome)
  have k6 : Kept (fun i => i = w.heap.size + 1) _ _ := Kept.set_ ((w5.setCell ⟨w.heap.size, 0, none⟩ (.slice A5 (oK o).length c5)).setCell ⟨w.heap.size, 1, none⟩ (.int .u64 (oV o))) ⟨w.heap.size + 1, 0, none⟩ (.bool o.isSome) rfl
  have t1' := k6.blk t1 (fun e => by omega)
  have k7 := k3.trans (k6.mono (fun i e => show w.heap.size ≤ i ∧ i < w.heap.size + 2 by omega))
  have kw : Below w.heap.size w w5 := hb.trans ((k4.trans k5).mono (by omega))
  exact ⟨⟨t1', by simpa using q1, (y5.keepPb fun q hq => k7.cell (y5.ltPb hq) (fun e => by have := pb5 _ hq; omega)).more k7.size, nc5, fun i hi => by have := pb5 i hi; omega, kw.trans (k7.below kw.size (fun i q => q.1))⟩, k7⟩
theorem results_cell2 {fn : Func} {p q : Tmp} {ty ty2 : TypeId} (h : fn.results = #[.cell p ty, .cell q ty2]) (tmps : Array Value) (P : Program) (w : World) :
    (results fn tmps).run P w = ((asAddr (tmps.getD p undef)).run P w).andThen fun a w₁ => ((loadVar ty a).run P w₁).andThen fun x w₂ => ((asAddr (tmps.getD q undef)).run P w₂).andThen fun b w₃ => ((loadVar ty2 b).run P w₃).andThen fun y w₄ => .ok (.tuple #[x, y]) w₄ := by
  simp only [results, h]
  simp [Sem.run_bind, Result.andThen]
set_option maxRecDepth 100000 in
theorem EndX.run {fn : Func} {p q : Tmp} {tmps : Array Value} {w : World} {o : Option KV} {A5 : Option Addr} {c5 : Nat} {V : World} (h : EndX w o A5 c5 V) (hr : fn.results = #[.cell p 31, .cell q 4]) (hp : tmps.getD p undef = .pointer (some ⟨w.heap.size, 0, none⟩)) (hq : tmps.getD q undef = .pointer (some ⟨w.heap.size + 1, 0, none⟩)) :
    (results fn tmps).run Tryz.prog V = .ok (.tuple #[.agg #[.slice A5 (oK o).length c5, .int .u64 (oV o)], .bool o.isSome]) V := by
  rw [results_cell2 hr, hp, hq]
  have h1 := pair_load h.b0
  have h2 : (loadVar 4 ⟨w.heap.size + 1, 0, none⟩).run Tryz.prog V = .ok (.bool o.isSome) V := by simp [go_sem, h.b1.cell 0]
  simp [asAddr, Result.andThen, h1, h2]
theorem Wy.less {w : World} {n₀ : Nat} {N : Nat → Prop} {A : Option Addr} {n c : Nat} {l : List UInt8} (h : Wy w n₀ N A n c l) : Wy w n₀ (fun i => N i ∧ i < w.heap.size) A n c l := by
  refine ⟨?_, fun i q => h.lo i q.1⟩
  rcases h.is with ⟨h1, h2⟩ | h
  · exact .inl ⟨h1, fun i q => ⟨h2 i q, (h1.lt i q).2⟩⟩
  · exact .inr h

set_option maxRecDepth 100000 in
set_option maxHeartbeats 4000000 in
theorem nceil_any (t : Option (Nn × Fo)) (p A : Option Addr) (n c : Nat) (key : List UInt8) (w : World) (ht : OTre w (· < w.heap.size) t p) (hwf : owf t) (hf : ofull t) (hM : ∀ q ∈ olist t, q.1.length ≤ 60000) (hk : Byt w w.heap.size A n key) (hnc : n ≤ c) (hn : n ≤ 60000) :
    Calls Tryz.prog 17 #[.pointer p, .slice A n c] w (NrPost (fun _ => False) w (geL (olist t) key).head?) := by
  obtain ⟨o, ho⟩ : ∃ o, (geL (olist t) key).head? = o := ⟨_, rfl⟩
  rw [ho]
  obtain ⟨W, hW⟩ : ∃ W, (w.alloc (.cells #[.slice none 0 0, .int .u64 0] 31)).alloc (.cells #[.bool false] 4) = W := ⟨_, rfl⟩
  have hb : Below w.heap.size w W := by rw [← hW]; exact ((Below.refl _ _).alloc (Nat.le_refl _) _).alloc (by simp) _
  have hs : W.heap.size = w.heap.size + 2 := by rw [← hW]; simp
  have hj0 : Blk W w.heap.size #[.slice none 0 0, .int .u64 0] := by rw [← hW]; exact (Blk.new w _ _).alloc _
  have hj1 : Blk W (w.heap.size + 1) #[.bool false] := by
    rw [← hW]
    have := Blk.new (w.alloc (.cells #[.slice none 0 0, .int .u64 0] 31)) 4 #[.bool false]
    rwa [World.size_alloc] at this
  have HAL := Lib.hid (nalong_any t p A n c key W ((otre_on ht hb).mono (fun i q => by omega)) hwf hf ((hk.below hb).more (by omega)) hnc hn)
  obtain ⟨L, hL⟩ : ∃ L, olist t = L := ⟨_, rfl⟩
  rw [hL] at ho hM HAL
  have HO := Lib.hid ho
  have HW := Lib.hid hW
  have HBW := Lib.hid (And.intro hb (And.intro hs (And.intro hj0 hj1)))
  have HM := Lib.hid hM
  have HKY := Lib.hid (fun (V : World) (hV : Below W.heap.size W V) => show Byt V W.heap.size A n key from ((hk.below hb).more (show w.heap.size ≤ W.heap.size by omega)).below hV)
  have HLN := Lib.hid (And.intro hk.1 (And.intro hnc hn))
  clear ht hwf hf hM hk hnc hn ho hL hW hb hs hj0 hj1
  obtain ⟨nd, hn1⟩ : ∃ n : Nat, 1 ≤ n := ⟨1, Nat.le_refl _⟩
  have HN1 := Lib.hid hn1
  clear hn1
  refine (callsIn_wide (n := nd)).1 ?_
  refine callsIn_of_wp_marks Tryz.func17 rfl trivial ?_
  simp only [Tryz.ntmps17, List.size_toArray, List.length_cons, List.length_nil, Nat.reduceAdd, Nat.reduceSub, Array.replicate_succ, Array.replicate_zero, List.push_toArray, List.append_toArray, List.nil_append, List.cons_append]
  refine wpIn_wide.2 ?_
  go_wp2_with fail
  rw [HW.out]
  (with_reducible refine HAL.out.mono ?_)
  rintro e w1 ⟨gs, t1, q1, F, c1, a, rfl, hc1, hmg, g1, g2, g3, g4, g5, g6, b1⟩
  have G1 := Lib.hid g1
  have G2 := Lib.hid g2
  have G3 := Lib.hid g3
  have G4 := Lib.hid g4
  have G5 := Lib.hid (And.intro g5 (And.intro hc1 hmg))
  have G6 := Lib.hid g6
  have B1 := Lib.hid b1
  obtain ⟨bb, hbb⟩ : ∃ b, endB t1 (key.drop a) = b := ⟨_, rfl⟩
  have HBB := Lib.hid hbb
  clear HAL hc1 hmg g1 g2 g3 g4 g5 g6 b1 hbb
  go_upto_region 2 with fail
  go_cut [30] from 20 to 30 (fun v30 wc => v30 = .bool bb ∧ Hid (Below w1.heap.size w1 wc))
  case first =>
    cases t1 with
    | none =>
      obtain rfl : q1 = none := G4.out
      obtain rfl : false = bb := HBB.out
      go_quiet (fail)
      go_wp2_with fail
      go_meet
      exact ⟨rfl, Lib.hid ((Still.drewN _ _).below _)⟩
    | some xk =>
      obtain ⟨x, k⟩ := xk
      obtain ⟨g, rfl, T⟩ := G4.out
      obtain ⟨ha, hend⟩ := G2.out x k rfl
      have hla : a ≤ n := by rw [← HLN.out.1]; exact ha
      have HPT := Lib.hid (fun (V : World) (hV : Below w1.heap.size w1 V) => show Calls Tryz.prog 34 #[.pointer (some ⟨g, 0, none⟩)] V (fun e w' => ∃ A2 c2, e = .returned (.slice A2 x.part.length c2) ∧ Byt w' w'.heap.size A2 x.part.length x.part ∧ Below w1.heap.size w1 w') from by
        obtain ⟨be, A1, ek, hN1, _⟩ := (T.below (fun _ q => q) (hV.mono B1.out.size)).nod
        exact (npart_any hN1).mono fun e w' ⟨A2, c2, h1, h2, _, h4⟩ => ⟨A2, c2, h1, h2, hV.trans (h4.mono hV.size)⟩)
      obtain ⟨cv, hcv⟩ : ∃ z, cmpL x.part (key.drop a) = z := ⟨_, rfl⟩
      obtain ⟨m, hm⟩ : ∃ m, x.part.length = m := ⟨_, rfl⟩
      have HCM := Lib.hid (fun (U : World) (A2 : Option Addr) (c2 : Nat) (y : Byt U U.heap.size A2 m x.part) (hU : Below w1.heap.size w1 U) => show Calls Tryz.prog 33 #[.slice A2 m c2, .slice (cutA A a c 1) (n - a) (c - a)] U (fun e w' => e = .returned (.int .i64 cv) ∧ Still U w') from by
        have h1 := (HKY.out U (B1.out.trans (hU.mono B1.out.size))).cut_ a n hla (Nat.le_refl _) HLN.out.2.1
        rw [List.take_of_length_le (by rw [HLN.out.1]; exact Nat.le_refl _)] at h1
        rw [← hcv]
        exact cmp_any A2 (cutA A a c 1) m (n - a) c2 (c - a) U.heap.size x.part (key.drop a) U y (h1.more (Nat.le_trans B1.out.size hU.size)))
      rw [hm] at HPT
      have hsl := fun V => slc_from (P := Tryz.prog) Tryz.underlying23 size_u8 A n c a hla V
      have HE := Lib.hid (show Value.bool (decide (0 ≤ cv)) = .bool bb from by
        rw [← HBB.out]
        show _ = Value.bool (!decide (cmpL x.part (key.drop a) < 0))
        rw [hcv]
        congr 1
        by_cases hc : cv < 0
        · simp [hc]
        · simp [hc]; omega)
      clear T ha hend hla hm hcv
      refine wp_calm ?_
      refine wp_region_held_drew (S := (fun w' => 0 ≤ w'.heap.size)) (by kernel_rfl) (Nat.zero_le _) (fun hHeld => ?_)
      refine wpAnyH_take (i := 0) (oi := { dst := some 20, op := Op.move (Operand.tmp 7), type := 27, pos := "near.go:35", after := #[], guard := none }) (v := ?v1) rfl (by kernel_rfl) (by kernel_rfl) (by kernel_rfl) (fun _ _ _ h => h) (Or.inl ⟨by rfl, ?hy1⟩) hHeld ?rest1
      case hy1 => (intro w' hSw; (try dsimp only at hSw); go_simp; (try with_reducible rfl))
      try simp only [Act.put, List.setIfInBounds_toArray, List.set_cons_zero, List.set_cons_succ]
      refine wpAnyH_take (i := 1) (oi := { dst := some 21, op := Op.binOp BinOp.neq 27 (Operand.tmp 20) (Operand.const (Value.pointer none)) 27, type := 4, pos := "near.go:35", after := #[{ on := 0, ground := Ground.data }], guard := none }) (v := ?v2) rfl (by kernel_rfl) (by kernel_rfl) (by kernel_rfl) (fun _ _ _ h => h) (Or.inl ⟨by rfl, ?hy2⟩) hHeld ?rest2
      case hy2 => (intro w' hSw; (try dsimp only at hSw); go_simp; (try with_reducible rfl))
      try simp only [Act.put, List.setIfInBounds_toArray, List.set_cons_zero, List.set_cons_succ]
      refine wpAnyH_take (i := 2) (oi := { dst := some 22, op := Op.move (Operand.tmp 21), type := 4, pos := "near.go:35", after := #[{ on := 1, ground := Ground.data }], guard := none }) (v := ?v3) rfl (by kernel_rfl) (by kernel_rfl) (by kernel_rfl) (fun _ _ _ h => h) (Or.inl ⟨by rfl, ?hy3⟩) hHeld ?rest3
      case hy3 => (intro w' hSw; (try dsimp only at hSw); go_simp; (try with_reducible rfl))
      try simp only [Act.put, List.setIfInBounds_toArray, List.set_cons_zero, List.set_cons_succ]
      refine wpAnyH_take (i := 3) (oi := { dst := some 23, op := Op.move (Operand.tmp 7), type := 27, pos := "near.go:35", after := #[{ on := 2, ground := Ground.guard }], guard := some (2, true) }) (v := ?v4) rfl (by kernel_rfl) (by kernel_rfl) (by kernel_rfl) (fun _ _ _ h => h) (Or.inl ⟨by rfl, ?hy4⟩) hHeld ?rest4
      case hy4 => (intro w' hSw; (try dsimp only at hSw); go_simp; (try with_reducible rfl))
      try simp only [Act.put, List.setIfInBounds_toArray, List.set_cons_zero, List.set_cons_succ]
      refine wpAnyH_take (i := 5) (oi := { dst := some 25, op := Op.move (Operand.tmp 1), type := 23, pos := "near.go:35", after := #[{ on := 2, ground := Ground.guard }], guard := some (2, true) }) (v := ?v5) rfl (by kernel_rfl) (by kernel_rfl) (by kernel_rfl) (fun _ _ _ h => h) (Or.inl ⟨by rfl, ?hy5⟩) hHeld ?rest5
      case hy5 => (intro w' hSw; (try dsimp only at hSw); go_simp; (try with_reducible rfl))
      try simp only [Act.put, List.setIfInBounds_toArray, List.set_cons_zero, List.set_cons_succ]
      refine wpAnyH_take (i := 6) (oi := { dst := some 26, op := Op.move (Operand.tmp 8), type := 3, pos := "near.go:35", after := #[{ on := 2, ground := Ground.guard }], guard := some (2, true) }) (v := ?v6) rfl (by kernel_rfl) (by kernel_rfl) (by kernel_rfl) (fun _ _ _ h => h) (Or.inl ⟨by rfl, ?hy6⟩) hHeld ?rest6
      case hy6 => (intro w' hSw; (try dsimp only at hSw); go_simp; (try with_reducible rfl))
      try simp only [Act.put, List.setIfInBounds_toArray, List.set_cons_zero, List.set_cons_succ]
      refine wpAnyH_take (i := 7) (oi := { dst := some 27, op := Op.slice 23 (Operand.tmp 25) (some (Operand.tmp 26)) none none, type := 23, pos := "near.go:35", after := #[{ on := 5, ground := Ground.data }, { on := 6, ground := Ground.data }, { on := 2, ground := Ground.guard }], guard := some (2, true) }) (v := ?v7) rfl (by kernel_rfl) (by kernel_rfl) (by kernel_rfl) (fun _ _ _ h => h) (Or.inl ⟨by rfl, ?hy7⟩) hHeld ?rest7
      case hy7 => (intro w' hSw; (try dsimp only at hSw); go_simp; (try with_reducible rfl))
      try simp only [Act.put, List.setIfInBounds_toArray, List.set_cons_zero, List.set_cons_succ]
      refine wpAnyH_ready (rs := [4]) (by kernel_rfl) (by simp) (AllReadyH.cons (o := { dst := some 24, op := Op.call { callee := Callee.value (Operand.func 34), args := #[Operand.tmp 23], argTypes := #[27] }, type := 23, pos := "near.go:35", after := #[{ on := 3, ground := Ground.data }, { on := 2, ground := Ground.chain }, { on := 2, ground := Ground.guard }], guard := some (2, true) }) rfl (fun K hK => ?_) AllReadyH.nil)
      go_simp
      (with_reducible refine (HPT.out _ ((Below.refl w1.heap.size w1).drew)).mono ?_)
      rintro e U2 ⟨A2, c2, rfl, y2, b2⟩
      have Y2 := Lib.hid y2
      have B2 := Lib.hid b2
      clear y2 b2
      go_wp2_with fail
      refine hK.out _ _ (Nat.zero_le _) (fun hHeld' => ?_)
      clear hK K hHeld
      have hHeld := hHeld'
      clear hHeld'
      try simp only [Act.put, List.setIfInBounds_toArray, List.set_cons_zero, List.set_cons_succ]
      refine wpAnyH_ready (rs := [8]) (by kernel_rfl) (by simp) (AllReadyH.cons (o := { dst := some 28, op := Op.call { callee := Callee.value (Operand.func 33), args := #[Operand.tmp 24, Operand.tmp 27], argTypes := #[23, 23] }, type := 3, pos := "near.go:35", after := #[{ on := 4, ground := Ground.data }, { on := 7, ground := Ground.data }, { on := 4, ground := Ground.chain }, { on := 2, ground := Ground.guard }], guard := some (2, true) }) rfl (fun K hK => ?_) AllReadyH.nil)
      go_simp
      (with_reducible refine (HCM.out U2 A2 c2 Y2.out B2.out).mono ?_)
      rintro e U3 ⟨rfl, s3⟩
      have B3 := Lib.hid (B2.out.trans ((s3.below U2.heap.size).mono B2.out.size))
      clear s3
      go_wp2_with fail
      refine hK.out _ _ (Nat.zero_le _) (fun hHeld' => ?_)
      clear hK K hHeld
      have hHeld := hHeld'
      clear hHeld'
      try simp only [Act.put, List.setIfInBounds_toArray, List.set_cons_zero, List.set_cons_succ]
      refine wpAnyH_take (i := 9) (oi := { dst := some 29, op := Op.binOp BinOp.geq 3 (Operand.tmp 28) (Operand.const (Value.int IntKind.i64 0)) 3, type := 4, pos := "near.go:35", after := #[{ on := 8, ground := Ground.data }, { on := 2, ground := Ground.guard }], guard := some (2, true) }) (v := ?v8) rfl (by kernel_rfl) (by kernel_rfl) (by kernel_rfl) (fun _ _ _ h => h) (Or.inl ⟨by rfl, ?hy8⟩) hHeld ?rest8
      case hy8 => (intro w' hSw; (try dsimp only at hSw); go_simp; (try with_reducible rfl))
      try simp only [Act.put, List.setIfInBounds_toArray, List.set_cons_zero, List.set_cons_succ]
      refine wpAnyH_take (i := 10) (oi := { dst := some 30, op := Op.pick (Operand.tmp 22) (Operand.tmp 29) (Operand.const (Value.bool false)), type := 4, pos := "near.go:35", after := #[{ on := 2, ground := Ground.data }, { on := 9, ground := Ground.data }], guard := none }) (v := ?v9) rfl (by kernel_rfl) (by kernel_rfl) (by kernel_rfl) (fun _ _ _ h => h) (Or.inl ⟨by rfl, ?hy9⟩) hHeld ?rest9
      case hy9 => (intro w' hSw; (try dsimp only at hSw); go_simp; (try with_reducible rfl))
      try simp only [Act.put, List.setIfInBounds_toArray, List.set_cons_zero, List.set_cons_succ]
      refine wpAnyH_done (by kernel_rfl) ?_ _
      go_wp2_with fail
      go_meet
      exact ⟨HE.out, Lib.hid B3.out⟩
  case rest =>
    obtain ⟨rfl, HC⟩ := hcut
    obtain ⟨V, hV⟩ : ∃ V, V = wc := ⟨_, rfl⟩
    rw [← hV] at HC ⊢
    clear hV wc
    cases bb with
    | true =>
      have hx : ∃ x k, t1 = some (x, k) ∧ ¬ cmpL x.part (key.drop a) < 0 := by
        have h := HBB.out
        rcases t1 with _ | ⟨x, k⟩
        · cases h
        · exact ⟨x, k, rfl, fun q => by
            have h : (!decide (cmpL x.part (key.drop a) < 0)) = true := h
            rw [decide_eq_true q] at h
            cases h⟩
      obtain ⟨x, k, rfl, hc⟩ := hx
      obtain ⟨g, rfl, T⟩ := G4.out
      obtain ⟨ha, hend⟩ := G2.out x k rfl
      have hla : a ≤ n := by rw [← HLN.out.1]; exact ha
      have h1 : (olb (some (x, k)) (key.take a)).head? = o := by
        have h2 := (end_ge (k := k) (pw := key.take a) hend hc).1
        rw [List.take_append_drop] at h2
        rw [← HO.out, G1.out.ge, show geL (olb (some (x, k)) (key.take a)) key = tlist x k (key.take a) from h2, head_app (tlist_ne G3.out.1 _)]
        rfl
      have H3 := Lib.hid (ntrim_any A n c a hla HLN.out.2.1 V)
      have hyA : Byt V V.heap.size A a (key.take a) := ((HKY.out V (B1.out.trans (HC.out.mono B1.out.size))).take hla).more (Nat.le_trans B1.out.size HC.out.size)
      have H4 := nfirst_any V.heap.size (fun _ => False) (some (x, k)) (some ⟨g, 0, none⟩) A a a (key.take a) V (Nat.le_refl _) ⟨g, rfl, (T.below (fun _ q => q) (HC.out.mono B1.out.size)).mono (fun i q => Nat.lt_of_lt_of_le q (Nat.le_trans B1.out.size HC.out.size))⟩ G3.out (fun q hq => HM.out q (mem_ge G1.out q hq)) (Wy.of_byt hyA) (fun _ q => q.elim)
      rw [h1] at H4
      have H4 := Lib.hid H4
      clear T ha hend hla h1 hc hyA
      go_wp2_with fail
      (with_reducible refine H3.out.mono ?_)
      rintro e w4 ⟨rfl, h4⟩
      have h4 := h4.symm
      subst h4
      go_wp2_with fail
      (with_reducible refine H4.out.mono ?_)
      rintro e w5 ⟨A5, c5, rfl, y5, nc5, pb5, k5⟩
      have hb5 : Below V.heap.size V w5 := k5.below (Nat.le_refl _) (fun _ q => q.elim)
      have hw5 : Below W.heap.size W w5 := B1.out.trans ((HC.out.trans (hb5.mono HC.out.size)).mono B1.out.size)
      obtain ⟨q1, q2, q3, q4⟩ := HBW.out
      have j0 := q3.below hw5 (by omega)
      have j1 := q4.below hw5 (by omega)
      have d0 := j0.cell 0
      have d1 := j0.cell 1
      have d2 := j1.cell 0
      have z0 := j0.fz 0
      have z1 := j0.fz 1
      have z2 := j1.fz 0
      obtain ⟨v5, hv5⟩ : ∃ v, oV o = v := ⟨_, rfl⟩
      obtain ⟨n5, hn5⟩ : ∃ v, (oK o).length = v := ⟨_, rfl⟩
      obtain ⟨b5, hb5'⟩ : ∃ v, o.isSome = v := ⟨_, rfl⟩
      have hX := Lib.hid (EndX.made q1 q2 q3 q4 hw5 y5 nc5 (fun i hi => Nat.le_trans (Nat.le_trans B1.out.size HC.out.size) (pb5 i hi)) (Below.refl _ _) v5 hv5 n5 hn5 b5 hb5').1
      rw [hv5, hn5, hb5']
      have HV5 := Lib.hid (And.intro hv5 (And.intro hn5 hb5'))
      clear hb5 hw5 q1 q2 q3 q4 j0 j1 y5 nc5 pb5 k5 hv5 hn5 hb5' H4 H3
      go_wp2_with fail
      obtain ⟨rfl, rfl, rfl⟩ := HV5.out
      exact ⟨_, hX.out.run rfl rfl rfl, hX.out.post⟩
    | false =>
      have hge : ((gs.map Prod.fst).reverse.map Fk.up).flatten.head? = o := by
        have h : geL (olb t1 (key.take a)) key = [] := by
          rcases t1 with _ | ⟨x, k⟩
          · rfl
          · have h := HBB.out
            have h : (!decide (cmpL x.part (key.drop a) < 0)) = false := h
            have hc : cmpL x.part (key.drop a) < 0 := by simpa using h
            have h2 := (end_lt (k := k) (pw := key.take a) (G2.out x k rfl).2 hc).1
            rw [List.take_append_drop] at h2
            exact h2
        rw [← HO.out, G1.out.ge, h]
        rfl
      have HGE := Lib.hid hge
      have H5 := Lib.hid (nback_any F gs.length c1 V)
      obtain ⟨V2, hV2⟩ : ∃ U, V.alloc (.cells #[.slice F gs.length c1] 53) = U := ⟨_, rfl⟩
      have b2 : Below V.heap.size V V2 := by rw [← hV2]; exact (Below.refl _ _).alloc (Nat.le_refl _) _
      have s2 : V2.heap.size = V.heap.size + 1 := by rw [← hV2]; simp
      have c2 : V2.cell? ⟨V.heap.size, 0, none⟩ = some (.slice F gs.length c1) := by rw [← hV2]; exact (Blk.new V 53 #[.slice F gs.length c1]).cell 0
      have hseq := nback1_seqs (A := A) (gs := gs) c2 (((G5.out.1.below (HC.out.trans (b2.mono HC.out.size)))).more (Nat.le_trans HC.out.size b2.size)) (by
        have := G5.out.2.2
        have := HLN.out
        omega)
      have HV2 := Lib.hid hV2
      have HWV := Lib.hid (show w.heap.size ≤ V2.heap.size from by have := B1.out.size; have := HC.out.size; have := HBW.out.2.1; omega)
      clear hge hV2
      go_wp2_with fail
      (with_reducible refine H5.out.mono ?_)
      rintro e w4 ⟨rfl, h4⟩
      have h4 := h4.symm
      subst h4
      go_wp2_with fail
      rw [HV2.out]
      refine (wpIn_wide (n := nd)).1 ?_
      refine range_back (n₀ := V2.heap.size) HN1.out (gf := 54) (lb := #[.pointer (some ⟨V.heap.size, 0, none⟩)]) rfl (enters_of Tryz.func54 (by kernel_rfl) rfl) (Nat.le_refl _) hseq
        (fun k U => Below V2.heap.size V2 U ∧ ∀ (j : Nat) (q : Fk × Nat), gs.length ≤ j + k → gs[j]? = some q → q.1.up = [])
        (fun cd U => cd = .ret ∧ ∃ A5 c5, EndX w o A5 c5 U) ?hI ?hIx ⟨Below.refl _ _, fun j q h1 h2 => absurd (List.getElem?_eq_some_iff.1 h2).1 (by omega)⟩
        (fun bx x => { tmps := #[.pointer p, .slice A n c, undef, undef, .pointer (some ⟨w.heap.size, 0, none⟩), .pointer (some ⟨w.heap.size + 1, 0, none⟩), .slice F gs.length c1, .pointer q1, .int .i64 (a : Int), undef, .pointer (some ⟨bx, 0, none⟩), undef, undef, .tuple #[.slice F gs.length c1, .pointer q1, .int .i64 (a : Int)], .pointer p, .slice A n c, .tuple #[.slice F gs.length c1, .pointer q1, .int .i64 (a : Int)], .slice F gs.length c1, .pointer q1, .int .i64 (a : Int), u20, u21, u22, u23, u24, u25, u26, u27, u28, u29, .bool false, undef, undef, undef, undef, undef, undef, undef, .slice F gs.length c1, .func (.func 54) #[] #[.pointer (some ⟨V.heap.size, 0, none⟩)], x.1, .agg x.2, undef, undef, undef, undef, undef, undef, undef, undef, undef, undef, undef, undef, undef, undef, undef, undef, undef, undef, undef, undef], defers := [] }) ?assign ?body ?done ?stop
      case hI =>
        rintro k U U' ⟨i1, i2⟩ hs
        exact ⟨i1.trans hs.below, i2⟩
      case hIx =>
        rintro cd U U' ⟨e, A5, c5, h⟩ hs
        exact ⟨e, A5, c5, h.step hs HWV.out⟩
      case assign =>
        rintro l x U K ⟨k, hx⟩ hK
        obtain ⟨j, q, hj, hq, rfl⟩ := xsB_of hx
        gi_wp2_with fail
        exact hK _ (Blk.new _ _ _) ((Below.refl _ _).alloc (Nat.le_refl _) _) (KeepsOthers.alloc _ _) (by simp)
      case body =>
        rintro l k x bx U ⟨i1, i2⟩ hx hbx hb
        obtain ⟨j, q, hj, hq, rfl⟩ := xsB_of hx
        have hwU : Below w1.heap.size w1 U := (HC.out.trans (b2.mono HC.out.size)).trans (i1.mono (by have := HC.out.size; omega))
        have hWU : Below W.heap.size W U := B1.out.trans (hwU.mono B1.out.size)
        have hfk := (G6.out q (List.mem_of_getElem? hq)).below (hwU.mono B1.out.size)
        have hqm : q.1 ∈ gs.map Prod.fst := List.mem_map.2 ⟨q, List.mem_of_getElem? hq, rfl⟩
        have hup := mem_up G1.out hqm
        have hhead : q.1.up ≠ [] → q.1.up.head? = o := fun hne => by
          rw [← HGE.out, up_left (k := k) (j := j + 1) (fun j' q' h1 h2 => i2 j' q' (by omega) h2) (by omega), up_here hq, head_app hne]
        have I1 := Lib.hid i1
        have I2 := Lib.hid i2
        have HQ := Lib.hid hq
        have HJ := Lib.hid hj
        obtain ⟨⟨⟨x, kx, wl, on⟩, gq⟩, rfl⟩ : ∃ z, q = z := ⟨_, rfl⟩
        obtain ⟨h1, h2, h3, h4⟩ := hfk
        dsimp only at h1 h2 h3 h4 hup hhead
        have hml : wl.length ≤ 60000 := by have := HLN.out; omega
        have hyw : Byt U U.heap.size A wl.length wl := by
          have h5 := ((HKY.out U hWU).take (show wl.length ≤ n by have := HLN.out.1; omega)).more hWU.size
          rw [← h2] at h5
          exact h5
        obtain ⟨m, hm⟩ : ∃ m, wl.length = m := ⟨_, rfl⟩
        have e0 := hb.cell 0
        have e1 := hb.cell 1
        have e2 := hb.cell 2
        dsimp only at e0 e1 e2
        rw [hm] at e1 hyw hml
        obtain ⟨be, A1, ek, hN, hI⟩ := h1.nod
        have HNX := nnext_any hN ((on.toNat : Int) + 1) (by omega)
        rw [show (x.nd ek).es = ek from rfl] at HNX
        have hat := hI.next_at on hN.up
        have HWU := Lib.hid hWU
        have HH := Lib.hid (And.intro hup hhead)
        have HF := Lib.hid h4
        have ho8 := on.toNat_lt
        obtain ⟨oz, hoz⟩ : ∃ z, (on.toNat : Int) = z := ⟨_, rfl⟩
        rw [hoz] at e2 HNX hat
        obtain ⟨ow, how⟩ : ∃ z, oz + 1 = z := ⟨_, rfl⟩
        have ewo : IntKind.i64.wrap (oz + 1) = ow := by rw [IntKind.wrap_i64]; omega
        rw [how] at HNX hat
        dsimp only
        rw [hm, hoz]
        clear hN hI h1 h2 h3 h4 hup hhead hqm hwU hq hj i1 i2 hWU how hoz hb hx ho8
        rcases hk : (kx.hi on).fst with _ | ⟨b, y, j2⟩
        · rw [hk] at hat
          rw [show nextE ek ow = none from hat] at HNX
          have HST := Lib.hid (nstep_none A m m U 38 (.pointer (some ⟨gq, 0, none⟩)) ow (fun xs V => Tryz.call38 xs V) HNX)
          have HU := Lib.hid (show (Fk.mk x kx wl on).up = [] from by show (kx.hi on).list wl = []; rw [Fo.fst_none hk]; rfl)
          clear hat hk HNX hyw hm
          gi_wp2_with fail
          refine ⟨trivial, round_deep (l := l), ?_⟩
          refine (CallsIn.inRound l (callsIn_wide.2 HST.out)).mono ?_
          rintro e U1 ⟨rfl, hs⟩
          have FIN := Lib.hid (show KeepsOthers U U1 ∧ Below V2.heap.size U U1 ∧ Below V2.heap.size V2 U1 ∧ ∀ (j' : Nat) (q' : Fk × Nat), gs.length ≤ j' + (k + 1) → gs[j']? = some q' → q'.1.up = [] from
            ⟨hs.others, hs.below _, I1.out.trans (hs.below _), fun j' q' z1 z2 => by
              by_cases e : gs.length ≤ j' + k
              · exact I2.out j' q' e z2
              · have e2 : j' = j := by have := HJ.out; omega
                subst e2
                rw [HQ.out] at z2
                cases z2
                exact HU.out⟩)
          clear hs HST
          gi_wp2
          exact FIN.out
        · rw [hk] at hat
          obtain ⟨g2, e5, t5⟩ := hat
          rw [e5] at HNX
          have HST := Lib.hid (nstep_some U.heap.size (fun _ => False) A m m (m + 1) wl (wl ++ [b]) U (Nat.le_refl _) (Wy.of_byt hyw) (by omega) rfl 38 (.pointer (some ⟨gq, 0, none⟩)) ow b rfl ⟨g2, 0, none⟩ (fun xs V => Tryz.call38 xs V) HNX)
          have hff := Fo.hi_full (c := on) HF.out
          obtain ⟨h7, h8⟩ := Fo.fst_head hff hk wl
          have HE := Lib.hid (show (olb (some (y, j2)) (wl ++ [b])).head? = o ∧ ofull (some (y, j2)) ∧ ∀ z ∈ olb (some (y, j2)) (wl ++ [b]), z.1.length ≤ 60000 from
            ⟨h7.symm.trans (HH.out.2 h8), Fo.fst_full hff hk, fun z hz => HM.out z (HH.out.1 z (Fo.fst_mem hk wl z hz))⟩)
          have HT5 := Lib.hid t5
          clear hk HNX hyw hm hff h7 h8 t5 e5
          gi_wp2_with fail
          refine ⟨trivial, round_deep (l := l), ?_⟩
          refine (CallsIn.inRound l (callsIn_wide.2 HST.out)).mono ?_
          rintro e U1 ⟨A2, cc, rfl, wy, k1⟩
          have kb1 : Below U.heap.size U U1 := k1.below (Nat.le_refl _) (fun _ q => q.elim)
          have H4 := nfirst_any U.heap.size (fun i => (False ∨ U.heap.size ≤ i) ∧ i < U1.heap.size) (some (y, j2)) (some ⟨g2, 0, none⟩) A2 (m + 1) cc (wl ++ [b]) U1 k1.size ⟨g2, rfl, (HT5.out.below (fun _ q => q) (kb1.mono HWU.out.size)).mono (fun i q => Nat.lt_of_lt_of_le q HWU.out.size)⟩ HE.out.2.1 HE.out.2.2 wy.less (fun i q => q.2)
          rw [HE.out.1] at H4
          have H4 := Lib.hid H4
          have KB1 := Lib.hid kb1
          clear wy k1 kb1 HST
          gi_wp2_with fail
          refine ⟨trivial, round_deep (l := l), ?_⟩
          refine (CallsIn.inRound l (callsIn_wide.2 H4.out)).mono ?_
          rintro e U2 ⟨A5, c5, rfl, y5, nc5, pb5, k5⟩
          have kb2 : Below U.heap.size U U2 := KB1.out.trans (k5.below KB1.out.size (fun i q => q.1.elim (fun q => q.elim) id))
          have hw5 : Below W.heap.size W U2 := HWU.out.trans (kb2.mono HWU.out.size)
          obtain ⟨r1, r2, r3, r4⟩ := HBW.out
          have j0 := r3.below hw5 (by omega)
          have j1 := r4.below hw5 (by omega)
          have d0 := j0.cell 0
          have d1 := j0.cell 1
          have d2 := j1.cell 0
          have z0 := j0.fz 0
          have z1 := j0.fz 1
          have z2 := j1.fz 0
          obtain ⟨v5, hv5⟩ : ∃ v, oV o = v := ⟨_, rfl⟩
          obtain ⟨n5, hn5⟩ : ∃ v, (oK o).length = v := ⟨_, rfl⟩
          obtain ⟨b5, hb5'⟩ : ∃ v, o.isSome = v := ⟨_, rfl⟩
          have hX := Lib.hid (EndX.made r1 r2 r3 r4 hw5 y5 nc5 (fun i hi => Nat.le_trans (Nat.le_trans HWU.out.size KB1.out.size) (pb5 i hi)) (Below.refl _ _) v5 hv5 n5 hn5 b5 hb5').1
          have hKO := Lib.hid (show KeepsOthers U U2 from ⟨kb2.size, fun i ob hi _ => (kb2.block i (Array.getElem?_eq_some_iff.1 hi).1).trans hi⟩)
          rw [hv5, hn5, hb5']
          clear kb2 hw5 r1 r2 r3 r4 j0 j1 y5 nc5 pb5 k5 hv5 hn5 hb5' H4
          gi_wp2
          exact ⟨((hKO.out.trans (KeepsOthers.setCell _ _ _)).trans (KeepsOthers.setCell _ _ _)).trans (KeepsOthers.setCell _ _ _), rfl, A5, c5, hX.out⟩
      case done =>
        rw [xsB_len]
        rintro D U hD ⟨i1, i2⟩ hK
        have hno : none = o := by
          rw [← HGE.out, up_left (k := gs.length) (j := 0) (fun j' q' h1 h2 => i2 j' q' h1 h2) (by omega)]
          rfl
        have hwU : Below w1.heap.size w1 U := (HC.out.trans (b2.mono HC.out.size)).trans (i1.mono (by have := HC.out.size; omega))
        have hWU : Below W.heap.size W U := B1.out.trans (hwU.mono B1.out.size)
        obtain ⟨r1, r2, r3, r4⟩ := HBW.out
        have j0 := r3.below hWU (by omega)
        have j1 := r4.below hWU (by omega)
        have d0 := j0.cell 0
        have d1 := j0.cell 1
        have d2 := j1.cell 0
        have z0 := j0.fz 0
        have z1 := j0.fz 1
        have z2 := j1.fz 0
        have hX := Lib.hid (EndX.made (o := none) (A5 := none) (c5 := 0) r1 r2 r3 r4 hWU Byt.none_ (Nat.le_refl _) (fun i q => absurd rfl q.1) (Below.refl _ _) 0 rfl 0 rfl false rfl).1
        have HK := Lib.hid hK
        have HNO := Lib.hid hno
        have HD := Lib.hid (Nat.le_trans HWV.out hD)
        clear hwU hWU r1 r2 r3 r4 j0 j1 hK hno i1 i2
        go_wp2
        obtain rfl : none = o := HNO.out
        have hK3 := (((KeepsOthers.setCell U ⟨w.heap.size, 0, none⟩ (.slice none 0 0)).trans (KeepsOthers.setCell _ ⟨w.heap.size, 1, none⟩ (.int .u64 0))).trans (KeepsOthers.setCell _ ⟨w.heap.size + 1, 0, none⟩ (.bool false))).same D _ HK.out rfl
        refine ⟨by simp, .inl ⟨_, _, rfl, run_takeDeferred hK3, ?_⟩⟩
        have hE := hX.out.step (Stp1.put_obj (n₀ := w.heap.size) (fun _ => False) (.deferred none) hK3 rfl HD.out) (Nat.le_refl _)
        exact ⟨_, hE.run rfl rfl rfl, hE.post⟩
      case stop =>
        rintro D cd U hD ⟨rfl, A5, c5, hE⟩ hK
        have HK := Lib.hid hK
        have HE := Lib.hid hE
        clear hK hE
        gi_wp2
        refine ⟨by simp, .inl ⟨_, _, rfl, run_takeDeferred HK.out, ?_⟩⟩
        have hE := HE.out.step (Stp1.put_obj (n₀ := w.heap.size) (fun _ => False) (.deferred none) HK.out rfl (Nat.le_trans HWV.out hD)) (Nat.le_refl _)
        exact ⟨_, hE.run rfl rfl rfl, hE.post⟩
end Go.Proofs.YtidiinededalmaaGreat
