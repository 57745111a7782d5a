/-
  find.Beginnings.
-/
import Derived.Test.YtfmkhafpbfmadaaGreatFnLook
import Derived.Test.YtfmkhafpbfmadaaGreatCanRead
import Derived.Test.YtfmkhafpbfmadaaGreatKrow
namespace Go.Proofs.YtfmkhafpbfmadaaGreat
open Go.RowKit Go.Shelf

/-- What Beginnings has heard: the key's box at block b, the row's box behind it. -/
def begJ (b : Nat) (A : Option Addr) (n c : Nat) (key : List UInt8) (l : List (Nat × Int)) (V : World) : Prop :=
  Blk V b #[.slice A n c] ∧ ∃ ys, Krow b V (· = b) (b + 1) 34 2 ys ∧ ys.map (fun y => (y.key, y.more)) = l.map fun p => (key.take p.1, [Value.int .u64 p.2])
theorem begJ.kept {b : Nat} {A : Option Addr} {n c : Nat} {key : List UInt8} {l : List (Nat × Int)} {V V' : World} (h : begJ b A n c key l V) (hb : Below V.heap.size V V') : begJ b A n c key l V' := by
  obtain ⟨h1, ys, h2, h3⟩ := h
  exact ⟨h1.below hb h1.lt, ys, h2.step (Stp1.of_kept (Kept.of_below hb) (fun i q => by omega) (Nat.le_of_lt h1.lt)) (fun i q => .inl q), h3⟩
set_option maxRecDepth 100000 in
set_option maxHeartbeats 2000000 in
theorem fbegs1_any {b : Nat} {A : Option Addr} {n c : Nat} {key : List UInt8} {l : List (Nat × Int)} {U : World} (h : begJ b A n c key l U) (hk : Byt U b A n key) (hnc : n ≤ c) (hn : n ≤ 1000000) (hl : l.length ≤ 1000001) (a : Nat) (v : Int) (ha : a ≤ n) :
    Calls Tryz.prog 34 #[.int .i64 (a : Int), .int .u64 v, .pointer (some ⟨b + 1, 0, none⟩), .pointer (some ⟨b, 0, none⟩)] U fun e V' => e = .returned (.tuple #[]) ∧ begJ b A n c key (l ++ [(a, v)]) V' ∧ Below b U V' := by
  obtain ⟨h1, ys, h2, h3⟩ := h
  obtain ⟨A0, c0', r1, r2, r3⟩ := h2.row
  have hys : ys.length = l.length := by
    have := congrArg List.length h3
    rwa [List.length_map, List.length_map] at this
  obtain ⟨u, hu⟩ : ∃ u, key.take a = u := ⟨_, rfl⟩
  have hul : u.length = a := by rw [← hu, List.length_take]; have := hk.1; omega
  have HU := Lib.hid (And.intro hu hul)
  have HYS := Lib.hid (show ys.length + 1 ≤ 16777216 by omega)
  have HNU := Lib.hid (Nat.le_of_lt h1.lt)
  have HBL := Lib.hid h1.lt
  have HBK := Lib.hid h1
  have ES := Lib.hid (show U.cell? ⟨b, 0, none⟩ = some (.slice A n c) from h1.cell 0)
  have I3 := Lib.hid h3
  have hbl := h1.lt
  have KP := Lib.hid (fun (W' : World) (hb : Below U.heap.size U W') => show W'.cell? ⟨b, 0, none⟩ = some (.slice A n c) from (hb.cell (p := ⟨b, 0, none⟩) hbl).trans (h1.cell 0))
  have KC := Lib.hid (fun (W' : World) (hb : Below U.heap.size U W') => show W'.cell? ⟨b + 1, 0, none⟩ = some (.slice A0 ys.length c0') from (hb.cell (p := ⟨b + 1, 0, none⟩) r1.lt).trans (r1.cell 0))
  have HC := Lib.hid (fun (W' : World) (hb : Below U.heap.size U W') => show Calls Tryz.prog 33 #[.slice A a c] W' fun e w' => ∃ A2 c2, e = .returned (.slice A2 u.length c2) ∧ Byt w' w'.heap.size A2 u.length u ∧ (∀ i, Pb A2 u i → U.heap.size ≤ i) ∧ Below W'.heap.size W' w' ∧ u.length ≤ c2 from
    (bcloner_any A a c b u W' (hu ▸ ((hk.below (hb.mono (Nat.le_of_lt hbl))).take ha)) (Nat.le_trans (Nat.le_of_lt hbl) hb.size) (by omega)).mono fun e w' ⟨A2, c2, q1, q2, q3, q4, q5⟩ => ⟨A2, c2, q1, q2, fun i hi => Nat.le_trans hb.size (q3 i hi), q4, q5⟩)
  have MR := Lib.hid (fun (W' : World) (hb : Below U.heap.size U W') => show MineR W' b 34 2 (.slice A0 ys.length c0') ys.length (ys.map Ky.cells) from r2.below hb (fun g hg => (r2.lt g hg).2))
  have KM := Lib.hid (fun (A2 : Option Addr) (c2 : Nat) (U3 U4 : World) (v3 : Value) (hb : Below U.heap.size U U3) (z1 : Byt U3 U3.heap.size A2 u.length u) (z2 : ∀ i, Pb A2 u i → U.heap.size ≤ i) (z4 : u.length ≤ c2) (m3 : MineR U4 b 34 2 v3 (ys.length + 1) (ys.map Ky.cells ++ [[.slice A2 u.length c2, .int .u64 v]])) (g3 : U3.grownBy U4 (Value.slice A0 ys.length c0').ownBlock) (o3 : v3.ownBlock = (Value.slice A0 ys.length c0').ownBlock ∨ v3.ownBlock = some U3.heap.size) => Krow.more h2 hb (fun i q => by omega) ⟨A2, c2, u, [.int .u64 v]⟩ z1 z2 z4 (r1.cell 0) m3 g3 o3)
  have hsl := fun V => slc_upto (P := Tryz.prog) Tryz.underlying23 size_u8 A n c a (by omega) V
  clear h1 h2 h3 r1 r2 r3 hys hul hu hk hbl hl
  go_enter Tryz.func34, Tryz.ntmps34
  refine wp_region_held_drew (S := (fun w' => w'.cell? ⟨b, 0, none⟩ = some (.slice A n c))) (by kernel_rfl) (KP.out _ ((Below.refl U.heap.size U).drew)) (fun hHeld => ?_)
  refine wpAnyH_take (i := 1) (oi := { dst := some 7, op := Op.load 23 (Operand.tmp 3), type := 23, pos := "find.go:43", after := #[], guard := none }) (v := ?v1) rfl (by kernel_rfl) (by kernel_rfl) (by kernel_rfl) (fun _ _ _ h => h) (Or.inl ⟨by rfl, ?hy1⟩) hHeld ?rest1
  case hy1 => (intro w' hSw; (try dsimp only at hSw); go_simp; (try with_reducible rfl))
  try simp only [Act.put, List.setIfInBounds_toArray, List.set_cons_zero, List.set_cons_succ]
  refine wpAnyH_take (i := 2) (oi := { dst := some 8, op := Op.move (Operand.tmp 0), type := 3, pos := "find.go:43", after := #[], guard := none }) (v := ?v2) rfl (by kernel_rfl) (by kernel_rfl) (by kernel_rfl) (fun _ _ _ h => h) (Or.inl ⟨by rfl, ?hy2⟩) hHeld ?rest2
  case hy2 => (intro w' hSw; (try dsimp only at hSw); go_simp; (try with_reducible rfl))
  try simp only [Act.put, List.setIfInBounds_toArray, List.set_cons_zero, List.set_cons_succ]
  refine wpAnyH_take (i := 3) (oi := { dst := some 9, op := Op.slice 23 (Operand.tmp 7) none (some (Operand.tmp 8)) none, type := 23, pos := "find.go:43", after := #[{ on := 1, ground := Ground.data }, { on := 2, ground := Ground.data }], guard := none }) (v := .slice A a c) rfl (by kernel_rfl) (by kernel_rfl) (by kernel_rfl) (fun _ _ _ h => h) (Or.inl ⟨by rfl, ?hyV⟩) hHeld ?_
  case hyV => (intro w' hSw; (try dsimp only at hSw); go_simp; (try with_reducible rfl))
  try simp only [Act.put, List.setIfInBounds_toArray, List.set_cons_zero, List.set_cons_succ]
  refine wpAnyH_take (i := 5) (oi := { dst := some 11, op := Op.move (Operand.tmp 1), type := 29, pos := "find.go:43", after := #[], guard := none }) (v := ?v3) rfl (by kernel_rfl) (by kernel_rfl) (by kernel_rfl) (fun _ _ _ h => h) (Or.inl ⟨by rfl, ?hy3⟩) hHeld ?rest3
  case hy3 => (intro w' hSw; (try dsimp only at hSw); go_simp; (try with_reducible rfl))
  try simp only [Act.put, List.setIfInBounds_toArray, List.set_cons_zero, List.set_cons_succ]
  refine wpAnyH_ready (rs := [0, 4]) (by kernel_rfl) (by simp) (AllReadyH.cons (o := { dst := some 6, op := Op.load 40 (Operand.tmp 2), type := 40, pos := "find.go:43", after := #[], guard := none }) rfl (fun K hK => ?_) (AllReadyH.cons (o := { dst := some 10, op := Op.call { callee := Callee.value (Operand.func 33), args := #[Operand.tmp 9], argTypes := #[23] }, type := 23, pos := "find.go:43", after := #[{ on := 3, ground := Ground.data }], guard := none }) rfl (fun K hK => ?_) AllReadyH.nil))
  · have cz := KC.out _ ((Below.refl U.heap.size U).drew)
    go_simp
    refine hK.out _ _ (KP.out _ ((Below.refl U.heap.size U).drew)) (fun hHeld' => ?_)
    clear hK K hHeld
    have hHeld := hHeld'
    clear hHeld'
    try simp only [Act.put, List.setIfInBounds_toArray, List.set_cons_zero, List.set_cons_succ]
    refine wpAnyH_ready (rs := [4]) (by kernel_rfl) (by simp) (AllReadyH.cons (o := { dst := some 10, op := Op.call { callee := Callee.value (Operand.func 33), args := #[Operand.tmp 9], argTypes := #[23] }, type := 23, pos := "find.go:43", after := #[{ on := 3, ground := Ground.data }], guard := none }) rfl (fun K hK => ?_) AllReadyH.nil)
    go_simp
    (with_reducible refine (HC.out _ ((Below.refl U.heap.size U).drew)).mono ?_)
    rintro e U2 ⟨A2, c2, rfl, z1, z2, z3, z4⟩
    have Z1 := Lib.hid z1
    have Z2 := Lib.hid (show ∀ i, Pb A2 u i → U.heap.size ≤ i from z2)
    have Z3 := Lib.hid ((((Below.refl U.heap.size U).drew)).trans (z3.mono (((Below.refl U.heap.size U).drew)).size))
    have Z4 := Lib.hid z4
    clear z1 z2 z3 z4
    go_wp2_with fail
    refine hK.out _ _ (KP.out _ Z3.out) (fun hHeld' => ?_)
    clear hK K hHeld
    have hHeld := hHeld'
    clear hHeld'
    try simp only [Act.put, List.setIfInBounds_toArray, List.set_cons_zero, List.set_cons_succ]
    refine wpAnyH_take (i := 6) (oi := { dst := some 12, op := Op.build 34 #[(0, Operand.tmp 10), (1, Operand.tmp 11)], type := 34, pos := "find.go:43", after := #[{ on := 4, ground := Ground.data }, { on := 5, ground := Ground.data }], guard := none }) (v := ?v4) rfl (by kernel_rfl) (by kernel_rfl) (by kernel_rfl) (fun _ _ _ h => h) (Or.inl ⟨by rfl, ?hy4⟩) hHeld ?rest4
    case hy4 => (intro w' hSw; (try dsimp only at hSw); go_simp; (try with_reducible rfl))
    try simp only [Act.put, List.setIfInBounds_toArray, List.set_cons_zero, List.set_cons_succ]
    refine wpAnyH_ready (rs := [7]) (by kernel_rfl) (by simp) (AllReadyH.cons (o := { dst := some 13, op := Op.buildSlice 40 1 #[(0, Operand.tmp 12)], type := 40, pos := "find.go:43", after := #[{ on := 6, ground := Ground.data }], guard := none }) rfl (fun K hK => ?_) AllReadyH.nil)
    go_simp
    obtain ⟨U3, hU3⟩ : ∃ W, U2.alloc (.cells #[.slice A2 u.length c2, .int .u64 v] 34) = W := ⟨_, rfl⟩
    have B3 := Lib.hid (show Below U.heap.size U U3 by rw [← hU3]; exact (Z3.out).alloc (Z3.out).size _)
    have LB := Lib.hid (show Blk U3 U2.heap.size #[.slice A2 u.length c2, .int .u64 v] by rw [← hU3]; exact Blk.new _ _ _)
    have Z1' := Lib.hid (show Byt U3 U3.heap.size A2 u.length u by rw [← hU3]; exact (Byt.alloc (B := U2.heap.size) (Z1.out.more (Nat.le_refl _)) (Nat.le_refl _) _).more (by simp))
    rw [hU3]
    clear hU3
    refine hK.out _ _ (KP.out _ B3.out) (fun hHeld' => ?_)
    clear hK K hHeld
    have hHeld := hHeld'
    clear hHeld'
    try simp only [Act.put, List.setIfInBounds_toArray, List.set_cons_zero, List.set_cons_succ]
    refine wpAnyH_ready (rs := [8]) (by kernel_rfl) (by simp) (AllReadyH.cons (o := { dst := some 14, op := Op.call { callee := Callee.builtin Builtin.append, args := #[Operand.tmp 6, Operand.tmp 13], argTypes := #[40, 40] }, type := 40, pos := "find.go:43", after := #[{ on := 0, ground := Ground.data }, { on := 7, ground := Ground.data }, { on := 4, ground := Ground.chain }], guard := none }) rfl (fun K hK => ?_) AllReadyH.nil)
    rw [if_pos (by rfl)]
    refine wp_append_rws _ (.tmp 6) (.tmp 13) _ rfl Tryz.underlying40 info_pair (by rfl) (by decide) b (.slice A0 ys.length c0') ys.length (ys.map Ky.cells) (by rfl) (MR.out _ B3.out) ⟨U2.heap.size, 0, none⟩ 1 [.slice A2 u.length c2, .int .u64 v] (by rfl) (by rfl) (lit_cells LB.out) (by intro u hu; simp at hu; rcases hu with rfl | rfl <;> rfl) (by have := HYS.out; omega) (by have := HYS.out; unfold maxLen; omega) (by have := B3.out.size; have := HNU.out; omega) ?_
    intro v3 U4 m3 g3 o3
    obtain ⟨A3, c3, rfl, _⟩ := m3.slice
    obtain ⟨x1, x2, x3, x4, x5, x6, x7⟩ := KM.out A2 c2 U3 U4 _ B3.out Z1'.out Z2.out Z4.out m3 g3 o3
    have E1 := Lib.hid x3
    have E2 := Lib.hid x4
    have S4 := Lib.hid (show U4.cell? ⟨b, 0, none⟩ = some (.slice A n c) from (x6.cell (p := ⟨b, 0, none⟩) HBL.out (fun q => x7 _ q rfl)).trans ES.out)
    have S6 := Lib.hid (show (U4.setCell ⟨b + 1, 0, none⟩ (.slice A3 (ys.length + 1) c3)).cell? ⟨b, 0, none⟩ = some (.slice A n c) from (World.cell?_setCell_far _ _ _ _ (fun e => by simp at e)).trans S4.out)
    have c4 := x1
    have z4 := x2
    clear m3 g3 o3 x1 x2 x3 x4 x5 x6 x7
    refine hK.out _ _ S4.out (fun hHeld' => ?_)
    clear hK K hHeld
    have hHeld := hHeld'
    clear hHeld'
    try simp only [Act.put, List.setIfInBounds_toArray, List.set_cons_zero, List.set_cons_succ]
    refine wpAnyH_ready (rs := [9]) (by kernel_rfl) (by simp) (AllReadyH.cons (o := { dst := none, op := Op.store 40 (Operand.tmp 2) (Operand.tmp 14), type := 0, pos := "find.go:43", after := #[{ on := 8, ground := Ground.data }, { on := 8, ground := Ground.chain }, { on := 0, ground := Ground.phase }, { on := 1, ground := Ground.phase }, { on := 2, ground := Ground.phase }, { on := 3, ground := Ground.phase }, { on := 4, ground := Ground.phase }, { on := 5, ground := Ground.phase }, { on := 6, ground := Ground.phase }, { on := 7, ground := Ground.phase }, { on := 8, ground := Ground.phase }], guard := none }) rfl (fun K hK => ?_) AllReadyH.nil)
    go_simp
    refine hK.out _ _ S6.out (fun hHeld' => ?_)
    clear hK K hHeld
    have hHeld := hHeld'
    clear hHeld'
    try simp only [Act.put, List.setIfInBounds_toArray, List.set_cons_zero, List.set_cons_succ]
    refine wpAnyH_done (by kernel_rfl) ?_ _
    go_wp2
    go_end0
    exact ⟨rfl, ⟨E2.out.blk HBK.out (fun q => q.2 rfl), ys ++ [⟨A2, c2, u, [.int .u64 v]⟩], E1.out, by rw [List.map_append, List.map_append, I3.out, ← HU.out.1]; rfl⟩, E2.out.below HNU.out (fun i q => q.1)⟩
  · go_simp
    (with_reducible refine (HC.out _ ((Below.refl U.heap.size U).drew)).mono ?_)
    rintro e U2 ⟨A2, c2, rfl, z1, z2, z3, z4⟩
    have Z1 := Lib.hid z1
    have Z2 := Lib.hid (show ∀ i, Pb A2 u i → U.heap.size ≤ i from z2)
    have Z3 := Lib.hid ((((Below.refl U.heap.size U).drew)).trans (z3.mono (((Below.refl U.heap.size U).drew)).size))
    have Z4 := Lib.hid z4
    clear z1 z2 z3 z4
    go_wp2_with fail
    refine hK.out _ _ (KP.out _ Z3.out) (fun hHeld' => ?_)
    clear hK K hHeld
    have hHeld := hHeld'
    clear hHeld'
    try simp only [Act.put, List.setIfInBounds_toArray, List.set_cons_zero, List.set_cons_succ]
    refine wpAnyH_take (i := 6) (oi := { dst := some 12, op := Op.build 34 #[(0, Operand.tmp 10), (1, Operand.tmp 11)], type := 34, pos := "find.go:43", after := #[{ on := 4, ground := Ground.data }, { on := 5, ground := Ground.data }], guard := none }) (v := ?v5) rfl (by kernel_rfl) (by kernel_rfl) (by kernel_rfl) (fun _ _ _ h => h) (Or.inl ⟨by rfl, ?hy5⟩) hHeld ?rest5
    case hy5 => (intro w' hSw; (try dsimp only at hSw); go_simp; (try with_reducible rfl))
    try simp only [Act.put, List.setIfInBounds_toArray, List.set_cons_zero, List.set_cons_succ]
    refine wpAnyH_ready (rs := [0, 7]) (by kernel_rfl) (by simp) (AllReadyH.cons (o := { dst := some 6, op := Op.load 40 (Operand.tmp 2), type := 40, pos := "find.go:43", after := #[], guard := none }) rfl (fun K hK => ?_) (AllReadyH.cons (o := { dst := some 13, op := Op.buildSlice 40 1 #[(0, Operand.tmp 12)], type := 40, pos := "find.go:43", after := #[{ on := 6, ground := Ground.data }], guard := none }) rfl (fun K hK => ?_) AllReadyH.nil))
    · have cz := KC.out _ Z3.out
      go_simp
      refine hK.out _ _ (KP.out _ Z3.out) (fun hHeld' => ?_)
      clear hK K hHeld
      have hHeld := hHeld'
      clear hHeld'
      try simp only [Act.put, List.setIfInBounds_toArray, List.set_cons_zero, List.set_cons_succ]
      refine wpAnyH_ready (rs := [7]) (by kernel_rfl) (by simp) (AllReadyH.cons (o := { dst := some 13, op := Op.buildSlice 40 1 #[(0, Operand.tmp 12)], type := 40, pos := "find.go:43", after := #[{ on := 6, ground := Ground.data }], guard := none }) rfl (fun K hK => ?_) AllReadyH.nil)
      go_simp
      obtain ⟨U3, hU3⟩ : ∃ W, U2.alloc (.cells #[.slice A2 u.length c2, .int .u64 v] 34) = W := ⟨_, rfl⟩
      have B3 := Lib.hid (show Below U.heap.size U U3 by rw [← hU3]; exact (Z3.out).alloc (Z3.out).size _)
      have LB := Lib.hid (show Blk U3 U2.heap.size #[.slice A2 u.length c2, .int .u64 v] by rw [← hU3]; exact Blk.new _ _ _)
      have Z1' := Lib.hid (show Byt U3 U3.heap.size A2 u.length u by rw [← hU3]; exact (Byt.alloc (B := U2.heap.size) (Z1.out.more (Nat.le_refl _)) (Nat.le_refl _) _).more (by simp))
      rw [hU3]
      clear hU3
      refine hK.out _ _ (KP.out _ B3.out) (fun hHeld' => ?_)
      clear hK K hHeld
      have hHeld := hHeld'
      clear hHeld'
      try simp only [Act.put, List.setIfInBounds_toArray, List.set_cons_zero, List.set_cons_succ]
      refine wpAnyH_ready (rs := [8]) (by kernel_rfl) (by simp) (AllReadyH.cons (o := { dst := some 14, op := Op.call { callee := Callee.builtin Builtin.append, args := #[Operand.tmp 6, Operand.tmp 13], argTypes := #[40, 40] }, type := 40, pos := "find.go:43", after := #[{ on := 0, ground := Ground.data }, { on := 7, ground := Ground.data }, { on := 4, ground := Ground.chain }], guard := none }) rfl (fun K hK => ?_) AllReadyH.nil)
      rw [if_pos (by rfl)]
      refine wp_append_rws _ (.tmp 6) (.tmp 13) _ rfl Tryz.underlying40 info_pair (by rfl) (by decide) b (.slice A0 ys.length c0') ys.length (ys.map Ky.cells) (by rfl) (MR.out _ B3.out) ⟨U2.heap.size, 0, none⟩ 1 [.slice A2 u.length c2, .int .u64 v] (by rfl) (by rfl) (lit_cells LB.out) (by intro u hu; simp at hu; rcases hu with rfl | rfl <;> rfl) (by have := HYS.out; omega) (by have := HYS.out; unfold maxLen; omega) (by have := B3.out.size; have := HNU.out; omega) ?_
      intro v3 U4 m3 g3 o3
      obtain ⟨A3, c3, rfl, _⟩ := m3.slice
      obtain ⟨x1, x2, x3, x4, x5, x6, x7⟩ := KM.out A2 c2 U3 U4 _ B3.out Z1'.out Z2.out Z4.out m3 g3 o3
      have E1 := Lib.hid x3
      have E2 := Lib.hid x4
      have S4 := Lib.hid (show U4.cell? ⟨b, 0, none⟩ = some (.slice A n c) from (x6.cell (p := ⟨b, 0, none⟩) HBL.out (fun q => x7 _ q rfl)).trans ES.out)
      have S6 := Lib.hid (show (U4.setCell ⟨b + 1, 0, none⟩ (.slice A3 (ys.length + 1) c3)).cell? ⟨b, 0, none⟩ = some (.slice A n c) from (World.cell?_setCell_far _ _ _ _ (fun e => by simp at e)).trans S4.out)
      have c4 := x1
      have z4 := x2
      clear m3 g3 o3 x1 x2 x3 x4 x5 x6 x7
      refine hK.out _ _ S4.out (fun hHeld' => ?_)
      clear hK K hHeld
      have hHeld := hHeld'
      clear hHeld'
      try simp only [Act.put, List.setIfInBounds_toArray, List.set_cons_zero, List.set_cons_succ]
      refine wpAnyH_ready (rs := [9]) (by kernel_rfl) (by simp) (AllReadyH.cons (o := { dst := none, op := Op.store 40 (Operand.tmp 2) (Operand.tmp 14), type := 0, pos := "find.go:43", after := #[{ on := 8, ground := Ground.data }, { on := 8, ground := Ground.chain }, { on := 0, ground := Ground.phase }, { on := 1, ground := Ground.phase }, { on := 2, ground := Ground.phase }, { on := 3, ground := Ground.phase }, { on := 4, ground := Ground.phase }, { on := 5, ground := Ground.phase }, { on := 6, ground := Ground.phase }, { on := 7, ground := Ground.phase }, { on := 8, ground := Ground.phase }], guard := none }) rfl (fun K hK => ?_) AllReadyH.nil)
      go_simp
      refine hK.out _ _ S6.out (fun hHeld' => ?_)
      clear hK K hHeld
      have hHeld := hHeld'
      clear hHeld'
      try simp only [Act.put, List.setIfInBounds_toArray, List.set_cons_zero, List.set_cons_succ]
      refine wpAnyH_done (by kernel_rfl) ?_ _
      go_wp2
      go_end0
      exact ⟨rfl, ⟨E2.out.blk HBK.out (fun q => q.2 rfl), ys ++ [⟨A2, c2, u, [.int .u64 v]⟩], E1.out, by rw [List.map_append, List.map_append, I3.out, ← HU.out.1]; rfl⟩, E2.out.below HNU.out (fun i q => q.1)⟩
    · go_simp
      obtain ⟨U3, hU3⟩ : ∃ W, U2.alloc (.cells #[.slice A2 u.length c2, .int .u64 v] 34) = W := ⟨_, rfl⟩
      have B3 := Lib.hid (show Below U.heap.size U U3 by rw [← hU3]; exact (Z3.out).alloc (Z3.out).size _)
      have LB := Lib.hid (show Blk U3 U2.heap.size #[.slice A2 u.length c2, .int .u64 v] by rw [← hU3]; exact Blk.new _ _ _)
      have Z1' := Lib.hid (show Byt U3 U3.heap.size A2 u.length u by rw [← hU3]; exact (Byt.alloc (B := U2.heap.size) (Z1.out.more (Nat.le_refl _)) (Nat.le_refl _) _).more (by simp))
      rw [hU3]
      clear hU3
      refine hK.out _ _ (KP.out _ B3.out) (fun hHeld' => ?_)
      clear hK K hHeld
      have hHeld := hHeld'
      clear hHeld'
      try simp only [Act.put, List.setIfInBounds_toArray, List.set_cons_zero, List.set_cons_succ]
      refine wpAnyH_ready (rs := [0]) (by kernel_rfl) (by simp) (AllReadyH.cons (o := { dst := some 6, op := Op.load 40 (Operand.tmp 2), type := 40, pos := "find.go:43", after := #[], guard := none }) rfl (fun K hK => ?_) AllReadyH.nil)
      have cz := KC.out _ B3.out
      go_simp
      refine hK.out _ _ (KP.out _ B3.out) (fun hHeld' => ?_)
      clear hK K hHeld
      have hHeld := hHeld'
      clear hHeld'
      try simp only [Act.put, List.setIfInBounds_toArray, List.set_cons_zero, List.set_cons_succ]
      refine wpAnyH_ready (rs := [8]) (by kernel_rfl) (by simp) (AllReadyH.cons (o := { dst := some 14, op := Op.call { callee := Callee.builtin Builtin.append, args := #[Operand.tmp 6, Operand.tmp 13], argTypes := #[40, 40] }, type := 40, pos := "find.go:43", after := #[{ on := 0, ground := Ground.data }, { on := 7, ground := Ground.data }, { on := 4, ground := Ground.chain }], guard := none }) rfl (fun K hK => ?_) AllReadyH.nil)
      rw [if_pos (by rfl)]
      refine wp_append_rws _ (.tmp 6) (.tmp 13) _ rfl Tryz.underlying40 info_pair (by rfl) (by decide) b (.slice A0 ys.length c0') ys.length (ys.map Ky.cells) (by rfl) (MR.out _ B3.out) ⟨U2.heap.size, 0, none⟩ 1 [.slice A2 u.length c2, .int .u64 v] (by rfl) (by rfl) (lit_cells LB.out) (by intro u hu; simp at hu; rcases hu with rfl | rfl <;> rfl) (by have := HYS.out; omega) (by have := HYS.out; unfold maxLen; omega) (by have := B3.out.size; have := HNU.out; omega) ?_
      intro v3 U4 m3 g3 o3
      obtain ⟨A3, c3, rfl, _⟩ := m3.slice
      obtain ⟨x1, x2, x3, x4, x5, x6, x7⟩ := KM.out A2 c2 U3 U4 _ B3.out Z1'.out Z2.out Z4.out m3 g3 o3
      have E1 := Lib.hid x3
      have E2 := Lib.hid x4
      have S4 := Lib.hid (show U4.cell? ⟨b, 0, none⟩ = some (.slice A n c) from (x6.cell (p := ⟨b, 0, none⟩) HBL.out (fun q => x7 _ q rfl)).trans ES.out)
      have S6 := Lib.hid (show (U4.setCell ⟨b + 1, 0, none⟩ (.slice A3 (ys.length + 1) c3)).cell? ⟨b, 0, none⟩ = some (.slice A n c) from (World.cell?_setCell_far _ _ _ _ (fun e => by simp at e)).trans S4.out)
      have c4 := x1
      have z4 := x2
      clear m3 g3 o3 x1 x2 x3 x4 x5 x6 x7
      refine hK.out _ _ S4.out (fun hHeld' => ?_)
      clear hK K hHeld
      have hHeld := hHeld'
      clear hHeld'
      try simp only [Act.put, List.setIfInBounds_toArray, List.set_cons_zero, List.set_cons_succ]
      refine wpAnyH_ready (rs := [9]) (by kernel_rfl) (by simp) (AllReadyH.cons (o := { dst := none, op := Op.store 40 (Operand.tmp 2) (Operand.tmp 14), type := 0, pos := "find.go:43", after := #[{ on := 8, ground := Ground.data }, { on := 8, ground := Ground.chain }, { on := 0, ground := Ground.phase }, { on := 1, ground := Ground.phase }, { on := 2, ground := Ground.phase }, { on := 3, ground := Ground.phase }, { on := 4, ground := Ground.phase }, { on := 5, ground := Ground.phase }, { on := 6, ground := Ground.phase }, { on := 7, ground := Ground.phase }, { on := 8, ground := Ground.phase }], guard := none }) rfl (fun K hK => ?_) AllReadyH.nil)
      go_simp
      refine hK.out _ _ S6.out (fun hHeld' => ?_)
      clear hK K hHeld
      have hHeld := hHeld'
      clear hHeld'
      try simp only [Act.put, List.setIfInBounds_toArray, List.set_cons_zero, List.set_cons_succ]
      refine wpAnyH_done (by kernel_rfl) ?_ _
      go_wp2
      go_end0
      exact ⟨rfl, ⟨E2.out.blk HBK.out (fun q => q.2 rfl), ys ++ [⟨A2, c2, u, [.int .u64 v]⟩], E1.out, by rw [List.map_append, List.map_append, I3.out, ← HU.out.1]; rfl⟩, E2.out.below HNU.out (fun i q => q.1)⟩
set_option maxRecDepth 100000 in
set_option maxHeartbeats 1000000 in
theorem fbegs_any (t : Option (Nn × Fo)) (p A : Option Addr) (n c : Nat) (key : List UInt8) (w : World) (ht : OTre w (· < w.heap.size) t p) (hk : Byt w w.heap.size A n key) (hnc : n ≤ c) (hn : n ≤ 1000000) :
    Calls Tryz.prog 15 #[.pointer p, .slice A n c] w fun e w' => ∃ A' c' ys, e = .returned (.slice A' ys.length c') ∧ ys.length ≤ c' ∧ Kys w' w'.heap.size A' 2 ys ∧ ys.map (fun y => (y.key, y.more)) = ((ogo t key 0).filterMap id).map (fun p => (key.take p.1, [Value.int .u64 p.2])) ∧ Below w.heap.size w w' := by
  obtain ⟨W, hW⟩ : ∃ W, (w.alloc (.cells #[.slice A n c] 23)).alloc (.cells #[.slice none 0 0] 40) = W := ⟨_, rfl⟩
  have hb : Below w.heap.size w W := by rw [← hW]; exact ((Below.refl _ _).alloc (Nat.le_refl _) _).alloc (by simp) _
  have hj : begJ w.heap.size A n c key [] W := by
    rw [← hW]
    refine ⟨(Blk.new w _ _).alloc _, [], Krow.nil _ _ ?_ (by omega) (by omega), rfl⟩
    have := Blk.new (w.alloc (.cells #[.slice A n c] 23)) 40 #[.slice none 0 0]
    rw [World.size_alloc] at this
    exact this
  have hsz : W.heap.size = w.heap.size + 2 := by rw [← hW]; simp
  have hears : Hears w.heap.size W 34 #[.pointer (some ⟨w.heap.size + 1, 0, none⟩), .pointer (some ⟨w.heap.size, 0, none⟩)] (ogo t key 0) (begJ w.heap.size A n c key) :=
    ⟨fun xs V => Tryz.call34 xs V, fun l V V' h _ hV => h.kept hV, fun pre post a v V e h hV _ => by
      rw [List.filterMap_append]
      refine fbegs1_any h ((hk.below hb).below hV) hnc hn ?_ a v ?_
      · have h1 := ogo_len t key 0
        have h2 := congrArg List.length e
        have h3 : (pre.filterMap id).length ≤ pre.length := List.length_filterMap_le _ _
        have h4 := hk.1
        rw [List.length_append, List.length_cons] at h2
        omega
      · have h1 := ogo_le t key 0 (a, v) (by rw [e, List.filterMap_append]; simp)
        have h4 := hk.1
        simp only at h1
        omega⟩
  have hlook := flook_any w.heap.size _ _ t p A n c key (begJ w.heap.size A n c key) W (by omega) (otre_on ht hb) (hk.below hb) hnc hn hears hj
  obtain ⟨L, hL⟩ : ∃ L, (ogo t key 0).filterMap id = L := ⟨_, rfl⟩
  rw [hL] at hlook ⊢
  have HL := Lib.hid hlook
  have HW := Lib.hid hW
  have HB := Lib.hid hb
  clear hears hj hb ht hk hW hlook hL
  go_enter Tryz.func15, Tryz.ntmps15
  go_wp2_with fail
  rw [HW.out]
  (with_reducible refine HL.out.mono ?_)
  rintro e w1 ⟨rfl, ⟨_, ys, j2, j3⟩, b1⟩
  obtain ⟨A0, c0', k1, k2, k3⟩ := j2.kys
  have KY := Lib.hid k3
  have KN := Lib.hid k2
  have J3 := Lib.hid j3
  have B1 := Lib.hid (HB.out.trans b1)
  clear j2 j3 b1 k2 k3 HL
  go_wp2
  go_ret
  exact ⟨A0, c0', ys, rfl, KN.out, KY.out, J3.out, B1.out⟩
end Go.Proofs.YtfmkhafpbfmadaaGreat
