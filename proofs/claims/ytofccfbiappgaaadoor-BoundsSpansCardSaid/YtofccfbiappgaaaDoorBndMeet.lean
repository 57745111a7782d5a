/-
  What bounds' firstEnd and Meet answer.
-/
import Derived.Test.YtofccfbiappgaaaDoorBnd
namespace Go.Proofs.YtofccfbiappgaaaDoor
open Go.RowKit

theorem end_is {a b : Sp} {d : Bool} (ha : a.o = false) (hb : b.o = false) (h : decide (cmpL a.t b.t < 0) = d) : endT a b = if d = true then a.t else b.t := by
  subst h
  unfold endT
  rw [ha, hb]
  have f := cmpL_flip a.t b.t
  by_cases h : cmpL a.t b.t < 0
  · simp [h, show ¬ cmpL b.t a.t < 0 from by omega]
  · by_cases h' : cmpL b.t a.t < 0
    · simp [h, h']
    · simp [cmpL_zero.1 (show cmpL a.t b.t = 0 from by omega)]
theorem late_is {a b : List UInt8} {d : Bool} (h : decide (cmpL a b < 0) = d) : lateF a b = if d = true then b else a := by
  subst h
  unfold lateF
  have f := cmpL_flip a b
  by_cases h : cmpL a b < 0
  · simp [h, show 0 < cmpL b a from by omega]
  · simp [h, show ¬ 0 < cmpL b a from by omega]
/-- What firstEnd leaves: a last key that came in, or nil. -/
def EndPost (w : World) (l : List UInt8) (o : Bool) (e : Ending) (w' : World) : Prop := ∃ A n c, e = .returned (.tuple #[.slice A n c, .bool o]) ∧ Byt w' w.heap.size A n l ∧ Below w.heap.size w w'
theorem EndPost.of {w w' : World} {l l' : List UInt8} {A : Option Addr} {n c : Nat} {o o' : Bool} (hl : l = l') (ho : o = o') (h : Byt w' w.heap.size A n l) (hb : Below w.heap.size w w') : EndPost w l' o' (.returned (.tuple #[.slice A n c, .bool o])) w' := by
  subst hl ho
  exact ⟨_, _, _, rfl, h, hb⟩

set_option maxRecDepth 100000 in
set_option maxHeartbeats 2000000 in
theorem end_any (A A' D D' : Option Addr) (n c n' c' m d m' d' B : Nat) (f t f2 t2 : List UInt8) (o o2 : Bool) (w : World) (hf : Byt w B A n f) (ht : Byt w B A' n' t) (hf2 : Byt w B D m f2) (ht2 : Byt w B D' m' t2) (hB : B ≤ w.heap.size) :
    Calls Tryd.prog 36 #[.agg #[.slice A n c, .slice A' n' c', .bool o], .agg #[.slice D m d, .slice D' m' d', .bool o2]] w (EndPost w (endT ⟨f, t, o⟩ ⟨f2, t2, o2⟩) (o && o2)) := by
  have HA := Lib.hid (fun V (h : Below w.heap.size w V) => And.intro (And.intro ((hf.more hB).below h) ((ht.more hB).below h)) (And.intro ((hf2.more hB).below h) ((ht2.more hB).below h)))
  clear hf ht hf2 ht2
  generalize hW : (w.alloc (.cells #[.slice A n c, .slice A' n' c', .bool o] 28)).alloc (.cells #[.slice D m d, .slice D' m' d', .bool o2] 28) = W
  have hT : Three W w.heap.size (.slice A n c) (.slice A' n' c') (.bool o) := by subst hW; exact (Three.new _ _ _ _ _).alloc _
  have hU : Three W (w.heap.size + 1) (.slice D m d) (.slice D' m' d') (.bool o2) := by subst hW; have := Three.new (w.alloc (.cells #[.slice A n c, .slice A' n' c', .bool o] 28)) 28 (.slice D m d) (.slice D' m' d') (.bool o2); rwa [World.size_alloc] at this
  have HB := Lib.hid (show Below w.heap.size w W from by subst hW; exact ((Below.refl _ _).alloc (Nat.le_refl _) _).alloc (by simp) _)
  have a1 := hT.t1
  have a2 := hT.t2
  have b1 := hU.t1
  have b2 := hU.t2
  have hlt := hT.lt
  have hlu := hU.lt
  clear hT hU
  generalize hd : decide (cmpL t t2 < 0) = dd
  have HD := Lib.hid hd
  clear hd
  cases o with
  | true =>
    cases o2 with
    | true =>
      go_enter Tryd.func36, Tryd.ntmps36
      go_wp2
      go_ret2
      exact EndPost.of (l := []) rfl rfl Byt.none_ HB.out
    | false =>
      go_enter Tryd.func36, Tryd.ntmps36
      go_wp2
      go_ret2
      exact EndPost.of (l := t2) rfl rfl (HA.out _ HB.out).2.2 HB.out
  | false =>
    cases o2 with
    | true =>
      go_enter Tryd.func36, Tryd.ntmps36
      go_wp2_with fail
      clear hW
      go_quiet (fail)
      go_wp2
      go_ret2
      exact EndPost.of (l := t) rfl rfl (HA.out _ (by repeat (first | exact HB.out | apply below_drewN | apply Below.drew))).1.2 (by repeat (first | exact HB.out | apply below_drewN | apply Below.drew))
    | false =>
      have HE := Lib.hid (end_is (a := ⟨f, t, false⟩) (b := ⟨f2, t2, false⟩) rfl rfl HD.out)
      go_enter Tryd.func36, Tryd.ntmps36
      go_wp2_with fail
      clear hW
      go_region_held3 (fun w' => w'.cell? ⟨w.heap.size, 1, none⟩ = some (.slice A' n' c') ∧ w'.cell? ⟨w.heap.size + 1, 1, none⟩ = some (.slice D' m' d') ∧ w'.cell? ⟨w.heap.size + 1, 2, none⟩ = some (.bool false))
        (first | go_keep | exact ⟨(h1.cell (p := ⟨w.heap.size, 1, none⟩) hlt).trans a1, (h1.cell (p := ⟨w.heap.size + 1, 1, none⟩) hlu).trans b1, (h1.cell (p := ⟨w.heap.size + 1, 2, none⟩) hlu).trans b2⟩)
        (first
          | (go_at_call 33; refine (ahead_any D' m' d' _).mono ?_; rintro e v1 ⟨rfl, hg, h1⟩; have B1 := Lib.hid (Below.trans (by repeat (first | exact HB.out | apply below_drewN | apply Below.drew)) (h1.mono HB.out.size)))
          | (go_at_call 42; refine (ahead1_any A' D' n' c' m' d' w.heap.size _ t t2 dd _ (HA.out _ (by repeat (first | exact B1.out | apply below_drewN | apply Below.drew))).1.2 (HA.out _ (by repeat (first | exact B1.out | apply below_drewN | apply Below.drew))).2.2 hg HD.out).mono ?_; rintro e v2 ⟨rfl, q, rfl⟩))
      have k1 := (h1.cell (p := ⟨w.heap.size, 1, none⟩) hlt).trans a1
      have l1 := (h1.cell (p := ⟨w.heap.size + 1, 1, none⟩) hlu).trans b1
      clear a1 a2 b1 b2 h1 hg
      cases dd with
      | true =>
        go_wp2
        go_ret2
        exact EndPost.of (l := t) HE.out.symm rfl (HA.out _ (by repeat (first | exact B1.out | apply below_drewN | apply Below.drew))).1.2 (by repeat (first | exact B1.out | apply below_drewN | apply Below.drew))
      | false =>
        go_wp2
        go_ret2
        exact EndPost.of (l := t2) HE.out.symm rfl (HA.out _ (by repeat (first | exact B1.out | apply below_drewN | apply Below.drew))).2.2 (by repeat (first | exact B1.out | apply below_drewN | apply Below.drew))

theorem end_len (a b : Sp) : (endT a b).length = 0 ∨ (endT a b).length = a.t.length ∨ (endT a b).length = b.t.length := by
  unfold endT
  split
  · split <;> simp
  · split
    · simp
    · split <;> simp

set_option maxRecDepth 100000 in
set_option maxHeartbeats 2000000 in
theorem meet_any (A A' D D' : Option Addr) (n c n' c' m d m' d' B : Nat) (f t f2 t2 : List UInt8) (o o2 : Bool) (w : World) (hf : Byt w B A n f) (ht : Byt w B A' n' t) (hf2 : Byt w B D m f2) (ht2 : Byt w B D' m' t2) (hB : B ≤ w.heap.size) (hn : n ≤ 1099511627776 ∧ n' ≤ 1099511627776 ∧ m ≤ 1099511627776 ∧ m' ≤ 1099511627776) :
    Calls Tryd.prog 18 #[.agg #[.slice A n c, .slice A' n' c', .bool o], .agg #[.slice D m d, .slice D' m' d', .bool o2]] w (SpPost w (meetS ⟨f, t, o⟩ ⟨f2, t2, o2⟩)) := by
  have HA := Lib.hid (fun V (h : Below w.heap.size w V) => And.intro (And.intro ((hf.more hB).below h) ((ht.more hB).below h)) (And.intro ((hf2.more hB).below h) ((ht2.more hB).below h)))
  clear hf ht hf2 ht2
  have HN := Lib.hid hn
  clear hn
  generalize hW : ((w.alloc (.cells #[.slice A n c, .slice A' n' c', .bool o] 28)).alloc (.cells #[.slice D m d, .slice D' m' d', .bool o2] 28)).alloc (.cells #[.slice none 0 0, .slice none 0 0, .bool false] 28) = W
  have hT : Three W w.heap.size (.slice A n c) (.slice A' n' c') (.bool o) := by subst hW; exact ((Three.new _ _ _ _ _).alloc _).alloc _
  have hU : Three W (w.heap.size + 1) (.slice D m d) (.slice D' m' d') (.bool o2) := by subst hW; have := (Three.new (w.alloc (.cells #[.slice A n c, .slice A' n' c', .bool o] 28)) 28 (.slice D m d) (.slice D' m' d') (.bool o2)).alloc (.cells #[.slice none 0 0, .slice none 0 0, .bool false] 28); rwa [World.size_alloc] at this
  have hR : Three W (w.heap.size + 2) (.slice none 0 0) (.slice none 0 0) (.bool false) := by subst hW; have := Three.new ((w.alloc (.cells #[.slice A n c, .slice A' n' c', .bool o] 28)).alloc (.cells #[.slice D m d, .slice D' m' d', .bool o2] 28)) 28 (.slice none 0 0) (.slice none 0 0) (.bool false); rwa [World.size_alloc, World.size_alloc] at this
  have HB := Lib.hid (show Below w.heap.size w W from by subst hW; exact (((Below.refl _ _).alloc (Nat.le_refl _) _).alloc (by simp) _).alloc (by simp; omega) _)
  have HT := Lib.hid hT
  have HU := Lib.hid hU
  have HR := Lib.hid hR
  have a0 := hT.t0
  have b0 := hU.t0
  clear hT hU hR
  generalize hd : decide (cmpL f f2 < 0) = dd
  have HD := Lib.hid hd
  clear hd
  go_enter Tryd.func18, Tryd.ntmps18
  go_wp2_with fail
  clear hW
  (with_reducible refine (ahead_any D m d W).mono ?_)
  rintro e w1 ⟨rfl, hg, h1⟩
  have B1 := Lib.hid (HB.out.trans (h1.mono HB.out.size))
  have T1 := Lib.hid (HT.out.below h1 HT.out.lt)
  have U1 := Lib.hid (HU.out.below h1 HU.out.lt)
  have R1 := Lib.hid (HR.out.below h1 HR.out.lt)
  clear h1 a0 b0
  go_wp2_with fail
  (with_reducible refine (ahead1_any A D n c m d w.heap.size W.heap.size f f2 dd w1 (HA.out _ B1.out).1.1 (HA.out _ B1.out).2.1 hg HD.out).mono ?_)
  rintro e w2 ⟨rfl, q, rfl⟩
  have B2 := Lib.hid (below_drewN B1.out q)
  have T2 := Lib.hid (T1.out.drewN q)
  have U2 := Lib.hid (U1.out.drewN q)
  have R2 := Lib.hid (R1.out.drewN q)
  clear hg T1 U1 R1 B1
  generalize w1.drewN q = w2 at *
  have a0 := T2.out.t0
  have a1 := T2.out.t1
  have a2 := T2.out.t2
  have b0 := U2.out.t0
  have b1 := U2.out.t1
  have b2 := U2.out.t2
  cases dd with
  | true =>
    go_wp2_with fail
    (with_reducible refine (end_any A A' D D' n c n' c' m d m' d' w.heap.size f t f2 t2 o o2 w2 (HA.out _ B2.out).1.1 (HA.out _ B2.out).1.2 (HA.out _ B2.out).2.1 (HA.out _ B2.out).2.2 B2.out.size).mono ?_)
    rintro e w3 ⟨A3, n3, c3, rfl, y3, h3⟩
    have B3 := Lib.hid (B2.out.trans (h3.mono B2.out.size))
    have R3 := Lib.hid (R2.out.below h3 R2.out.lt)
    have B23 := Lib.hid h3
    have Y3 := Lib.hid y3
    have N3 := Lib.hid (show n3 ≤ 1099511627776 from by have := HN.out; have e1 := y3.1; have e2 := end_len ⟨f, t, o⟩ ⟨f2, t2, o2⟩; have q := (HA.out _ B2.out); have := q.1.2.1; have := q.2.2.1; simp only at e2; omega)
    clear h3 y3 a0 a1 a2 b0 b1 b2 T2 U2
    go_wp2_with fail
    (with_reducible refine (clone_any D m d w.heap.size f2 w3 (HA.out _ B3.out).2.1 B3.out.size (by have := HN.out; omega)).mono ?_)
    rintro e w4 ⟨A4, n4, c4, rfl, y4, nc4, h4⟩
    have B4 := Lib.hid (B3.out.trans (h4.mono B3.out.size))
    have R4 := Lib.hid (R3.out.below h4 R3.out.lt)
    have B34 := Lib.hid h4
    have Y3' := Lib.hid ((Y3.out.more (show w2.heap.size ≤ w3.heap.size from by have := B23.out.size; exact this)).below h4)
    have Y4 := Lib.hid y4
    clear h4 y4
    go_wp2_with fail
    (with_reducible refine (clone_any A3 n3 c3 w3.heap.size (endT ⟨f, t, o⟩ ⟨f2, t2, o2⟩) w4 Y3'.out B34.out.size N3.out).mono ?_)
    rintro e w5 ⟨A5, n5, c5, rfl, y5, nc5, h5⟩
    have B5 := Lib.hid (B4.out.trans (h5.mono B4.out.size))
    have R5 := Lib.hid (R4.out.below h5 R4.out.lt)
    have Y4' := Lib.hid ((Y4.out.below h5).more h5.size)
    have Y5 := Lib.hid y5
    clear h5 y5
    have r0 := R5.out.t0
    have r1 := R5.out.t1
    have r2 := R5.out.t2
    have z0 := R5.out.fz 0
    have z1 := R5.out.fz 1
    have z2 := R5.out.fz 2
    go_wp2
    (try simp only [Exit.inBlock, Exit.then])
    have e := Blk.load3 Tryd.underlying28 rfl size_sp (R5.out.set3 (.slice A4 n4 c4) (.slice A5 n5 c5) (.bool (o && o2)))
    refine bodyPost_ret (v := .agg #[.slice A4 n4 c4, .slice A5 n5 c5, .bool (o && o2)]) (by rw [results_cell1 rfl]; simp [asAddr, Result.andThen, e]) rfl ?_
    refine SpPost.of (f := f2) (t := endT ⟨f, t, o⟩ ⟨f2, t2, o2⟩) (o := o && o2) (by unfold meetS; simp only; rw [late_is HD.out]; rfl) ?_ ?_ (below_set3 B5.out (by omega) _ _ _)
    · rw [size_set3]; exact R5.out.keep3 Y4'.out _ _ _
    · rw [size_set3]; exact R5.out.keep3 Y5.out _ _ _
  | false =>
    go_wp2_with fail
    (with_reducible refine (end_any A A' D D' n c n' c' m d m' d' w.heap.size f t f2 t2 o o2 w2 (HA.out _ B2.out).1.1 (HA.out _ B2.out).1.2 (HA.out _ B2.out).2.1 (HA.out _ B2.out).2.2 B2.out.size).mono ?_)
    rintro e w3 ⟨A3, n3, c3, rfl, y3, h3⟩
    have B3 := Lib.hid (B2.out.trans (h3.mono B2.out.size))
    have R3 := Lib.hid (R2.out.below h3 R2.out.lt)
    have B23 := Lib.hid h3
    have Y3 := Lib.hid y3
    have N3 := Lib.hid (show n3 ≤ 1099511627776 from by have := HN.out; have e1 := y3.1; have e2 := end_len ⟨f, t, o⟩ ⟨f2, t2, o2⟩; have q := (HA.out _ B2.out); have := q.1.2.1; have := q.2.2.1; simp only at e2; omega)
    clear h3 y3 a0 a1 a2 b0 b1 b2 T2 U2
    go_wp2_with fail
    (with_reducible refine (clone_any A n c w.heap.size f w3 (HA.out _ B3.out).1.1 B3.out.size (by have := HN.out; omega)).mono ?_)
    rintro e w4 ⟨A4, n4, c4, rfl, y4, nc4, h4⟩
    have B4 := Lib.hid (B3.out.trans (h4.mono B3.out.size))
    have R4 := Lib.hid (R3.out.below h4 R3.out.lt)
    have B34 := Lib.hid h4
    have Y3' := Lib.hid ((Y3.out.more (show w2.heap.size ≤ w3.heap.size from by have := B23.out.size; exact this)).below h4)
    have Y4 := Lib.hid y4
    clear h4 y4
    go_wp2_with fail
    (with_reducible refine (clone_any A3 n3 c3 w3.heap.size (endT ⟨f, t, o⟩ ⟨f2, t2, o2⟩) w4 Y3'.out B34.out.size N3.out).mono ?_)
    rintro e w5 ⟨A5, n5, c5, rfl, y5, nc5, h5⟩
    have B5 := Lib.hid (B4.out.trans (h5.mono B4.out.size))
    have R5 := Lib.hid (R4.out.below h5 R4.out.lt)
    have Y4' := Lib.hid ((Y4.out.below h5).more h5.size)
    have Y5 := Lib.hid y5
    clear h5 y5
    have r0 := R5.out.t0
    have r1 := R5.out.t1
    have r2 := R5.out.t2
    have z0 := R5.out.fz 0
    have z1 := R5.out.fz 1
    have z2 := R5.out.fz 2
    go_wp2
    (try simp only [Exit.inBlock, Exit.then])
    have e := Blk.load3 Tryd.underlying28 rfl size_sp (R5.out.set3 (.slice A4 n4 c4) (.slice A5 n5 c5) (.bool (o && o2)))
    refine bodyPost_ret (v := .agg #[.slice A4 n4 c4, .slice A5 n5 c5, .bool (o && o2)]) (by rw [results_cell1 rfl]; simp [asAddr, Result.andThen, e]) rfl ?_
    refine SpPost.of (f := f) (t := endT ⟨f, t, o⟩ ⟨f2, t2, o2⟩) (o := o && o2) (by unfold meetS; simp only; rw [late_is HD.out]; rfl) ?_ ?_ (below_set3 B5.out (by omega) _ _ _)
    · rw [size_set3]; exact R5.out.keep3 Y4'.out _ _ _
    · rw [size_set3]; exact R5.out.keep3 Y5.out _ _ _
end Go.Proofs.YtofccfbiappgaaaDoor
