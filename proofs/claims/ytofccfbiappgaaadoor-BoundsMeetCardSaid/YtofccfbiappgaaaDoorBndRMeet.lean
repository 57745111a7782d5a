/-
  What the document's Meet answers.
-/
import Derived.Test.YtofccfbiappgaaaDoorBndMeet
namespace Go.Proofs.YtofccfbiappgaaaDoor
open Go.RowKit

theorem Blk.far1 {w : World} {g : Nat} {cs : Array Value} (h : Blk w g cs) {p : Addr} (hg : g ≠ p.block) (v : Value) : Blk (w.setCell p v) g cs := by
  obtain ⟨t, h⟩ := h
  exact ⟨t, by rw [Below.heap_setCell _ p _ _ hg]; exact h⟩
theorem Blk.drew_ {w : World} {g : Nat} {cs : Array Value} (h : Blk w g cs) : Blk w.drew g cs := h
theorem SpPost.at_ {w w' : World} {s : Sp} {f t : List UInt8} {o : Bool} {A A' : Option Addr} {n c n' c' : Nat} (hs : s = ⟨f, t, o⟩) (hf : Below w.heap.size w w' → Byt w' w'.heap.size A n f) (ht : Below w.heap.size w w' → Byt w' w'.heap.size A' n' t) (hb : Below w.heap.size w w') : SpPost w s (.returned (.agg #[.slice A n c, .slice A' n' c', .bool o])) w' :=
  SpPost.of hs (hf hb) (ht hb) hb
/-- A function's end whose one result is a struct of three cells in a block. -/
theorem close3 {P : Program} {fn : Func} {p : Tmp} {ty : TypeId} {D : TypeDesc} {Q : Ending → World → Prop} {a : Act} {Z : World} {g : Nat} {x y z : Value} (hr : fn.results = #[.cell p ty]) (hp : a.tmps.getD p undef = .pointer (some ⟨g, 0, none⟩)) (hd : a.defers = [])
    (hu : P.underlying ty = some D) (hD : D.isRow = true) (hi : (P.info? ty).map (·.size) = some 3) (hT : Three Z g x y z) (h : Q (.returned (.agg #[x, y, z])) Z) : bodyPost P fn Q .ret a Z := by
  have e := Blk.load3 hu hD hi hT
  exact bodyPost_ret (v := .agg #[x, y, z]) (by rw [results_cell1 hr, hp]; simp [asAddr, Result.andThen, e]) hd h
set_option maxRecDepth 100000 in
set_option maxHeartbeats 4000000 in
theorem rmeet_any (A A' D D' : Option Addr) (n c n' c' m d m' d' B : Nat) (f t f2 t2 : List UInt8) (o o2 : Bool) (w : World) (hf : Byt w B A n f) (ht : Byt w B A' n' t) (hf2 : Byt w B D m f2) (ht2 : Byt w B D' m' t2) (hB : B ≤ w.heap.size) :
    Calls Tryd.prog 19 #[.agg #[.slice A n c, .slice A' n' c', .bool o], .agg #[.slice D m d, .slice D' m' d', .bool o2]] w (SpPost w (meetS ⟨f, t, o⟩ ⟨f2, t2, o2⟩)) := by
  have HA := Lib.hid (fun V (h : Below w.heap.size w V) => And.intro (And.intro ((hf.more hB).below h) ((ht.more hB).below h)) (And.intro ((hf2.more hB).below h) ((ht2.more hB).below h)))
  clear hf ht hf2 ht2
  generalize hW : (((w.alloc (.cells #[.slice A n c, .slice A' n' c', .bool o] 24)).alloc (.cells #[.slice D m d, .slice D' m' d', .bool o2] 24)).alloc (.cells #[.slice none 0 0, .slice none 0 0, .bool false] 24)).alloc (.cells #[.slice A n c, .slice A' n' c', .bool o] 24) = W
  have hT : Three W w.heap.size (.slice A n c) (.slice A' n' c') (.bool o) := by subst hW; exact (((Three.new _ _ _ _ _).alloc _).alloc _).alloc _
  have hU : Three W (w.heap.size + 1) (.slice D m d) (.slice D' m' d') (.bool o2) := by subst hW; have := ((Three.new (w.alloc (.cells #[.slice A n c, .slice A' n' c', .bool o] 24)) 24 (.slice D m d) (.slice D' m' d') (.bool o2)).alloc (.cells #[.slice none 0 0, .slice none 0 0, .bool false] 24)).alloc (.cells #[.slice A n c, .slice A' n' c', .bool o] 24); rwa [World.size_alloc] at this
  have hR : Three W (w.heap.size + 2) (.slice none 0 0) (.slice none 0 0) (.bool false) := by subst hW; have := (Three.new ((w.alloc (.cells #[.slice A n c, .slice A' n' c', .bool o] 24)).alloc (.cells #[.slice D m d, .slice D' m' d', .bool o2] 24)) 24 (.slice none 0 0) (.slice none 0 0) (.bool false)).alloc (.cells #[.slice A n c, .slice A' n' c', .bool o] 24); rwa [World.size_alloc, World.size_alloc] at this
  have hO : Three W (w.heap.size + 3) (.slice A n c) (.slice A' n' c') (.bool o) := by subst hW; have := Three.new (((w.alloc (.cells #[.slice A n c, .slice A' n' c', .bool o] 24)).alloc (.cells #[.slice D m d, .slice D' m' d', .bool o2] 24)).alloc (.cells #[.slice none 0 0, .slice none 0 0, .bool false] 24)) 24 (.slice A n c) (.slice A' n' c') (.bool o); rwa [World.size_alloc, World.size_alloc, World.size_alloc] at this
  have HB := Lib.hid (show Below w.heap.size w W from by subst hW; exact ((((Below.refl _ _).alloc (Nat.le_refl _) _).alloc (by simp) _).alloc (by simp; omega) _).alloc (by simp; omega) _)
  have HT := Lib.hid hT
  have HU := Lib.hid hU
  have HR := Lib.hid hR
  have HO := Lib.hid hO
  have a0 := hT.t0
  have b0 := hU.t0
  clear hT hU hR hO
  generalize hx : cmpL f2 f = x
  have HX := Lib.hid hx
  generalize hy : cmpL t2 t = y
  have HY := Lib.hid hy
  clear hy
  go_enter Tryd.func19, Tryd.ntmps19
  go_wp2_with fail
  clear hW
  (with_reducible refine (rcmp_any D A m n d c _ f2 f W (HA.out _ HB.out).2.1 (HA.out _ HB.out).1.1).mono ?_)
  rintro e w1 ⟨rfl, q, rfl⟩
  rw [hx]
  clear hx
  have B1 := Lib.hid (below_drewN HB.out q)
  have T1 := Lib.hid (HT.out.drewN q)
  have U1 := Lib.hid (HU.out.drewN q)
  have R1 := Lib.hid (HR.out.drewN q)
  have O1 := Lib.hid (HO.out.drewN q)
  clear a0 b0 HT HU HR HO
  generalize W.drewN q = w1 at *
  have a1 := T1.out.t1
  have a2 := T1.out.t2
  have b0 := U1.out.t0
  have b1 := U1.out.t1
  have b2 := U1.out.t2
  have o0 := O1.out.t0
  have o1 := O1.out.t1
  have o2' := O1.out.t2
  have z0 := O1.out.fz 0
  have z1 := O1.out.fz 1
  have z2 := O1.out.fz 2
  have r0 := R1.out.t0
  have r1 := R1.out.t1
  have r2 := R1.out.t2
  have s0 := R1.out.fz 0
  have s1 := R1.out.fz 1
  have s2 := R1.out.fz 2
  by_cases h1 : 0 < x
  · cases o <;> cases o2
    · by_cases h2 : y < 0
      · have H1 := Lib.hid h1
        have H2 := Lib.hid h2
        generalize hV : w1.setCell ⟨w.heap.size + 3, 0, none⟩ (.slice D m d) = V
        have TV := Lib.hid (show Three V w.heap.size (.slice A n c) (.slice A' n' c') (.bool false) from by subst hV; exact T1.out.far1 (by simp) _)
        have UV := Lib.hid (show Three V (w.heap.size + 1) (.slice D m d) (.slice D' m' d') (.bool false) from by subst hV; exact U1.out.far1 (by simp) _)
        have RV := Lib.hid (show Three V (w.heap.size + 2) (.slice none 0 0) (.slice none 0 0) (.bool false) from by subst hV; exact R1.out.far1 (by simp) _)
        have OV := Lib.hid (show Three V (w.heap.size + 3) (.slice D m d) (.slice A' n' c') (.bool false) from by subst hV; exact O1.out.set_ 0 _)
        have BV := Lib.hid (show Below w.heap.size w V from by subst hV; exact B1.out.setCell (p := ⟨w.heap.size + 3, 0, none⟩) (by simp) _)
        have o0a : V.cell? ⟨w.heap.size + 1 + 1 + 1, 0, none⟩ = _ := OV.out.t0
        have z0a : V.frozen? ⟨w.heap.size + 1 + 1 + 1, 0, none⟩ = false := OV.out.fz 0
        have r0a : V.cell? ⟨w.heap.size + 1 + 1, 0, none⟩ = _ := RV.out.t0
        have s0a : V.frozen? ⟨w.heap.size + 1 + 1, 0, none⟩ = false := RV.out.fz 0
        have o1a : V.cell? ⟨w.heap.size + 1 + 1 + 1, 1, none⟩ = _ := OV.out.t1
        have z1a : V.frozen? ⟨w.heap.size + 1 + 1 + 1, 1, none⟩ = false := OV.out.fz 1
        have r1a : V.cell? ⟨w.heap.size + 1 + 1, 1, none⟩ = _ := RV.out.t1
        have s1a : V.frozen? ⟨w.heap.size + 1 + 1, 1, none⟩ = false := RV.out.fz 1
        have o2a : V.cell? ⟨w.heap.size + 1 + 1 + 1, 2, none⟩ = _ := OV.out.t2
        have z2a : V.frozen? ⟨w.heap.size + 1 + 1 + 1, 2, none⟩ = false := OV.out.fz 2
        have r2a : V.cell? ⟨w.heap.size + 1 + 1, 2, none⟩ = _ := RV.out.t2
        have s2a : V.frozen? ⟨w.heap.size + 1 + 1, 2, none⟩ = false := RV.out.fz 2
        have o0b := OV.out.t0
        have z0b := OV.out.fz 0
        have r0b := RV.out.t0
        have s0b := RV.out.fz 0
        have o1b := OV.out.t1
        have z1b := OV.out.fz 1
        have r1b := RV.out.t1
        have s1b := RV.out.fz 1
        have o2b := OV.out.t2
        have z2b := OV.out.fz 2
        have r2b := RV.out.t2
        have s2b := RV.out.fz 2
        have a1' := TV.out.t1
        have a2' := TV.out.t2
        have b1' := UV.out.t1
        have b2' := UV.out.t2
        go_wp2_with fail
        clear hV
        (with_reducible refine (rcmp_any D' A' m' n' d' c' _ t2 t V (HA.out _ BV.out).2.2 (HA.out _ BV.out).1.2).mono ?_)
        rintro e w2 ⟨rfl, q2, rfl⟩
        rw [HY.out]
        go_wp2_with fail
        go_region
        go_wp2
        (try simp only [Exit.inBlock, Exit.then])
        refine close3 (g := w.heap.size + 1 + 1) (x := .slice D m d) (y := .slice D' m' d') (z := .bool false) rfl rfl rfl Tryd.underlying24 rfl size_rsp ?_ ?_
        · repeat (first | with_reducible exact RV.out | with_reducible refine Blk.drew_ ?_ | with_reducible refine Blk.drewN ?_ _ | with_reducible refine Blk.set3 (x := .slice none 0 0) (y := .slice none 0 0) (z := .bool false) ?_ _ _ _ | with_reducible refine Blk.far1 ?_ (show w.heap.size + 1 + 1 ≠ w.heap.size + 1 + 1 + 1 by omega) _)
        · refine SpPost.at_ (f := f2) (t := t2) (o := false) ?_ (fun BZ => ((HA.out _ BZ).2.1.more BZ.size)) (fun BZ => ((HA.out _ BZ).2.2.more BZ.size)) ?_
          · unfold meetS lateF endT
            simp only [HX.out, HY.out]
            rw [if_pos (show 0 < x from by have := H1.out; omega)]
            simp only [if_pos (show y < 0 from by have := H2.out; omega)]
            rfl
          · repeat (first | with_reducible exact BV.out | with_reducible refine below_drewN ?_ _ | with_reducible refine Below.drew ?_ | with_reducible refine Below.setCell ?_ (show w.heap.size ≤ w.heap.size + 1 + 1 + 1 by omega) _ | with_reducible refine Below.setCell ?_ (show w.heap.size ≤ w.heap.size + 1 + 1 by omega) _)
      · have H1 := Lib.hid h1
        have H2 := Lib.hid h2
        generalize hV : w1.setCell ⟨w.heap.size + 3, 0, none⟩ (.slice D m d) = V
        have TV := Lib.hid (show Three V w.heap.size (.slice A n c) (.slice A' n' c') (.bool false) from by subst hV; exact T1.out.far1 (by simp) _)
        have UV := Lib.hid (show Three V (w.heap.size + 1) (.slice D m d) (.slice D' m' d') (.bool false) from by subst hV; exact U1.out.far1 (by simp) _)
        have RV := Lib.hid (show Three V (w.heap.size + 2) (.slice none 0 0) (.slice none 0 0) (.bool false) from by subst hV; exact R1.out.far1 (by simp) _)
        have OV := Lib.hid (show Three V (w.heap.size + 3) (.slice D m d) (.slice A' n' c') (.bool false) from by subst hV; exact O1.out.set_ 0 _)
        have BV := Lib.hid (show Below w.heap.size w V from by subst hV; exact B1.out.setCell (p := ⟨w.heap.size + 3, 0, none⟩) (by simp) _)
        have o0a : V.cell? ⟨w.heap.size + 1 + 1 + 1, 0, none⟩ = _ := OV.out.t0
        have z0a : V.frozen? ⟨w.heap.size + 1 + 1 + 1, 0, none⟩ = false := OV.out.fz 0
        have r0a : V.cell? ⟨w.heap.size + 1 + 1, 0, none⟩ = _ := RV.out.t0
        have s0a : V.frozen? ⟨w.heap.size + 1 + 1, 0, none⟩ = false := RV.out.fz 0
        have o1a : V.cell? ⟨w.heap.size + 1 + 1 + 1, 1, none⟩ = _ := OV.out.t1
        have z1a : V.frozen? ⟨w.heap.size + 1 + 1 + 1, 1, none⟩ = false := OV.out.fz 1
        have r1a : V.cell? ⟨w.heap.size + 1 + 1, 1, none⟩ = _ := RV.out.t1
        have s1a : V.frozen? ⟨w.heap.size + 1 + 1, 1, none⟩ = false := RV.out.fz 1
        have o2a : V.cell? ⟨w.heap.size + 1 + 1 + 1, 2, none⟩ = _ := OV.out.t2
        have z2a : V.frozen? ⟨w.heap.size + 1 + 1 + 1, 2, none⟩ = false := OV.out.fz 2
        have r2a : V.cell? ⟨w.heap.size + 1 + 1, 2, none⟩ = _ := RV.out.t2
        have s2a : V.frozen? ⟨w.heap.size + 1 + 1, 2, none⟩ = false := RV.out.fz 2
        have o0b := OV.out.t0
        have z0b := OV.out.fz 0
        have r0b := RV.out.t0
        have s0b := RV.out.fz 0
        have o1b := OV.out.t1
        have z1b := OV.out.fz 1
        have r1b := RV.out.t1
        have s1b := RV.out.fz 1
        have o2b := OV.out.t2
        have z2b := OV.out.fz 2
        have r2b := RV.out.t2
        have s2b := RV.out.fz 2
        have a1' := TV.out.t1
        have a2' := TV.out.t2
        have b1' := UV.out.t1
        have b2' := UV.out.t2
        go_wp2_with fail
        clear hV
        (with_reducible refine (rcmp_any D' A' m' n' d' c' _ t2 t V (HA.out _ BV.out).2.2 (HA.out _ BV.out).1.2).mono ?_)
        rintro e w2 ⟨rfl, q2, rfl⟩
        rw [HY.out]
        go_wp2
        (try simp only [Exit.inBlock, Exit.then])
        refine close3 (g := w.heap.size + 1 + 1) (x := .slice D m d) (y := .slice A' n' c') (z := .bool false) rfl rfl rfl Tryd.underlying24 rfl size_rsp ?_ ?_
        · repeat (first | with_reducible exact RV.out | with_reducible refine Blk.drew_ ?_ | with_reducible refine Blk.drewN ?_ _ | with_reducible refine Blk.set3 (x := .slice none 0 0) (y := .slice none 0 0) (z := .bool false) ?_ _ _ _ | with_reducible refine Blk.far1 ?_ (show w.heap.size + 1 + 1 ≠ w.heap.size + 1 + 1 + 1 by omega) _)
        · refine SpPost.at_ (f := f2) (t := t) (o := false) ?_ (fun BZ => ((HA.out _ BZ).2.1.more BZ.size)) (fun BZ => ((HA.out _ BZ).1.2.more BZ.size)) ?_
          · unfold meetS lateF endT
            simp only [HX.out, HY.out]
            rw [if_pos (show 0 < x from by have := H1.out; omega)]
            simp only [if_neg (show ¬ y < 0 from by have := H2.out; omega)]
            rfl
          · repeat (first | with_reducible exact BV.out | with_reducible refine below_drewN ?_ _ | with_reducible refine Below.drew ?_ | with_reducible refine Below.setCell ?_ (show w.heap.size ≤ w.heap.size + 1 + 1 + 1 by omega) _ | with_reducible refine Below.setCell ?_ (show w.heap.size ≤ w.heap.size + 1 + 1 by omega) _)
    · have H1 := Lib.hid h1
      generalize hV : w1.setCell ⟨w.heap.size + 3, 0, none⟩ (.slice D m d) = V
      have TV := Lib.hid (show Three V w.heap.size (.slice A n c) (.slice A' n' c') (.bool false) from by subst hV; exact T1.out.far1 (by simp) _)
      have UV := Lib.hid (show Three V (w.heap.size + 1) (.slice D m d) (.slice D' m' d') (.bool true) from by subst hV; exact U1.out.far1 (by simp) _)
      have RV := Lib.hid (show Three V (w.heap.size + 2) (.slice none 0 0) (.slice none 0 0) (.bool false) from by subst hV; exact R1.out.far1 (by simp) _)
      have OV := Lib.hid (show Three V (w.heap.size + 3) (.slice D m d) (.slice A' n' c') (.bool false) from by subst hV; exact O1.out.set_ 0 _)
      have BV := Lib.hid (show Below w.heap.size w V from by subst hV; exact B1.out.setCell (p := ⟨w.heap.size + 3, 0, none⟩) (by simp) _)
      have o0a : V.cell? ⟨w.heap.size + 1 + 1 + 1, 0, none⟩ = _ := OV.out.t0
      have z0a : V.frozen? ⟨w.heap.size + 1 + 1 + 1, 0, none⟩ = false := OV.out.fz 0
      have r0a : V.cell? ⟨w.heap.size + 1 + 1, 0, none⟩ = _ := RV.out.t0
      have s0a : V.frozen? ⟨w.heap.size + 1 + 1, 0, none⟩ = false := RV.out.fz 0
      have o1a : V.cell? ⟨w.heap.size + 1 + 1 + 1, 1, none⟩ = _ := OV.out.t1
      have z1a : V.frozen? ⟨w.heap.size + 1 + 1 + 1, 1, none⟩ = false := OV.out.fz 1
      have r1a : V.cell? ⟨w.heap.size + 1 + 1, 1, none⟩ = _ := RV.out.t1
      have s1a : V.frozen? ⟨w.heap.size + 1 + 1, 1, none⟩ = false := RV.out.fz 1
      have o2a : V.cell? ⟨w.heap.size + 1 + 1 + 1, 2, none⟩ = _ := OV.out.t2
      have z2a : V.frozen? ⟨w.heap.size + 1 + 1 + 1, 2, none⟩ = false := OV.out.fz 2
      have r2a : V.cell? ⟨w.heap.size + 1 + 1, 2, none⟩ = _ := RV.out.t2
      have s2a : V.frozen? ⟨w.heap.size + 1 + 1, 2, none⟩ = false := RV.out.fz 2
      have o0b := OV.out.t0
      have z0b := OV.out.fz 0
      have r0b := RV.out.t0
      have s0b := RV.out.fz 0
      have o1b := OV.out.t1
      have z1b := OV.out.fz 1
      have r1b := RV.out.t1
      have s1b := RV.out.fz 1
      have o2b := OV.out.t2
      have z2b := OV.out.fz 2
      have r2b := RV.out.t2
      have s2b := RV.out.fz 2
      have a1' := TV.out.t1
      have a2' := TV.out.t2
      have b1' := UV.out.t1
      have b2' := UV.out.t2
      go_wp2
      (try simp only [Exit.inBlock, Exit.then])
      refine close3 (g := w.heap.size + 1 + 1) (x := .slice D m d) (y := .slice A' n' c') (z := .bool false) rfl rfl rfl Tryd.underlying24 rfl size_rsp ?_ ?_
      · repeat (first | with_reducible exact RV.out | with_reducible refine Blk.drew_ ?_ | with_reducible refine Blk.drewN ?_ _ | with_reducible refine Blk.set3 (x := .slice none 0 0) (y := .slice none 0 0) (z := .bool false) ?_ _ _ _ | with_reducible refine Blk.far1 ?_ (show w.heap.size + 1 + 1 ≠ w.heap.size + 1 + 1 + 1 by omega) _)
      · refine SpPost.at_ (f := f2) (t := t) (o := false) ?_ (fun BZ => ((HA.out _ BZ).2.1.more BZ.size)) (fun BZ => ((HA.out _ BZ).1.2.more BZ.size)) ?_
        · unfold meetS lateF endT
          simp only [HX.out, HY.out]
          rw [if_pos (show 0 < x from by have := H1.out; omega)]
          skip
          rfl
        · repeat (first | with_reducible exact BV.out | with_reducible refine below_drewN ?_ _ | with_reducible refine Below.drew ?_ | with_reducible refine Below.setCell ?_ (show w.heap.size ≤ w.heap.size + 1 + 1 + 1 by omega) _ | with_reducible refine Below.setCell ?_ (show w.heap.size ≤ w.heap.size + 1 + 1 by omega) _)
    · have H1 := Lib.hid h1
      generalize hV : w1.setCell ⟨w.heap.size + 3, 0, none⟩ (.slice D m d) = V
      have TV := Lib.hid (show Three V w.heap.size (.slice A n c) (.slice A' n' c') (.bool true) from by subst hV; exact T1.out.far1 (by simp) _)
      have UV := Lib.hid (show Three V (w.heap.size + 1) (.slice D m d) (.slice D' m' d') (.bool false) from by subst hV; exact U1.out.far1 (by simp) _)
      have RV := Lib.hid (show Three V (w.heap.size + 2) (.slice none 0 0) (.slice none 0 0) (.bool false) from by subst hV; exact R1.out.far1 (by simp) _)
      have OV := Lib.hid (show Three V (w.heap.size + 3) (.slice D m d) (.slice A' n' c') (.bool true) from by subst hV; exact O1.out.set_ 0 _)
      have BV := Lib.hid (show Below w.heap.size w V from by subst hV; exact B1.out.setCell (p := ⟨w.heap.size + 3, 0, none⟩) (by simp) _)
      have o0a : V.cell? ⟨w.heap.size + 1 + 1 + 1, 0, none⟩ = _ := OV.out.t0
      have z0a : V.frozen? ⟨w.heap.size + 1 + 1 + 1, 0, none⟩ = false := OV.out.fz 0
      have r0a : V.cell? ⟨w.heap.size + 1 + 1, 0, none⟩ = _ := RV.out.t0
      have s0a : V.frozen? ⟨w.heap.size + 1 + 1, 0, none⟩ = false := RV.out.fz 0
      have o1a : V.cell? ⟨w.heap.size + 1 + 1 + 1, 1, none⟩ = _ := OV.out.t1
      have z1a : V.frozen? ⟨w.heap.size + 1 + 1 + 1, 1, none⟩ = false := OV.out.fz 1
      have r1a : V.cell? ⟨w.heap.size + 1 + 1, 1, none⟩ = _ := RV.out.t1
      have s1a : V.frozen? ⟨w.heap.size + 1 + 1, 1, none⟩ = false := RV.out.fz 1
      have o2a : V.cell? ⟨w.heap.size + 1 + 1 + 1, 2, none⟩ = _ := OV.out.t2
      have z2a : V.frozen? ⟨w.heap.size + 1 + 1 + 1, 2, none⟩ = false := OV.out.fz 2
      have r2a : V.cell? ⟨w.heap.size + 1 + 1, 2, none⟩ = _ := RV.out.t2
      have s2a : V.frozen? ⟨w.heap.size + 1 + 1, 2, none⟩ = false := RV.out.fz 2
      have o0b := OV.out.t0
      have z0b := OV.out.fz 0
      have r0b := RV.out.t0
      have s0b := RV.out.fz 0
      have o1b := OV.out.t1
      have z1b := OV.out.fz 1
      have r1b := RV.out.t1
      have s1b := RV.out.fz 1
      have o2b := OV.out.t2
      have z2b := OV.out.fz 2
      have r2b := RV.out.t2
      have s2b := RV.out.fz 2
      have a1' := TV.out.t1
      have a2' := TV.out.t2
      have b1' := UV.out.t1
      have b2' := UV.out.t2
      go_wp2_with fail
      clear hV
      go_region
      go_wp2
      (try simp only [Exit.inBlock, Exit.then])
      refine close3 (g := w.heap.size + 1 + 1) (x := .slice D m d) (y := .slice D' m' d') (z := .bool false) rfl rfl rfl Tryd.underlying24 rfl size_rsp ?_ ?_
      · repeat (first | with_reducible exact RV.out | with_reducible refine Blk.drew_ ?_ | with_reducible refine Blk.drewN ?_ _ | with_reducible refine Blk.set3 (x := .slice none 0 0) (y := .slice none 0 0) (z := .bool false) ?_ _ _ _ | with_reducible refine Blk.far1 ?_ (show w.heap.size + 1 + 1 ≠ w.heap.size + 1 + 1 + 1 by omega) _)
      · refine SpPost.at_ (f := f2) (t := t2) (o := false) ?_ (fun BZ => ((HA.out _ BZ).2.1.more BZ.size)) (fun BZ => ((HA.out _ BZ).2.2.more BZ.size)) ?_
        · unfold meetS lateF endT
          simp only [HX.out, HY.out]
          rw [if_pos (show 0 < x from by have := H1.out; omega)]
          skip
          rfl
        · repeat (first | with_reducible exact BV.out | with_reducible refine below_drewN ?_ _ | with_reducible refine Below.drew ?_ | with_reducible refine Below.setCell ?_ (show w.heap.size ≤ w.heap.size + 1 + 1 + 1 by omega) _ | with_reducible refine Below.setCell ?_ (show w.heap.size ≤ w.heap.size + 1 + 1 by omega) _)
    · have H1 := Lib.hid h1
      generalize hV : w1.setCell ⟨w.heap.size + 3, 0, none⟩ (.slice D m d) = V
      have TV := Lib.hid (show Three V w.heap.size (.slice A n c) (.slice A' n' c') (.bool true) from by subst hV; exact T1.out.far1 (by simp) _)
      have UV := Lib.hid (show Three V (w.heap.size + 1) (.slice D m d) (.slice D' m' d') (.bool true) from by subst hV; exact U1.out.far1 (by simp) _)
      have RV := Lib.hid (show Three V (w.heap.size + 2) (.slice none 0 0) (.slice none 0 0) (.bool false) from by subst hV; exact R1.out.far1 (by simp) _)
      have OV := Lib.hid (show Three V (w.heap.size + 3) (.slice D m d) (.slice A' n' c') (.bool true) from by subst hV; exact O1.out.set_ 0 _)
      have BV := Lib.hid (show Below w.heap.size w V from by subst hV; exact B1.out.setCell (p := ⟨w.heap.size + 3, 0, none⟩) (by simp) _)
      have o0a : V.cell? ⟨w.heap.size + 1 + 1 + 1, 0, none⟩ = _ := OV.out.t0
      have z0a : V.frozen? ⟨w.heap.size + 1 + 1 + 1, 0, none⟩ = false := OV.out.fz 0
      have r0a : V.cell? ⟨w.heap.size + 1 + 1, 0, none⟩ = _ := RV.out.t0
      have s0a : V.frozen? ⟨w.heap.size + 1 + 1, 0, none⟩ = false := RV.out.fz 0
      have o1a : V.cell? ⟨w.heap.size + 1 + 1 + 1, 1, none⟩ = _ := OV.out.t1
      have z1a : V.frozen? ⟨w.heap.size + 1 + 1 + 1, 1, none⟩ = false := OV.out.fz 1
      have r1a : V.cell? ⟨w.heap.size + 1 + 1, 1, none⟩ = _ := RV.out.t1
      have s1a : V.frozen? ⟨w.heap.size + 1 + 1, 1, none⟩ = false := RV.out.fz 1
      have o2a : V.cell? ⟨w.heap.size + 1 + 1 + 1, 2, none⟩ = _ := OV.out.t2
      have z2a : V.frozen? ⟨w.heap.size + 1 + 1 + 1, 2, none⟩ = false := OV.out.fz 2
      have r2a : V.cell? ⟨w.heap.size + 1 + 1, 2, none⟩ = _ := RV.out.t2
      have s2a : V.frozen? ⟨w.heap.size + 1 + 1, 2, none⟩ = false := RV.out.fz 2
      have o0b := OV.out.t0
      have z0b := OV.out.fz 0
      have r0b := RV.out.t0
      have s0b := RV.out.fz 0
      have o1b := OV.out.t1
      have z1b := OV.out.fz 1
      have r1b := RV.out.t1
      have s1b := RV.out.fz 1
      have o2b := OV.out.t2
      have z2b := OV.out.fz 2
      have r2b := RV.out.t2
      have s2b := RV.out.fz 2
      have a1' := TV.out.t1
      have a2' := TV.out.t2
      have b1' := UV.out.t1
      have b2' := UV.out.t2
      go_wp2_with fail
      clear hV
      go_region
      go_wp2
      (try simp only [Exit.inBlock, Exit.then])
      refine close3 (g := w.heap.size + 1 + 1) (x := .slice D m d) (y := .slice none 0 0) (z := .bool true) rfl rfl rfl Tryd.underlying24 rfl size_rsp ?_ ?_
      · repeat (first | with_reducible exact RV.out | with_reducible refine Blk.drew_ ?_ | with_reducible refine Blk.drewN ?_ _ | with_reducible refine Blk.set3 (x := .slice none 0 0) (y := .slice none 0 0) (z := .bool false) ?_ _ _ _ | with_reducible refine Blk.far1 ?_ (show w.heap.size + 1 + 1 ≠ w.heap.size + 1 + 1 + 1 by omega) _)
      · refine SpPost.at_ (f := f2) (t := []) (o := true) ?_ (fun BZ => ((HA.out _ BZ).2.1.more BZ.size)) (fun _ => Byt.none_) ?_
        · unfold meetS lateF endT
          simp only [HX.out, HY.out]
          rw [if_pos (show 0 < x from by have := H1.out; omega)]
          skip
          rfl
        · repeat (first | with_reducible exact BV.out | with_reducible refine below_drewN ?_ _ | with_reducible refine Below.drew ?_ | with_reducible refine Below.setCell ?_ (show w.heap.size ≤ w.heap.size + 1 + 1 + 1 by omega) _ | with_reducible refine Below.setCell ?_ (show w.heap.size ≤ w.heap.size + 1 + 1 by omega) _)
  · cases o <;> cases o2
    · by_cases h2 : y < 0
      · have H1 := Lib.hid h1
        have H2 := Lib.hid h2
        generalize hV : w1 = V at *
        have TV := Lib.hid T1.out
        have UV := Lib.hid U1.out
        have RV := Lib.hid R1.out
        have OV := Lib.hid O1.out
        have BV := Lib.hid B1.out
        have o0a : V.cell? ⟨w.heap.size + 1 + 1 + 1, 0, none⟩ = _ := OV.out.t0
        have z0a : V.frozen? ⟨w.heap.size + 1 + 1 + 1, 0, none⟩ = false := OV.out.fz 0
        have r0a : V.cell? ⟨w.heap.size + 1 + 1, 0, none⟩ = _ := RV.out.t0
        have s0a : V.frozen? ⟨w.heap.size + 1 + 1, 0, none⟩ = false := RV.out.fz 0
        have o1a : V.cell? ⟨w.heap.size + 1 + 1 + 1, 1, none⟩ = _ := OV.out.t1
        have z1a : V.frozen? ⟨w.heap.size + 1 + 1 + 1, 1, none⟩ = false := OV.out.fz 1
        have r1a : V.cell? ⟨w.heap.size + 1 + 1, 1, none⟩ = _ := RV.out.t1
        have s1a : V.frozen? ⟨w.heap.size + 1 + 1, 1, none⟩ = false := RV.out.fz 1
        have o2a : V.cell? ⟨w.heap.size + 1 + 1 + 1, 2, none⟩ = _ := OV.out.t2
        have z2a : V.frozen? ⟨w.heap.size + 1 + 1 + 1, 2, none⟩ = false := OV.out.fz 2
        have r2a : V.cell? ⟨w.heap.size + 1 + 1, 2, none⟩ = _ := RV.out.t2
        have s2a : V.frozen? ⟨w.heap.size + 1 + 1, 2, none⟩ = false := RV.out.fz 2
        go_wp2_with fail
        (with_reducible refine (rcmp_any D' A' m' n' d' c' _ t2 t V (HA.out _ BV.out).2.2 (HA.out _ BV.out).1.2).mono ?_)
        rintro e w2 ⟨rfl, q2, rfl⟩
        rw [HY.out]
        go_wp2_with fail
        go_region
        go_wp2
        (try simp only [Exit.inBlock, Exit.then])
        refine close3 (g := w.heap.size + 1 + 1) (x := .slice A n c) (y := .slice D' m' d') (z := .bool false) rfl rfl rfl Tryd.underlying24 rfl size_rsp ?_ ?_
        · repeat (first | with_reducible exact RV.out | with_reducible refine Blk.drew_ ?_ | with_reducible refine Blk.drewN ?_ _ | with_reducible refine Blk.set3 (x := .slice none 0 0) (y := .slice none 0 0) (z := .bool false) ?_ _ _ _ | with_reducible refine Blk.far1 ?_ (show w.heap.size + 1 + 1 ≠ w.heap.size + 1 + 1 + 1 by omega) _)
        · refine SpPost.at_ (f := f) (t := t2) (o := false) ?_ (fun BZ => ((HA.out _ BZ).1.1.more BZ.size)) (fun BZ => ((HA.out _ BZ).2.2.more BZ.size)) ?_
          · unfold meetS lateF endT
            simp only [HX.out, HY.out]
            rw [if_neg (show ¬ 0 < x from by have := H1.out; omega)]
            simp only [if_pos (show y < 0 from by have := H2.out; omega)]
            rfl
          · repeat (first | with_reducible exact BV.out | with_reducible refine below_drewN ?_ _ | with_reducible refine Below.drew ?_ | with_reducible refine Below.setCell ?_ (show w.heap.size ≤ w.heap.size + 1 + 1 + 1 by omega) _ | with_reducible refine Below.setCell ?_ (show w.heap.size ≤ w.heap.size + 1 + 1 by omega) _)
      · have H1 := Lib.hid h1
        have H2 := Lib.hid h2
        generalize hV : w1 = V at *
        have TV := Lib.hid T1.out
        have UV := Lib.hid U1.out
        have RV := Lib.hid R1.out
        have OV := Lib.hid O1.out
        have BV := Lib.hid B1.out
        have o0a : V.cell? ⟨w.heap.size + 1 + 1 + 1, 0, none⟩ = _ := OV.out.t0
        have z0a : V.frozen? ⟨w.heap.size + 1 + 1 + 1, 0, none⟩ = false := OV.out.fz 0
        have r0a : V.cell? ⟨w.heap.size + 1 + 1, 0, none⟩ = _ := RV.out.t0
        have s0a : V.frozen? ⟨w.heap.size + 1 + 1, 0, none⟩ = false := RV.out.fz 0
        have o1a : V.cell? ⟨w.heap.size + 1 + 1 + 1, 1, none⟩ = _ := OV.out.t1
        have z1a : V.frozen? ⟨w.heap.size + 1 + 1 + 1, 1, none⟩ = false := OV.out.fz 1
        have r1a : V.cell? ⟨w.heap.size + 1 + 1, 1, none⟩ = _ := RV.out.t1
        have s1a : V.frozen? ⟨w.heap.size + 1 + 1, 1, none⟩ = false := RV.out.fz 1
        have o2a : V.cell? ⟨w.heap.size + 1 + 1 + 1, 2, none⟩ = _ := OV.out.t2
        have z2a : V.frozen? ⟨w.heap.size + 1 + 1 + 1, 2, none⟩ = false := OV.out.fz 2
        have r2a : V.cell? ⟨w.heap.size + 1 + 1, 2, none⟩ = _ := RV.out.t2
        have s2a : V.frozen? ⟨w.heap.size + 1 + 1, 2, none⟩ = false := RV.out.fz 2
        go_wp2_with fail
        (with_reducible refine (rcmp_any D' A' m' n' d' c' _ t2 t V (HA.out _ BV.out).2.2 (HA.out _ BV.out).1.2).mono ?_)
        rintro e w2 ⟨rfl, q2, rfl⟩
        rw [HY.out]
        go_wp2
        (try simp only [Exit.inBlock, Exit.then])
        refine close3 (g := w.heap.size + 1 + 1) (x := .slice A n c) (y := .slice A' n' c') (z := .bool false) rfl rfl rfl Tryd.underlying24 rfl size_rsp ?_ ?_
        · repeat (first | with_reducible exact RV.out | with_reducible refine Blk.drew_ ?_ | with_reducible refine Blk.drewN ?_ _ | with_reducible refine Blk.set3 (x := .slice none 0 0) (y := .slice none 0 0) (z := .bool false) ?_ _ _ _ | with_reducible refine Blk.far1 ?_ (show w.heap.size + 1 + 1 ≠ w.heap.size + 1 + 1 + 1 by omega) _)
        · refine SpPost.at_ (f := f) (t := t) (o := false) ?_ (fun BZ => ((HA.out _ BZ).1.1.more BZ.size)) (fun BZ => ((HA.out _ BZ).1.2.more BZ.size)) ?_
          · unfold meetS lateF endT
            simp only [HX.out, HY.out]
            rw [if_neg (show ¬ 0 < x from by have := H1.out; omega)]
            simp only [if_neg (show ¬ y < 0 from by have := H2.out; omega)]
            rfl
          · repeat (first | with_reducible exact BV.out | with_reducible refine below_drewN ?_ _ | with_reducible refine Below.drew ?_ | with_reducible refine Below.setCell ?_ (show w.heap.size ≤ w.heap.size + 1 + 1 + 1 by omega) _ | with_reducible refine Below.setCell ?_ (show w.heap.size ≤ w.heap.size + 1 + 1 by omega) _)
    · have H1 := Lib.hid h1
      generalize hV : w1 = V at *
      have TV := Lib.hid T1.out
      have UV := Lib.hid U1.out
      have RV := Lib.hid R1.out
      have OV := Lib.hid O1.out
      have BV := Lib.hid B1.out
      have o0a : V.cell? ⟨w.heap.size + 1 + 1 + 1, 0, none⟩ = _ := OV.out.t0
      have z0a : V.frozen? ⟨w.heap.size + 1 + 1 + 1, 0, none⟩ = false := OV.out.fz 0
      have r0a : V.cell? ⟨w.heap.size + 1 + 1, 0, none⟩ = _ := RV.out.t0
      have s0a : V.frozen? ⟨w.heap.size + 1 + 1, 0, none⟩ = false := RV.out.fz 0
      have o1a : V.cell? ⟨w.heap.size + 1 + 1 + 1, 1, none⟩ = _ := OV.out.t1
      have z1a : V.frozen? ⟨w.heap.size + 1 + 1 + 1, 1, none⟩ = false := OV.out.fz 1
      have r1a : V.cell? ⟨w.heap.size + 1 + 1, 1, none⟩ = _ := RV.out.t1
      have s1a : V.frozen? ⟨w.heap.size + 1 + 1, 1, none⟩ = false := RV.out.fz 1
      have o2a : V.cell? ⟨w.heap.size + 1 + 1 + 1, 2, none⟩ = _ := OV.out.t2
      have z2a : V.frozen? ⟨w.heap.size + 1 + 1 + 1, 2, none⟩ = false := OV.out.fz 2
      have r2a : V.cell? ⟨w.heap.size + 1 + 1, 2, none⟩ = _ := RV.out.t2
      have s2a : V.frozen? ⟨w.heap.size + 1 + 1, 2, none⟩ = false := RV.out.fz 2
      go_wp2
      (try simp only [Exit.inBlock, Exit.then])
      refine close3 (g := w.heap.size + 1 + 1) (x := .slice A n c) (y := .slice A' n' c') (z := .bool false) rfl rfl rfl Tryd.underlying24 rfl size_rsp ?_ ?_
      · repeat (first | with_reducible exact RV.out | with_reducible refine Blk.drew_ ?_ | with_reducible refine Blk.drewN ?_ _ | with_reducible refine Blk.set3 (x := .slice none 0 0) (y := .slice none 0 0) (z := .bool false) ?_ _ _ _ | with_reducible refine Blk.far1 ?_ (show w.heap.size + 1 + 1 ≠ w.heap.size + 1 + 1 + 1 by omega) _)
      · refine SpPost.at_ (f := f) (t := t) (o := false) ?_ (fun BZ => ((HA.out _ BZ).1.1.more BZ.size)) (fun BZ => ((HA.out _ BZ).1.2.more BZ.size)) ?_
        · unfold meetS lateF endT
          simp only [HX.out, HY.out]
          rw [if_neg (show ¬ 0 < x from by have := H1.out; omega)]
          skip
          rfl
        · repeat (first | with_reducible exact BV.out | with_reducible refine below_drewN ?_ _ | with_reducible refine Below.drew ?_ | with_reducible refine Below.setCell ?_ (show w.heap.size ≤ w.heap.size + 1 + 1 + 1 by omega) _ | with_reducible refine Below.setCell ?_ (show w.heap.size ≤ w.heap.size + 1 + 1 by omega) _)
    · have H1 := Lib.hid h1
      generalize hV : w1 = V at *
      have TV := Lib.hid T1.out
      have UV := Lib.hid U1.out
      have RV := Lib.hid R1.out
      have OV := Lib.hid O1.out
      have BV := Lib.hid B1.out
      have o0a : V.cell? ⟨w.heap.size + 1 + 1 + 1, 0, none⟩ = _ := OV.out.t0
      have z0a : V.frozen? ⟨w.heap.size + 1 + 1 + 1, 0, none⟩ = false := OV.out.fz 0
      have r0a : V.cell? ⟨w.heap.size + 1 + 1, 0, none⟩ = _ := RV.out.t0
      have s0a : V.frozen? ⟨w.heap.size + 1 + 1, 0, none⟩ = false := RV.out.fz 0
      have o1a : V.cell? ⟨w.heap.size + 1 + 1 + 1, 1, none⟩ = _ := OV.out.t1
      have z1a : V.frozen? ⟨w.heap.size + 1 + 1 + 1, 1, none⟩ = false := OV.out.fz 1
      have r1a : V.cell? ⟨w.heap.size + 1 + 1, 1, none⟩ = _ := RV.out.t1
      have s1a : V.frozen? ⟨w.heap.size + 1 + 1, 1, none⟩ = false := RV.out.fz 1
      have o2a : V.cell? ⟨w.heap.size + 1 + 1 + 1, 2, none⟩ = _ := OV.out.t2
      have z2a : V.frozen? ⟨w.heap.size + 1 + 1 + 1, 2, none⟩ = false := OV.out.fz 2
      have r2a : V.cell? ⟨w.heap.size + 1 + 1, 2, none⟩ = _ := RV.out.t2
      have s2a : V.frozen? ⟨w.heap.size + 1 + 1, 2, none⟩ = false := RV.out.fz 2
      go_wp2_with fail
      go_region
      go_wp2
      (try simp only [Exit.inBlock, Exit.then])
      refine close3 (g := w.heap.size + 1 + 1) (x := .slice A n c) (y := .slice D' m' d') (z := .bool false) rfl rfl rfl Tryd.underlying24 rfl size_rsp ?_ ?_
      · repeat (first | with_reducible exact RV.out | with_reducible refine Blk.drew_ ?_ | with_reducible refine Blk.drewN ?_ _ | with_reducible refine Blk.set3 (x := .slice none 0 0) (y := .slice none 0 0) (z := .bool false) ?_ _ _ _ | with_reducible refine Blk.far1 ?_ (show w.heap.size + 1 + 1 ≠ w.heap.size + 1 + 1 + 1 by omega) _)
      · refine SpPost.at_ (f := f) (t := t2) (o := false) ?_ (fun BZ => ((HA.out _ BZ).1.1.more BZ.size)) (fun BZ => ((HA.out _ BZ).2.2.more BZ.size)) ?_
        · unfold meetS lateF endT
          simp only [HX.out, HY.out]
          rw [if_neg (show ¬ 0 < x from by have := H1.out; omega)]
          skip
          rfl
        · repeat (first | with_reducible exact BV.out | with_reducible refine below_drewN ?_ _ | with_reducible refine Below.drew ?_ | with_reducible refine Below.setCell ?_ (show w.heap.size ≤ w.heap.size + 1 + 1 + 1 by omega) _ | with_reducible refine Below.setCell ?_ (show w.heap.size ≤ w.heap.size + 1 + 1 by omega) _)
    · have H1 := Lib.hid h1
      generalize hV : w1 = V at *
      have TV := Lib.hid T1.out
      have UV := Lib.hid U1.out
      have RV := Lib.hid R1.out
      have OV := Lib.hid O1.out
      have BV := Lib.hid B1.out
      have o0a : V.cell? ⟨w.heap.size + 1 + 1 + 1, 0, none⟩ = _ := OV.out.t0
      have z0a : V.frozen? ⟨w.heap.size + 1 + 1 + 1, 0, none⟩ = false := OV.out.fz 0
      have r0a : V.cell? ⟨w.heap.size + 1 + 1, 0, none⟩ = _ := RV.out.t0
      have s0a : V.frozen? ⟨w.heap.size + 1 + 1, 0, none⟩ = false := RV.out.fz 0
      have o1a : V.cell? ⟨w.heap.size + 1 + 1 + 1, 1, none⟩ = _ := OV.out.t1
      have z1a : V.frozen? ⟨w.heap.size + 1 + 1 + 1, 1, none⟩ = false := OV.out.fz 1
      have r1a : V.cell? ⟨w.heap.size + 1 + 1, 1, none⟩ = _ := RV.out.t1
      have s1a : V.frozen? ⟨w.heap.size + 1 + 1, 1, none⟩ = false := RV.out.fz 1
      have o2a : V.cell? ⟨w.heap.size + 1 + 1 + 1, 2, none⟩ = _ := OV.out.t2
      have z2a : V.frozen? ⟨w.heap.size + 1 + 1 + 1, 2, none⟩ = false := OV.out.fz 2
      have r2a : V.cell? ⟨w.heap.size + 1 + 1, 2, none⟩ = _ := RV.out.t2
      have s2a : V.frozen? ⟨w.heap.size + 1 + 1, 2, none⟩ = false := RV.out.fz 2
      go_wp2_with fail
      go_region
      go_wp2
      (try simp only [Exit.inBlock, Exit.then])
      refine close3 (g := w.heap.size + 1 + 1) (x := .slice A n c) (y := .slice none 0 0) (z := .bool true) rfl rfl rfl Tryd.underlying24 rfl size_rsp ?_ ?_
      · repeat (first | with_reducible exact RV.out | with_reducible refine Blk.drew_ ?_ | with_reducible refine Blk.drewN ?_ _ | with_reducible refine Blk.set3 (x := .slice none 0 0) (y := .slice none 0 0) (z := .bool false) ?_ _ _ _ | with_reducible refine Blk.far1 ?_ (show w.heap.size + 1 + 1 ≠ w.heap.size + 1 + 1 + 1 by omega) _)
      · refine SpPost.at_ (f := f) (t := []) (o := true) ?_ (fun BZ => ((HA.out _ BZ).1.1.more BZ.size)) (fun _ => Byt.none_) ?_
        · unfold meetS lateF endT
          simp only [HX.out, HY.out]
          rw [if_neg (show ¬ 0 < x from by have := H1.out; omega)]
          skip
          rfl
        · repeat (first | with_reducible exact BV.out | with_reducible refine below_drewN ?_ _ | with_reducible refine Below.drew ?_ | with_reducible refine Below.setCell ?_ (show w.heap.size ≤ w.heap.size + 1 + 1 + 1 by omega) _ | with_reducible refine Below.setCell ?_ (show w.heap.size ≤ w.heap.size + 1 + 1 by omega) _)
end Go.Proofs.YtofccfbiappgaaaDoor
