/-
  What bounds' Has, Empty, Same, Whole and Prefix answer.
-/
import Derived.Test.YtofccfbiappgaaaDoorBndMem
import Derived.Test.YtofccfbiappgaaaDoorKeys
import Derived.Test.YtofccfbiappgaaaDoorField
import Derived.Deep.RegionHeld3
namespace Go.Proofs.YtofccfbiappgaaaDoor
open Go.RowKit

theorem hasS_is {f t l : List UInt8} {o b d : Bool} (h1 : decide (cmpL l f < 0) = b) (h2 : o = true ∨ decide (cmpL l t < 0) = d) : hasS ⟨f, t, o⟩ l = (!b && (o || d)) := by
  subst h1
  have e : decide (0 ≤ cmpL l f) = !decide (cmpL l f < 0) := by
    by_cases h : cmpL l f < 0
    · simp [h]
    · simp [h, show 0 ≤ cmpL l f from by omega]
  unfold hasS
  simp only [e]
  rcases h2 with rfl | rfl
  · simp
  · rfl
set_option maxRecDepth 100000 in
set_option maxHeartbeats 1000000 in
theorem has_any (A A' A2 : Option Addr) (n c n' c' n2 c2 B : Nat) (f t l : List UInt8) (o : Bool) (w : World) (hf : Byt w B A n f) (ht : Byt w B A' n' t) (hl : Byt w B A2 n2 l) (hB : B ≤ w.heap.size) :
    Calls Tryd.prog 11 #[.agg #[.slice A n c, .slice A' n' c', .bool o], .slice A2 n2 c2] w fun e w' => e = .returned (.bool (hasS ⟨f, t, o⟩ l)) ∧ Below w.heap.size w w' := by
  have HA := Lib.hid (fun V (h : Below w.heap.size w V) => And.intro ((hf.more hB).below h) (And.intro ((ht.more hB).below h) ((hl.more hB).below h)))
  clear hf ht hl
  generalize hW : w.alloc (.cells #[.slice A n c, .slice A' n' c', .bool o] 28) = W
  have hT : Three W w.heap.size (.slice A n c) (.slice A' n' c') (.bool o) := by subst hW; exact Three.new _ _ _ _ _
  have HB := Lib.hid (show Below w.heap.size w W from by subst hW; exact (Below.refl _ _).alloc (Nat.le_refl _) _)
  have HT := Lib.hid hT
  have t0 := hT.t0
  have t1 := hT.t1
  have t2 := hT.t2
  clear hT
  generalize hb : decide (cmpL l f < 0) = b
  generalize hd : decide (cmpL l t < 0) = d
  have HD := Lib.hid (And.intro hb hd)
  clear hb hd
  go_enter Tryd.func11, Tryd.ntmps11
  go_wp2_with fail
  clear hW
  (with_reducible refine (ahead_any A n c W).mono ?_)
  rintro e w1 ⟨rfl, hg, h1⟩
  have T1 := Lib.hid (HT.out.below h1 HT.out.lt)
  have B1 := Lib.hid (HB.out.trans (h1.mono HB.out.size))
  clear t0 t1 t2 h1
  go_wp2_with fail
  (with_reducible refine (ahead1_any A2 A n2 c2 n c _ W.heap.size l f b w1 (HA.out _ B1.out).2.2 (HA.out _ B1.out).1 hg HD.out.1).mono ?_)
  rintro e w2 ⟨rfl, q, rfl⟩
  have T2 := Lib.hid (T1.out.drewN q)
  have B2 := Lib.hid (below_drewN B1.out q)
  clear hg T1 B1
  generalize w1.drewN q = w2 at *
  have t1 := T2.out.t1
  have t2 := T2.out.t2
  cases b with
  | true =>
    go_wp2
    go_ret
    exact ⟨ret_bool (by have := hasS_is (o := o) (t := t) HD.out.1 (.inr HD.out.2); rw [this]; rfl), B2.out⟩
  | false =>
    cases o with
    | true =>
      go_wp2
      go_ret
      exact ⟨ret_bool (by have := hasS_is (o := true) (t := t) HD.out.1 (.inr HD.out.2); rw [this]; rfl), B2.out⟩
    | false =>
      go_wp2_with fail
      (with_reducible refine (ahead_any A' n' c' w2).mono ?_)
      rintro e w3 ⟨rfl, hg, h3⟩
      have B3 := Lib.hid (B2.out.trans (h3.mono B2.out.size))
      clear t1 t2 h3
      go_wp2_with fail
      (with_reducible refine (ahead1_any A2 A' n2 c2 n' c' _ w2.heap.size l t d w3 (HA.out _ B3.out).2.2 (HA.out _ B3.out).2.1 hg HD.out.2).mono ?_)
      rintro e w4 ⟨rfl, q, rfl⟩
      have B4 := Lib.hid (below_drewN B3.out q)
      go_wp2
      go_ret
      exact ⟨ret_bool (by have := hasS_is (o := false) (t := t) HD.out.1 (.inr HD.out.2); rw [this]; rfl), B4.out⟩

theorem emptyS_is {f t : List UInt8} {d : Bool} (h : decide (cmpL f t < 0) = d) : emptyS ⟨f, t, false⟩ = !d := by
  subst h
  unfold emptyS
  by_cases h : cmpL f t < 0
  · simp [h]
  · simp [h, show 0 ≤ cmpL f t from by omega]
set_option maxRecDepth 100000 in
set_option maxHeartbeats 1000000 in
theorem empty_any (A A' : Option Addr) (n c n' c' B : Nat) (f t : List UInt8) (o : Bool) (w : World) (hf : Byt w B A n f) (ht : Byt w B A' n' t) (hB : B ≤ w.heap.size) :
    Calls Tryd.prog 14 #[.agg #[.slice A n c, .slice A' n' c', .bool o]] w fun e w' => e = .returned (.bool (emptyS ⟨f, t, o⟩)) ∧ Below w.heap.size w w' := by
  have HA := Lib.hid (fun V (h : Below w.heap.size w V) => And.intro ((hf.more hB).below h) ((ht.more hB).below h))
  clear hf ht
  generalize hW : w.alloc (.cells #[.slice A n c, .slice A' n' c', .bool o] 28) = W
  have hT : Three W w.heap.size (.slice A n c) (.slice A' n' c') (.bool o) := by subst hW; exact Three.new _ _ _ _ _
  have HB := Lib.hid (show Below w.heap.size w W from by subst hW; exact (Below.refl _ _).alloc (Nat.le_refl _) _)
  have t0 := hT.t0
  have t1 := hT.t1
  have t2 := hT.t2
  have hlt := hT.lt
  clear hT
  generalize hd : decide (cmpL f t < 0) = d
  have HD := Lib.hid hd
  clear hd
  cases o with
  | true =>
    go_enter Tryd.func14, Tryd.ntmps14
    go_wp2_with fail
    clear hW
    go_quiet (fail)
    go_wp2
    go_ret
    exact ⟨ret_bool rfl, by repeat (first | exact HB.out | apply below_drewN | apply Below.drew)⟩
  | false =>
    go_enter Tryd.func14, Tryd.ntmps14
    go_wp2_with fail
    clear hW
    go_region_held3 (fun w' => w'.cell? ⟨w.heap.size, 0, none⟩ = some (.slice A n c) ∧ w'.cell? ⟨w.heap.size, 1, none⟩ = some (.slice A' n' c') ∧ w'.cell? ⟨w.heap.size, 2, none⟩ = some (.bool false))
      (first | go_keep | exact ⟨(h1.cell (p := ⟨w.heap.size, 0, none⟩) hlt).trans t0, (h1.cell (p := ⟨w.heap.size, 1, none⟩) hlt).trans t1, (h1.cell (p := ⟨w.heap.size, 2, none⟩) hlt).trans t2⟩)
      (first
        | (go_at_call 33; refine (ahead_any A' n' c' _).mono ?_; rintro e v1 ⟨rfl, hg, h1⟩; have B1 := Lib.hid (Below.trans (by repeat (first | exact HB.out | apply below_drewN | apply Below.drew)) (h1.mono HB.out.size)))
        | (go_at_call 42; refine (ahead1_any A A' n c n' c' w.heap.size _ f t d _ (HA.out _ (by repeat (first | exact B1.out | apply below_drewN | apply Below.drew))).1 (HA.out _ (by repeat (first | exact B1.out | apply below_drewN | apply Below.drew))).2 hg HD.out).mono ?_; rintro e v2 ⟨rfl, q, rfl⟩))
    go_wp2
    go_ret
    exact ⟨ret_bool (emptyS_is HD.out).symm, by repeat (first | exact B1.out | apply below_drewN | apply Below.drew)⟩

set_option maxRecDepth 100000 in
set_option maxHeartbeats 1000000 in
theorem bsame_any (A A' D D' : Option Addr) (n c n' c' m d m' d' B : Nat) (f t f2 t2 : List UInt8) (o o2 : Bool) (w : World) (hf : Byt w B A n f) (ht : Byt w B A' n' t) (hf2 : Byt w B D m f2) (ht2 : Byt w B D' m' t2) (hB : B ≤ w.heap.size) :
    Calls Tryd.prog 16 #[.agg #[.slice A n c, .slice A' n' c', .bool o], .agg #[.slice D m d, .slice D' m' d', .bool o2]] w fun e w' => e = .returned (.bool (sameS ⟨f, t, o⟩ ⟨f2, t2, o2⟩)) ∧ Below w.heap.size w w' := by
  have HA := Lib.hid (fun V (h : Below w.heap.size w V) => And.intro (And.intro ((hf.more hB).below h) ((ht.more hB).below h)) (And.intro ((hf2.more hB).below h) ((ht2.more hB).below h)))
  clear hf ht hf2 ht2
  generalize hW : (w.alloc (.cells #[.slice A n c, .slice A' n' c', .bool o] 28)).alloc (.cells #[.slice D m d, .slice D' m' d', .bool o2] 28) = W
  have hT : Three W w.heap.size (.slice A n c) (.slice A' n' c') (.bool o) := by subst hW; exact (Three.new _ _ _ _ _).alloc _
  have hU : Three W (w.heap.size + 1) (.slice D m d) (.slice D' m' d') (.bool o2) := by subst hW; have := Three.new (w.alloc (.cells #[.slice A n c, .slice A' n' c', .bool o] 28)) 28 (.slice D m d) (.slice D' m' d') (.bool o2); rwa [World.size_alloc] at this
  have HB := Lib.hid (show Below w.heap.size w W from by subst hW; exact ((Below.refl _ _).alloc (Nat.le_refl _) _).alloc (by simp) _)
  have HT := Lib.hid hT
  have HU := Lib.hid hU
  have a0 := hT.t0
  have a1 := hT.t1
  have a2 := hT.t2
  have b0 := hU.t0
  have b1 := hU.t1
  have b2 := hU.t2
  clear hT hU
  by_cases ho : o = o2
  · subst ho
    generalize hs : sameB f f2 = s
    have HS := Lib.hid hs
    clear hs
    have e0 : (o != o) = false := by cases o <;> rfl
    cases o with
    | true =>
      go_enter Tryd.func16, Tryd.ntmps16
      go_wp2_with fail
      clear hW
      (with_reducible refine (same_any A D n m c d _ f f2 W (HA.out _ HB.out).1.1 (HA.out _ HB.out).2.1).mono ?_)
      rintro e w1 ⟨rfl, q, rfl⟩
      rw [HS.out]
      have B1 := Lib.hid (below_drewN HB.out q)
      cases s with
      | false =>
        go_wp2
        go_ret
        exact ⟨ret_bool (by simp [sameS, HS.out]), B1.out⟩
      | true =>
        go_wp2
        go_ret
        exact ⟨ret_bool (by simp [sameS, HS.out]), B1.out⟩
    | false =>
      go_enter Tryd.func16, Tryd.ntmps16
      go_wp2_with fail
      clear hW
      (with_reducible refine (same_any A D n m c d _ f f2 W (HA.out _ HB.out).1.1 (HA.out _ HB.out).2.1).mono ?_)
      rintro e w1 ⟨rfl, q, rfl⟩
      rw [HS.out]
      have B1 := Lib.hid (below_drewN HB.out q)
      cases s with
      | false =>
        go_wp2
        go_ret
        exact ⟨ret_bool (by simp [sameS, HS.out]), B1.out⟩
      | true =>
        go_wp2_with fail
        (with_reducible refine (same_any A' D' n' m' c' d' _ t t2 _ (HA.out _ B1.out).1.2 (HA.out _ B1.out).2.2).mono ?_)
        rintro e w2 ⟨rfl, q2, rfl⟩
        have B2 := Lib.hid (below_drewN B1.out q2)
        go_wp2
        go_ret
        exact ⟨ret_bool (by simp [sameS, HS.out]), below_drewN HB.out _⟩
  · have e0 : (o != o2) = true := by simpa using ho
    go_enter Tryd.func16, Tryd.ntmps16
    go_wp2
    go_ret
    exact ⟨ret_bool (by simp [sameS, ho]), HB.out⟩

set_option maxRecDepth 100000 in
theorem size_sp : (Tryd.prog.info? 28).map (·.size) = some 3 := by kernel_rfl
set_option maxRecDepth 100000 in
theorem size_rsp : (Tryd.prog.info? 24).map (·.size) = some 3 := by kernel_rfl
set_option maxRecDepth 100000 in
theorem whole_any (w : World) : Calls Tryd.prog 20 #[] w (SpPost w ⟨[], [], true⟩) := by
  go_enter Tryd.func20, Tryd.ntmps20
  go_wp2
  (try simp only [Exit.inBlock, Exit.then])
  have e := Blk.load3 Tryd.underlying28 rfl size_sp (Three.new w 28 (.slice none 0 0) (.slice none 0 0) (.bool true))
  refine bodyPost_ret (v := .agg #[.slice none 0 0, .slice none 0 0, .bool true]) (by rw [results_cell1 rfl]; simp [asAddr, Result.andThen, e]) rfl ?_
  exact ⟨_, _, _, _, _, _, rfl, Byt.none_, Byt.none_, (Below.refl _ _).alloc (Nat.le_refl _) _⟩

theorem SpPost.of {w w' : World} {s : Sp} {f t : List UInt8} {o : Bool} {A A' : Option Addr} {n c n' c' : Nat} (hs : s = ⟨f, t, o⟩) (hf : Byt w' w'.heap.size A n f) (ht : Byt w' w'.heap.size A' n' t) (hb : Below w.heap.size w w') : SpPost w s (.returned (.agg #[.slice A n c, .slice A' n' c', .bool o])) w' := by
  subst hs
  exact ⟨_, _, _, _, _, _, rfl, hf, ht, hb⟩
set_option maxRecDepth 100000 in
set_option maxHeartbeats 1000000 in
theorem prefix_any (A : Option Addr) (n c B : Nat) (p : List UInt8) (w : World) (hp : Byt w B A n p) (hB : B ≤ w.heap.size) (hn : n ≤ 1099511627776) : Calls Tryd.prog 9 #[.slice A n c] w (SpPost w (prefS p)) := by
  have HA := Lib.hid (fun V (h : Below w.heap.size w V) => (hp.more hB).below h)
  clear hp
  generalize hW : w.alloc (.cells #[.slice none 0 0, .slice none 0 0, .bool false] 28) = W
  have HT := Lib.hid (show Three W w.heap.size (.slice none 0 0) (.slice none 0 0) (.bool false) from by subst hW; exact Three.new _ _ _ _ _)
  have HB := Lib.hid (show Below w.heap.size w W from by subst hW; exact (Below.refl _ _).alloc (Nat.le_refl _) _)
  go_enter Tryd.func9, Tryd.ntmps9
  go_wp2_with fail
  clear hW
  (with_reducible refine (next_any A n c w.heap.size p W (HA.out _ HB.out) HB.out.size (by omega)).mono ?_)
  rintro e w1 ⟨A1, n1, c1, rfl, y1, h1⟩
  have B1 := Lib.hid (HB.out.trans (h1.mono HB.out.size))
  have T1 := Lib.hid (HT.out.below h1 HT.out.lt)
  have Y1 := Lib.hid y1
  clear h1 y1
  go_wp2_with fail
  (with_reducible refine (clone_any A n c w.heap.size p w1 (HA.out _ B1.out) B1.out.size hn).mono ?_)
  rintro e w2 ⟨A2, n2, c2, rfl, y2, nc2, h2⟩
  have B2 := Lib.hid (B1.out.trans (h2.mono B1.out.size))
  have T2 := Lib.hid (T1.out.below h2 T1.out.lt)
  have Y1' := Lib.hid ((Y1.out.below h2).more h2.size)
  have Y2 := Lib.hid y2
  clear h2 y2
  have t0 := T2.out.t0
  have t1 := T2.out.t1
  have t2 := T2.out.t2
  have z0 := T2.out.fz 0
  have z1 := T2.out.fz 1
  have z2 := T2.out.fz 2
  go_wp2
  (try simp only [Exit.inBlock, Exit.then])
  have e := Blk.load3 Tryd.underlying28 rfl size_sp (T2.out.set3 (.slice A2 n2 c2) (.slice A1 n1 c1) (.bool (!nextB p)))
  refine bodyPost_ret (v := .agg #[.slice A2 n2 c2, .slice A1 n1 c1, .bool (!nextB p)]) (by rw [results_cell1 rfl]; simp [asAddr, Result.andThen, e]) rfl ?_
  refine SpPost.of (f := p) (t := nextL p) rfl ?_ ?_ (below_set3 B2.out (Nat.le_refl _) _ _ _)
  · rw [size_set3]; exact T2.out.keep3 Y2.out _ _ _
  · rw [size_set3]; exact T2.out.keep3 Y1'.out _ _ _
end Go.Proofs.YtofccfbiappgaaaDoor
