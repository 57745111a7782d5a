/-
  What the document's Prefix, Has, Empty and Same of layer 7 answer.
-/
import Derived.Test.YtofccfbiappgaaaDoorBnd
namespace Go.Proofs.YtofccfbiappgaaaDoor
open Go.RowKit

set_option maxRecDepth 100000 in
set_option maxHeartbeats 1000000 in
theorem rprefix_any (A : Option Addr) (n c B : Nat) (p : List UInt8) (w : World) (hp : Byt w B A n p) (hB : B ≤ w.heap.size) (hc : n ≤ c) (hn : n ≤ 1099511627776) : Calls Tryd.prog 10 #[.slice A n c] w (SpPost w (prefS p)) := by
  have HA := Lib.hid (fun V (h : Below w.heap.size w V) => (hp.more hB).below h)
  clear hp
  generalize hW : w.alloc (.cells #[.slice none 0 0, .slice none 0 0, .bool false] 24) = W
  have HT := Lib.hid (show Three W w.heap.size (.slice none 0 0) (.slice none 0 0) (.bool false) from by subst hW; exact Three.new _ _ _ _ _)
  have HB := Lib.hid (show Below w.heap.size w W from by subst hW; exact (Below.refl _ _).alloc (Nat.le_refl _) _)
  go_enter Tryd.func10, Tryd.ntmps10
  go_wp2_with fail
  clear hW
  (with_reducible refine (rnext_any A n c w.heap.size p W (HA.out _ HB.out) hc (by omega)).mono ?_)
  rintro e w1 ⟨A1, n1, c1, rfl, y1, h1⟩
  have B1 := Lib.hid (HB.out.trans (h1.mono HB.out.size))
  have T1 := Lib.hid (HT.out.below h1 HT.out.lt)
  have Y1 := Lib.hid y1
  clear h1 y1
  have t0 := T1.out.t0
  have t1 := T1.out.t1
  have t2 := T1.out.t2
  have z0 := T1.out.fz 0
  have z1 := T1.out.fz 1
  have z2 := T1.out.fz 2
  go_wp2
  (try simp only [Exit.inBlock, Exit.then])
  have e := Blk.load3 Tryd.underlying24 rfl size_rsp (T1.out.set3 (.slice A n c) (.slice A1 n1 c1) (.bool (!nextB p)))
  refine bodyPost_ret (v := .agg #[.slice A n c, .slice A1 n1 c1, .bool (!nextB p)]) (by rw [results_cell1 rfl]; simp [asAddr, Result.andThen, e]) rfl ?_
  refine SpPost.of (f := p) (t := nextL p) rfl ?_ ?_ (below_set3 B1.out (Nat.le_refl _) _ _ _)
  · rw [size_set3]; exact T1.out.keep3 ((HA.out _ B1.out).more B1.out.size) _ _ _
  · rw [size_set3]; exact T1.out.keep3 Y1.out _ _ _

set_option maxRecDepth 100000 in
set_option maxHeartbeats 1000000 in
theorem rhas_any (A A' A2 : Option Addr) (n c n' c' n2 c2 B : Nat) (f t l : List UInt8) (o : Bool) (w : World) (hf : Byt w B A n f) (ht : Byt w B A' n' t) (hl : Byt w B A2 n2 l) (hB : B ≤ w.heap.size) :
    Calls Tryd.prog 13 #[.agg #[.slice A n c, .slice A' n' c', .bool o], .slice A2 n2 c2] w fun e w' => e = .returned (.bool (hasS ⟨f, t, o⟩ l)) ∧ Below w.heap.size w w' := by
  have HA := Lib.hid (fun V (h : Below w.heap.size w V) => And.intro ((hf.more hB).below h) (And.intro ((ht.more hB).below h) ((hl.more hB).below h)))
  clear hf ht hl
  generalize hW : w.alloc (.cells #[.slice A n c, .slice A' n' c', .bool o] 24) = W
  have hT : Three W w.heap.size (.slice A n c) (.slice A' n' c') (.bool o) := by subst hW; exact Three.new _ _ _ _ _
  have HB := Lib.hid (show Below w.heap.size w W from by subst hW; exact (Below.refl _ _).alloc (Nat.le_refl _) _)
  have t0 := hT.t0
  have t1 := hT.t1
  have t2 := hT.t2
  clear hT
  have HF := Lib.hid (cmpL_flip f l)
  generalize hx : cmpL f l = x
  have HX := Lib.hid hx
  by_cases h1 : x ≤ 0
  · cases o with
    | true =>
      go_enter Tryd.func13, Tryd.ntmps13
      go_wp2_with fail
      clear hW
      (with_reducible refine (rcmp_any A A2 n n2 c c2 _ f l W (HA.out _ HB.out).1 (HA.out _ HB.out).2.2).mono ?_)
      rintro e w1 ⟨rfl, q, rfl⟩
      rw [hx]
      go_wp2
      go_ret
      exact ⟨ret_bool (by unfold hasS; have := HF.out; have := HX.out; rw [decide_eq_true (show 0 ≤ cmpL l f from by omega)]; rfl), below_drewN HB.out _⟩
    | false =>
      go_enter Tryd.func13, Tryd.ntmps13
      go_wp2_with fail
      clear hW
      (with_reducible refine (rcmp_any A A2 n n2 c c2 _ f l W (HA.out _ HB.out).1 (HA.out _ HB.out).2.2).mono ?_)
      rintro e w1 ⟨rfl, q, rfl⟩
      rw [hx]
      have B1 := Lib.hid (below_drewN HB.out q)
      go_wp2_with fail
      (with_reducible refine (rcmp_any A2 A' n2 n' c2 c' _ l t _ (HA.out _ B1.out).2.2 (HA.out _ B1.out).2.1).mono ?_)
      rintro e w2 ⟨rfl, q2, rfl⟩
      go_wp2
      go_ret
      exact ⟨ret_bool (by unfold hasS; have := HF.out; have := HX.out; rw [decide_eq_true (show 0 ≤ cmpL l f from by omega)]; rfl), below_drewN HB.out _⟩
  · go_enter Tryd.func13, Tryd.ntmps13
    go_wp2_with fail
    clear hW
    (with_reducible refine (rcmp_any A A2 n n2 c c2 _ f l W (HA.out _ HB.out).1 (HA.out _ HB.out).2.2).mono ?_)
    rintro e w1 ⟨rfl, q, rfl⟩
    rw [hx]
    go_wp2
    go_ret
    exact ⟨ret_bool (by unfold hasS; have := HF.out; have := HX.out; rw [decide_eq_false (show ¬ 0 ≤ cmpL l f from by omega)]; rfl), below_drewN HB.out _⟩

set_option maxRecDepth 100000 in
set_option maxHeartbeats 1000000 in
theorem rempty_any (A A' : Option Addr) (n c n' c' B : Nat) (f t : List UInt8) (o : Bool) (w : World) (hf : Byt w B A n f) (ht : Byt w B A' n' t) (hB : B ≤ w.heap.size) :
    Calls Tryd.prog 15 #[.agg #[.slice A n c, .slice A' n' c', .bool o]] w fun e w' => e = .returned (.bool (emptyS ⟨f, t, o⟩)) ∧ Below w.heap.size w w' := by
  have HA := Lib.hid (fun V (h : Below w.heap.size w V) => And.intro ((hf.more hB).below h) ((ht.more hB).below h))
  clear hf ht
  generalize hW : w.alloc (.cells #[.slice A n c, .slice A' n' c', .bool o] 24) = W
  have hT : Three W w.heap.size (.slice A n c) (.slice A' n' c') (.bool o) := by subst hW; exact Three.new _ _ _ _ _
  have HB := Lib.hid (show Below w.heap.size w W from by subst hW; exact (Below.refl _ _).alloc (Nat.le_refl _) _)
  have t0 := hT.t0
  have t1 := hT.t1
  have t2 := hT.t2
  clear hT
  have HF := Lib.hid (cmpL_flip f t)
  cases o with
  | true =>
    go_enter Tryd.func15, Tryd.ntmps15
    go_wp2
    go_ret
    exact ⟨ret_bool rfl, HB.out⟩
  | false =>
    go_enter Tryd.func15, Tryd.ntmps15
    go_wp2_with fail
    clear hW
    (with_reducible refine (rcmp_any A' A n' n c' c _ t f W (HA.out _ HB.out).2 (HA.out _ HB.out).1).mono ?_)
    rintro e w1 ⟨rfl, q, rfl⟩
    go_wp2
    go_ret
    exact ⟨ret_bool (by unfold emptyS; have := HF.out; simp only [Bool.not_false, Bool.true_and]; exact decide_eq_decide.2 (by omega)), below_drewN HB.out _⟩

set_option maxRecDepth 100000 in
set_option maxHeartbeats 1000000 in
theorem rbsame_any (A A' D D' : Option Addr) (n c n' c' m d m' d' B : Nat) (f t f2 t2 : List UInt8) (o o2 : Bool) (w : World) (hf : Byt w B A n f) (ht : Byt w B A' n' t) (hf2 : Byt w B D m f2) (ht2 : Byt w B D' m' t2) (hB : B ≤ w.heap.size) :
    Calls Tryd.prog 17 #[.agg #[.slice A n c, .slice A' n' c', .bool o], .agg #[.slice D m d, .slice D' m' d', .bool o2]] w fun e w' => e = .returned (.bool (sameS ⟨f, t, o⟩ ⟨f2, t2, o2⟩)) ∧ Below w.heap.size w w' := by
  have HA := Lib.hid (fun V (h : Below w.heap.size w V) => And.intro (And.intro ((hf.more hB).below h) ((ht.more hB).below h)) (And.intro ((hf2.more hB).below h) ((ht2.more hB).below h)))
  clear hf ht hf2 ht2
  generalize hW : (w.alloc (.cells #[.slice A n c, .slice A' n' c', .bool o] 24)).alloc (.cells #[.slice D m d, .slice D' m' d', .bool o2] 24) = W
  have hT : Three W w.heap.size (.slice A n c) (.slice A' n' c') (.bool o) := by subst hW; exact (Three.new _ _ _ _ _).alloc _
  have hU : Three W (w.heap.size + 1) (.slice D m d) (.slice D' m' d') (.bool o2) := by subst hW; have := Three.new (w.alloc (.cells #[.slice A n c, .slice A' n' c', .bool o] 24)) 24 (.slice D m d) (.slice D' m' d') (.bool o2); rwa [World.size_alloc] at this
  have HB := Lib.hid (show Below w.heap.size w W from by subst hW; exact ((Below.refl _ _).alloc (Nat.le_refl _) _).alloc (by simp) _)
  have a0 := hT.t0
  have a1 := hT.t1
  have a2 := hT.t2
  have b0 := hU.t0
  have b1 := hU.t1
  have b2 := hU.t2
  clear hT hU
  generalize hs : sameB f f2 = s
  have HS := Lib.hid hs
  cases s with
  | false =>
    go_enter Tryd.func17, Tryd.ntmps17
    go_wp2_with fail
    clear hW
    (with_reducible refine (rsame_any A D n m c d _ f f2 W (HA.out _ HB.out).1.1 (HA.out _ HB.out).2.1).mono ?_)
    rintro e w1 ⟨rfl, q, rfl⟩
    rw [hs]
    go_wp2
    go_ret
    exact ⟨ret_bool (by simp [sameS, HS.out]), below_drewN HB.out _⟩
  | true =>
    cases o <;> cases o2
    · go_enter Tryd.func17, Tryd.ntmps17
      go_wp2_with fail
      clear hW
      (with_reducible refine (rsame_any A D n m c d _ f f2 W (HA.out _ HB.out).1.1 (HA.out _ HB.out).2.1).mono ?_)
      rintro e w1 ⟨rfl, q, rfl⟩
      rw [hs]
      have B1 := Lib.hid (below_drewN HB.out q)
      go_wp2_with fail
      (with_reducible refine (rsame_any A' D' n' m' c' d' _ t t2 _ (HA.out _ B1.out).1.2 (HA.out _ B1.out).2.2).mono ?_)
      rintro e w2 ⟨rfl, q2, rfl⟩
      go_wp2
      go_ret
      exact ⟨ret_bool (by simp [sameS, HS.out]), below_drewN HB.out _⟩
    all_goals
      go_enter Tryd.func17, Tryd.ntmps17
      go_wp2_with fail
      clear hW
      (with_reducible refine (rsame_any A D n m c d _ f f2 W (HA.out _ HB.out).1.1 (HA.out _ HB.out).2.1).mono ?_)
      rintro e w1 ⟨rfl, q, rfl⟩
      rw [hs]
      go_wp2
      go_ret
      exact ⟨ret_bool (by simp [sameS, HS.out]), below_drewN HB.out _⟩
end Go.Proofs.YtofccfbiappgaaaDoor
