/-
  What field.Bare, cmpRising, Cmp, Same and the document's Bare, up, Cmp answer, and the statements' own same of two values that are the same.
-/
import Derived.Test.YtknkpmkpcfiefaaDoorField
import Derived.Test.YtknkpmkpcfiefaaDoorUencCmp
namespace Go.Proofs.YtknkpmkpcfiefaaDoor
open Go.RowKit

/-- What is left where a value is handed back: its parts, the text in memory that stays. -/
def VPost (w : World) (u : Nat) (i : Int) (l : List UInt8) (t : Bool) (e : Ending) (w' : World) : Prop :=
  ∃ A n c, e = .returned (.agg #[.int .u64 (u : Int), .int .i64 i, .slice A n c, .bool t]) ∧ Byt w' w'.heap.size A n l ∧ n ≤ c ∧ Below w.heap.size w w'
theorem VPost.of {w w' : World} {u u' : Nat} {i i' : Int} {l l' : List UInt8} {t t' : Bool} {A : Option Addr} {n c : Nat} (hy : Byt w' w'.heap.size A n l) (hnc : n ≤ c) (hu : u = u') (hi : i = i') (hl : l = l') (ht : t = t') (hb : Below w.heap.size w w') :
    VPost w u' i' l' t' (.returned (.agg #[.int .u64 (u : Int), .int .i64 i, .slice A n c, .bool t])) w' := by
  subst hu hi hl ht
  exact ⟨A, n, c, rfl, hy, hnc, hb⟩
theorem VPost.zero {w w' : World} {u' : Nat} {i' : Int} {l' : List UInt8} {t' : Bool} {i : Int} {t : Bool} (hu : 0 = u') (hi : i = i') (hl : [] = l') (ht : t = t') (hb : Below w.heap.size w w') :
    VPost w u' i' l' t' (.returned (.agg #[.int .u64 0, .int .i64 i, .slice none 0 0, .bool t])) w' :=
  VPost.of (u := 0) Byt.none_ (Nat.le_refl _) hu hi hl ht hb

set_option maxRecDepth 100000 in
set_option maxHeartbeats 4000000 in
theorem bare_any (k : Int) (f : Bool) (u : Nat) (i : Int) (A : Option Addr) (n c B : Nat) (l : List UInt8) (t : Bool) (w : World) (ha : Byt w B A n l) (hB : B ≤ w.heap.size) (hn : n ≤ 1000000) :
    Calls Tryd.prog 10 #[.agg #[.int .i64 k, .bool f], .agg #[.int .u64 (u : Int), .int .i64 i, .slice A n c, .bool t]] w (VPost w (bU k u) (bI k i) (bL k l) (bT k t)) := by
  have HA := Lib.hid (fun V (h : Below w.heap.size w V) => (ha.more hB).below h)
  clear ha
  rcases kinds k with rfl | rfl | rfl | rfl | rfl | rfl | rfl | rfl | rfl | rfl | ⟨⟨n1, n2, n3, n4⟩, ⟨n5, n6, n7, n8⟩, n9, n10⟩
  · go_enter Tryd.func10, Tryd.ntmps10
    go_wp2
    (try simp only [Exit.inBlock, Exit.then])
    have e := Blk.load Tryd.underlying33 rfl size_v (Four.new ((w.alloc (.cells #[.int .i64 1, .bool f] 32)).alloc (.cells #[.int .u64 (u : Int), .int .i64 i, .slice A n c, .bool t] 33)) 33 (.int .u64 (u : Int)) (.int .i64 0) (.slice none 0 0) (.bool false))
    simp only [World.size_alloc, Nat.add_assoc, Nat.reduceAdd] at e
    refine bodyPost_ret (v := .agg #[.int .u64 (u : Int), .int .i64 0, .slice none 0 0, .bool false]) (by rw [results_cell1 rfl]; simp [asAddr, Result.andThen, e]) rfl ?_
    exact VPost.of Byt.none_ (Nat.le_refl _) rfl rfl rfl rfl ((((Below.refl _ _).alloc (Nat.le_refl _) _).alloc (by simp) _).alloc (by simp; omega) _)
  · go_enter Tryd.func10, Tryd.ntmps10
    go_wp2
    (try simp only [Exit.inBlock, Exit.then])
    have e := Blk.load Tryd.underlying33 rfl size_v (Four.new ((w.alloc (.cells #[.int .i64 2, .bool f] 32)).alloc (.cells #[.int .u64 (u : Int), .int .i64 i, .slice A n c, .bool t] 33)) 33 (.int .u64 (u : Int)) (.int .i64 0) (.slice none 0 0) (.bool false))
    simp only [World.size_alloc, Nat.add_assoc, Nat.reduceAdd] at e
    refine bodyPost_ret (v := .agg #[.int .u64 (u : Int), .int .i64 0, .slice none 0 0, .bool false]) (by rw [results_cell1 rfl]; simp [asAddr, Result.andThen, e]) rfl ?_
    exact VPost.of Byt.none_ (Nat.le_refl _) rfl rfl rfl rfl ((((Below.refl _ _).alloc (Nat.le_refl _) _).alloc (by simp) _).alloc (by simp; omega) _)
  · go_enter Tryd.func10, Tryd.ntmps10
    go_wp2
    (try simp only [Exit.inBlock, Exit.then])
    have e := Blk.load Tryd.underlying33 rfl size_v (Four.new ((w.alloc (.cells #[.int .i64 3, .bool f] 32)).alloc (.cells #[.int .u64 (u : Int), .int .i64 i, .slice A n c, .bool t] 33)) 33 (.int .u64 (u : Int)) (.int .i64 0) (.slice none 0 0) (.bool false))
    simp only [World.size_alloc, Nat.add_assoc, Nat.reduceAdd] at e
    refine bodyPost_ret (v := .agg #[.int .u64 (u : Int), .int .i64 0, .slice none 0 0, .bool false]) (by rw [results_cell1 rfl]; simp [asAddr, Result.andThen, e]) rfl ?_
    exact VPost.of Byt.none_ (Nat.le_refl _) rfl rfl rfl rfl ((((Below.refl _ _).alloc (Nat.le_refl _) _).alloc (by simp) _).alloc (by simp; omega) _)
  · go_enter Tryd.func10, Tryd.ntmps10
    go_wp2
    (try simp only [Exit.inBlock, Exit.then])
    have e := Blk.load Tryd.underlying33 rfl size_v (Four.new ((w.alloc (.cells #[.int .i64 4, .bool f] 32)).alloc (.cells #[.int .u64 (u : Int), .int .i64 i, .slice A n c, .bool t] 33)) 33 (.int .u64 (u : Int)) (.int .i64 0) (.slice none 0 0) (.bool false))
    simp only [World.size_alloc, Nat.add_assoc, Nat.reduceAdd] at e
    refine bodyPost_ret (v := .agg #[.int .u64 (u : Int), .int .i64 0, .slice none 0 0, .bool false]) (by rw [results_cell1 rfl]; simp [asAddr, Result.andThen, e]) rfl ?_
    exact VPost.of Byt.none_ (Nat.le_refl _) rfl rfl rfl rfl ((((Below.refl _ _).alloc (Nat.le_refl _) _).alloc (by simp) _).alloc (by simp; omega) _)
  · go_enter Tryd.func10, Tryd.ntmps10
    go_wp2
    (try simp only [Exit.inBlock, Exit.then])
    have e := Blk.load Tryd.underlying33 rfl size_v (Four.new ((w.alloc (.cells #[.int .i64 5, .bool f] 32)).alloc (.cells #[.int .u64 (u : Int), .int .i64 i, .slice A n c, .bool t] 33)) 33 (.int .u64 0) (.int .i64 i) (.slice none 0 0) (.bool false))
    simp only [World.size_alloc, Nat.add_assoc, Nat.reduceAdd] at e
    refine bodyPost_ret (v := .agg #[.int .u64 0, .int .i64 i, .slice none 0 0, .bool false]) (by rw [results_cell1 rfl]; simp [asAddr, Result.andThen, e]) rfl ?_
    exact VPost.zero rfl rfl rfl rfl ((((Below.refl _ _).alloc (Nat.le_refl _) _).alloc (by simp) _).alloc (by simp; omega) _)
  · go_enter Tryd.func10, Tryd.ntmps10
    go_wp2
    (try simp only [Exit.inBlock, Exit.then])
    have e := Blk.load Tryd.underlying33 rfl size_v (Four.new ((w.alloc (.cells #[.int .i64 6, .bool f] 32)).alloc (.cells #[.int .u64 (u : Int), .int .i64 i, .slice A n c, .bool t] 33)) 33 (.int .u64 0) (.int .i64 i) (.slice none 0 0) (.bool false))
    simp only [World.size_alloc, Nat.add_assoc, Nat.reduceAdd] at e
    refine bodyPost_ret (v := .agg #[.int .u64 0, .int .i64 i, .slice none 0 0, .bool false]) (by rw [results_cell1 rfl]; simp [asAddr, Result.andThen, e]) rfl ?_
    exact VPost.zero rfl rfl rfl rfl ((((Below.refl _ _).alloc (Nat.le_refl _) _).alloc (by simp) _).alloc (by simp; omega) _)
  · go_enter Tryd.func10, Tryd.ntmps10
    go_wp2
    (try simp only [Exit.inBlock, Exit.then])
    have e := Blk.load Tryd.underlying33 rfl size_v (Four.new ((w.alloc (.cells #[.int .i64 7, .bool f] 32)).alloc (.cells #[.int .u64 (u : Int), .int .i64 i, .slice A n c, .bool t] 33)) 33 (.int .u64 0) (.int .i64 i) (.slice none 0 0) (.bool false))
    simp only [World.size_alloc, Nat.add_assoc, Nat.reduceAdd] at e
    refine bodyPost_ret (v := .agg #[.int .u64 0, .int .i64 i, .slice none 0 0, .bool false]) (by rw [results_cell1 rfl]; simp [asAddr, Result.andThen, e]) rfl ?_
    exact VPost.zero rfl rfl rfl rfl ((((Below.refl _ _).alloc (Nat.le_refl _) _).alloc (by simp) _).alloc (by simp; omega) _)
  · go_enter Tryd.func10, Tryd.ntmps10
    go_wp2
    (try simp only [Exit.inBlock, Exit.then])
    have e := Blk.load Tryd.underlying33 rfl size_v (Four.new ((w.alloc (.cells #[.int .i64 8, .bool f] 32)).alloc (.cells #[.int .u64 (u : Int), .int .i64 i, .slice A n c, .bool t] 33)) 33 (.int .u64 0) (.int .i64 i) (.slice none 0 0) (.bool false))
    simp only [World.size_alloc, Nat.add_assoc, Nat.reduceAdd] at e
    refine bodyPost_ret (v := .agg #[.int .u64 0, .int .i64 i, .slice none 0 0, .bool false]) (by rw [results_cell1 rfl]; simp [asAddr, Result.andThen, e]) rfl ?_
    exact VPost.zero rfl rfl rfl rfl ((((Below.refl _ _).alloc (Nat.le_refl _) _).alloc (by simp) _).alloc (by simp; omega) _)
  · go_enter Tryd.func10, Tryd.ntmps10
    go_wp2
    (try simp only [Exit.inBlock, Exit.then])
    have e := Blk.load Tryd.underlying33 rfl size_v (Four.new ((w.alloc (.cells #[.int .i64 9, .bool f] 32)).alloc (.cells #[.int .u64 (u : Int), .int .i64 i, .slice A n c, .bool t] 33)) 33 (.int .u64 0) (.int .i64 0) (.slice none 0 0) (.bool t))
    simp only [World.size_alloc, Nat.add_assoc, Nat.reduceAdd] at e
    refine bodyPost_ret (v := .agg #[.int .u64 0, .int .i64 0, .slice none 0 0, .bool t]) (by rw [results_cell1 rfl]; simp [asAddr, Result.andThen, e]) rfl ?_
    exact VPost.zero rfl rfl rfl rfl ((((Below.refl _ _).alloc (Nat.le_refl _) _).alloc (by simp) _).alloc (by simp; omega) _)
  · generalize hW : ((w.alloc (.cells #[.int .i64 10, .bool f] 32)).alloc (.cells #[.int .u64 (u : Int), .int .i64 i, .slice A n c, .bool t] 33)).alloc (.cells #[.int .u64 0, .int .i64 0, .slice none 0 0, .bool false] 33) = W
    have hF : Four W (w.heap.size + 1) (.int .u64 (u : Int)) (.int .i64 i) (.slice A n c) (.bool t) := by subst hW; have := (Four.new (w.alloc (.cells #[.int .i64 10, .bool f] 32)) 33 (.int .u64 (u : Int)) (.int .i64 i) (.slice A n c) (.bool t)).alloc (.cells #[.int .u64 0, .int .i64 0, .slice none 0 0, .bool false] 33); rwa [World.size_alloc] at this
    have hR : Four W (w.heap.size + 2) (.int .u64 0) (.int .i64 0) (.slice none 0 0) (.bool false) := by subst hW; have := Four.new ((w.alloc (.cells #[.int .i64 10, .bool f] 32)).alloc (.cells #[.int .u64 (u : Int), .int .i64 i, .slice A n c, .bool t] 33)) 33 (.int .u64 0) (.int .i64 0) (.slice none 0 0) (.bool false); simpa only [World.size_alloc, Nat.add_assoc, Nat.reduceAdd] using this
    have gk : W.cell? ⟨w.heap.size, 0, none⟩ = some (.int .i64 10) := by subst hW; exact (((Two.new _ _ _ _).alloc _).alloc _).k0
    have HB := Lib.hid (show Below w.heap.size w W from by subst hW; exact ((((Below.refl _ _).alloc (Nat.le_refl _) _).alloc (by simp) _).alloc (by simp; omega) _))
    have HR := Lib.hid hR
    have v2 := hF.c2
    clear hF
    have g0 := hR.c0
    clear hR
    go_enter Tryd.func10, Tryd.ntmps10
    go_wp2_with fail
    clear hW g0
    (with_reducible refine (clone_any _ _ _ _ l _ (HA.out _ HB.out) HB.out.size (by omega)).mono ?_)
    rintro e w1 ⟨A1, n1, c1, rfl, y1, nc1, h1⟩
    have HR1 := Lib.hid (HR.out.below h1 HR.out.lt)
    have B1 := Lib.hid (HB.out.trans (h1.mono HB.out.size))
    have Y1 := Lib.hid y1
    clear h1 y1 v2 gk
    have r0 := HR1.out.c0
    have r1 := HR1.out.c1
    have r2 := HR1.out.c2
    have r3 := HR1.out.c3
    have rf := HR1.out.fz
    go_wp2
    (try simp only [Exit.inBlock, Exit.then])
    have e := Blk.load Tryd.underlying33 rfl size_v (HR1.out.set4 (.int .u64 0) (.int .i64 0) (.slice A1 n1 c1) (.bool false))
    refine bodyPost_ret (v := .agg #[.int .u64 0, .int .i64 0, .slice A1 n1 c1, .bool false]) (by rw [results_cell1 rfl]; simp [asAddr, Result.andThen, e]) rfl ?_
    exact VPost.of (u := 0) (by rw [size_set4]; exact HR1.out.keep4 Y1.out _ _ _ _) nc1 rfl rfl rfl rfl (below_set4 B1.out (by omega) _ _ _ _)
  · have HE := Lib.hid (show 0 = bU k u ∧ 0 = bI k i ∧ [] = bL k l ∧ false = bT k t from ⟨by unfold bU; rw [if_neg (by omega)], by unfold bI; rw [if_neg (by omega)], by unfold bL; rw [if_neg n10], by unfold bT; rw [if_neg n9]⟩)
    go_enter Tryd.func10, Tryd.ntmps10
    go_wp2
    (try simp only [Exit.inBlock, Exit.then])
    have e := Blk.load Tryd.underlying33 rfl size_v (Four.new ((w.alloc (.cells #[.int .i64 k, .bool f] 32)).alloc (.cells #[.int .u64 (u : Int), .int .i64 i, .slice A n c, .bool t] 33)) 33 (.int .u64 0) (.int .i64 0) (.slice none 0 0) (.bool false))
    simp only [World.size_alloc, Nat.add_assoc, Nat.reduceAdd] at e
    refine bodyPost_ret (v := .agg #[.int .u64 0, .int .i64 0, .slice none 0 0, .bool false]) (by rw [results_cell1 rfl]; simp [asAddr, Result.andThen, e]) rfl ?_
    exact VPost.zero HE.out.1 HE.out.2.1 HE.out.2.2.1 HE.out.2.2.2 ((((Below.refl _ _).alloc (Nat.le_refl _) _).alloc (by simp) _).alloc (by simp; omega) _)
set_option maxRecDepth 100000 in
set_option maxHeartbeats 4000000 in
theorem rbare_any (k : Int) (f : Bool) (u : Nat) (i : Int) (A : Option Addr) (n c B : Nat) (l : List UInt8) (t : Bool) (w : World) (ha : Byt w B A n l) (hB : B ≤ w.heap.size) (hnc : n ≤ c) :
    Calls Tryd.prog 14 #[.agg #[.int .i64 k, .bool f], .agg #[.int .u64 (u : Int), .int .i64 i, .slice A n c, .bool t]] w (VPost w (bU k u) (bI k i) (bL k l) (bT k t)) := by
  have HA := Lib.hid (fun V (h : Below w.heap.size w V) => (ha.more hB).below h)
  clear ha
  rcases kinds k with rfl | rfl | rfl | rfl | rfl | rfl | rfl | rfl | rfl | rfl | ⟨⟨n1, n2, n3, n4⟩, ⟨n5, n6, n7, n8⟩, n9, n10⟩
  · go_enter Tryd.func14, Tryd.ntmps14
    go_wp2
    (try simp only [Exit.inBlock, Exit.then])
    have e := Blk.load Tryd.underlying27 rfl size_rv (Four.new ((w.alloc (.cells #[.int .i64 1, .bool f] 23)).alloc (.cells #[.int .u64 (u : Int), .int .i64 i, .slice A n c, .bool t] 27)) 27 (.int .u64 (u : Int)) (.int .i64 0) (.slice none 0 0) (.bool false))
    simp only [World.size_alloc, Nat.add_assoc, Nat.reduceAdd] at e
    refine bodyPost_ret (v := .agg #[.int .u64 (u : Int), .int .i64 0, .slice none 0 0, .bool false]) (by rw [results_cell1 rfl]; simp [asAddr, Result.andThen, e]) rfl ?_
    exact VPost.of Byt.none_ (Nat.le_refl _) rfl rfl rfl rfl ((((Below.refl _ _).alloc (Nat.le_refl _) _).alloc (by simp) _).alloc (by simp; omega) _)
  · go_enter Tryd.func14, Tryd.ntmps14
    go_wp2
    (try simp only [Exit.inBlock, Exit.then])
    have e := Blk.load Tryd.underlying27 rfl size_rv (Four.new ((w.alloc (.cells #[.int .i64 2, .bool f] 23)).alloc (.cells #[.int .u64 (u : Int), .int .i64 i, .slice A n c, .bool t] 27)) 27 (.int .u64 (u : Int)) (.int .i64 0) (.slice none 0 0) (.bool false))
    simp only [World.size_alloc, Nat.add_assoc, Nat.reduceAdd] at e
    refine bodyPost_ret (v := .agg #[.int .u64 (u : Int), .int .i64 0, .slice none 0 0, .bool false]) (by rw [results_cell1 rfl]; simp [asAddr, Result.andThen, e]) rfl ?_
    exact VPost.of Byt.none_ (Nat.le_refl _) rfl rfl rfl rfl ((((Below.refl _ _).alloc (Nat.le_refl _) _).alloc (by simp) _).alloc (by simp; omega) _)
  · go_enter Tryd.func14, Tryd.ntmps14
    go_wp2
    (try simp only [Exit.inBlock, Exit.then])
    have e := Blk.load Tryd.underlying27 rfl size_rv (Four.new ((w.alloc (.cells #[.int .i64 3, .bool f] 23)).alloc (.cells #[.int .u64 (u : Int), .int .i64 i, .slice A n c, .bool t] 27)) 27 (.int .u64 (u : Int)) (.int .i64 0) (.slice none 0 0) (.bool false))
    simp only [World.size_alloc, Nat.add_assoc, Nat.reduceAdd] at e
    refine bodyPost_ret (v := .agg #[.int .u64 (u : Int), .int .i64 0, .slice none 0 0, .bool false]) (by rw [results_cell1 rfl]; simp [asAddr, Result.andThen, e]) rfl ?_
    exact VPost.of Byt.none_ (Nat.le_refl _) rfl rfl rfl rfl ((((Below.refl _ _).alloc (Nat.le_refl _) _).alloc (by simp) _).alloc (by simp; omega) _)
  · go_enter Tryd.func14, Tryd.ntmps14
    go_wp2
    (try simp only [Exit.inBlock, Exit.then])
    have e := Blk.load Tryd.underlying27 rfl size_rv (Four.new ((w.alloc (.cells #[.int .i64 4, .bool f] 23)).alloc (.cells #[.int .u64 (u : Int), .int .i64 i, .slice A n c, .bool t] 27)) 27 (.int .u64 (u : Int)) (.int .i64 0) (.slice none 0 0) (.bool false))
    simp only [World.size_alloc, Nat.add_assoc, Nat.reduceAdd] at e
    refine bodyPost_ret (v := .agg #[.int .u64 (u : Int), .int .i64 0, .slice none 0 0, .bool false]) (by rw [results_cell1 rfl]; simp [asAddr, Result.andThen, e]) rfl ?_
    exact VPost.of Byt.none_ (Nat.le_refl _) rfl rfl rfl rfl ((((Below.refl _ _).alloc (Nat.le_refl _) _).alloc (by simp) _).alloc (by simp; omega) _)
  · go_enter Tryd.func14, Tryd.ntmps14
    go_wp2
    (try simp only [Exit.inBlock, Exit.then])
    have e := Blk.load Tryd.underlying27 rfl size_rv (Four.new ((w.alloc (.cells #[.int .i64 5, .bool f] 23)).alloc (.cells #[.int .u64 (u : Int), .int .i64 i, .slice A n c, .bool t] 27)) 27 (.int .u64 0) (.int .i64 i) (.slice none 0 0) (.bool false))
    simp only [World.size_alloc, Nat.add_assoc, Nat.reduceAdd] at e
    refine bodyPost_ret (v := .agg #[.int .u64 0, .int .i64 i, .slice none 0 0, .bool false]) (by rw [results_cell1 rfl]; simp [asAddr, Result.andThen, e]) rfl ?_
    exact VPost.zero rfl rfl rfl rfl ((((Below.refl _ _).alloc (Nat.le_refl _) _).alloc (by simp) _).alloc (by simp; omega) _)
  · go_enter Tryd.func14, Tryd.ntmps14
    go_wp2
    (try simp only [Exit.inBlock, Exit.then])
    have e := Blk.load Tryd.underlying27 rfl size_rv (Four.new ((w.alloc (.cells #[.int .i64 6, .bool f] 23)).alloc (.cells #[.int .u64 (u : Int), .int .i64 i, .slice A n c, .bool t] 27)) 27 (.int .u64 0) (.int .i64 i) (.slice none 0 0) (.bool false))
    simp only [World.size_alloc, Nat.add_assoc, Nat.reduceAdd] at e
    refine bodyPost_ret (v := .agg #[.int .u64 0, .int .i64 i, .slice none 0 0, .bool false]) (by rw [results_cell1 rfl]; simp [asAddr, Result.andThen, e]) rfl ?_
    exact VPost.zero rfl rfl rfl rfl ((((Below.refl _ _).alloc (Nat.le_refl _) _).alloc (by simp) _).alloc (by simp; omega) _)
  · go_enter Tryd.func14, Tryd.ntmps14
    go_wp2
    (try simp only [Exit.inBlock, Exit.then])
    have e := Blk.load Tryd.underlying27 rfl size_rv (Four.new ((w.alloc (.cells #[.int .i64 7, .bool f] 23)).alloc (.cells #[.int .u64 (u : Int), .int .i64 i, .slice A n c, .bool t] 27)) 27 (.int .u64 0) (.int .i64 i) (.slice none 0 0) (.bool false))
    simp only [World.size_alloc, Nat.add_assoc, Nat.reduceAdd] at e
    refine bodyPost_ret (v := .agg #[.int .u64 0, .int .i64 i, .slice none 0 0, .bool false]) (by rw [results_cell1 rfl]; simp [asAddr, Result.andThen, e]) rfl ?_
    exact VPost.zero rfl rfl rfl rfl ((((Below.refl _ _).alloc (Nat.le_refl _) _).alloc (by simp) _).alloc (by simp; omega) _)
  · go_enter Tryd.func14, Tryd.ntmps14
    go_wp2
    (try simp only [Exit.inBlock, Exit.then])
    have e := Blk.load Tryd.underlying27 rfl size_rv (Four.new ((w.alloc (.cells #[.int .i64 8, .bool f] 23)).alloc (.cells #[.int .u64 (u : Int), .int .i64 i, .slice A n c, .bool t] 27)) 27 (.int .u64 0) (.int .i64 i) (.slice none 0 0) (.bool false))
    simp only [World.size_alloc, Nat.add_assoc, Nat.reduceAdd] at e
    refine bodyPost_ret (v := .agg #[.int .u64 0, .int .i64 i, .slice none 0 0, .bool false]) (by rw [results_cell1 rfl]; simp [asAddr, Result.andThen, e]) rfl ?_
    exact VPost.zero rfl rfl rfl rfl ((((Below.refl _ _).alloc (Nat.le_refl _) _).alloc (by simp) _).alloc (by simp; omega) _)
  · go_enter Tryd.func14, Tryd.ntmps14
    go_wp2
    (try simp only [Exit.inBlock, Exit.then])
    have e := Blk.load Tryd.underlying27 rfl size_rv (Four.new ((w.alloc (.cells #[.int .i64 9, .bool f] 23)).alloc (.cells #[.int .u64 (u : Int), .int .i64 i, .slice A n c, .bool t] 27)) 27 (.int .u64 0) (.int .i64 0) (.slice none 0 0) (.bool t))
    simp only [World.size_alloc, Nat.add_assoc, Nat.reduceAdd] at e
    refine bodyPost_ret (v := .agg #[.int .u64 0, .int .i64 0, .slice none 0 0, .bool t]) (by rw [results_cell1 rfl]; simp [asAddr, Result.andThen, e]) rfl ?_
    exact VPost.zero rfl rfl rfl rfl ((((Below.refl _ _).alloc (Nat.le_refl _) _).alloc (by simp) _).alloc (by simp; omega) _)
  · go_enter Tryd.func14, Tryd.ntmps14
    go_wp2
    (try simp only [Exit.inBlock, Exit.then])
    have e := Blk.load Tryd.underlying27 rfl size_rv (Four.new ((w.alloc (.cells #[.int .i64 10, .bool f] 23)).alloc (.cells #[.int .u64 (u : Int), .int .i64 i, .slice A n c, .bool t] 27)) 27 (.int .u64 0) (.int .i64 0) (.slice A n c) (.bool false))
    simp only [World.size_alloc, Nat.add_assoc, Nat.reduceAdd] at e
    refine bodyPost_ret (v := .agg #[.int .u64 0, .int .i64 0, .slice A n c, .bool false]) (by rw [results_cell1 rfl]; simp [asAddr, Result.andThen, e]) rfl ?_
    exact VPost.of (u := 0) ((HA.out _ ((((Below.refl _ _).alloc (Nat.le_refl _) _).alloc (by simp) _).alloc (by simp; omega) _)).more (by simp; omega)) hnc rfl rfl rfl rfl ((((Below.refl _ _).alloc (Nat.le_refl _) _).alloc (by simp) _).alloc (by simp; omega) _)
  · have HE := Lib.hid (show 0 = bU k u ∧ 0 = bI k i ∧ [] = bL k l ∧ false = bT k t from ⟨by unfold bU; rw [if_neg (by omega)], by unfold bI; rw [if_neg (by omega)], by unfold bL; rw [if_neg n10], by unfold bT; rw [if_neg n9]⟩)
    by_cases hlow : k < 1
    · have g1 : ¬ (1 : Int) ≤ k := by omega
      have g5 : ¬ (5 : Int) ≤ k := by omega
      go_enter Tryd.func14, Tryd.ntmps14
      go_wp2
      (try simp only [Exit.inBlock, Exit.then])
      have e := Blk.load Tryd.underlying27 rfl size_rv (Four.new ((w.alloc (.cells #[.int .i64 k, .bool f] 23)).alloc (.cells #[.int .u64 (u : Int), .int .i64 i, .slice A n c, .bool t] 27)) 27 (.int .u64 0) (.int .i64 0) (.slice none 0 0) (.bool false))
      simp only [World.size_alloc, Nat.add_assoc, Nat.reduceAdd] at e
      refine bodyPost_ret (v := .agg #[.int .u64 0, .int .i64 0, .slice none 0 0, .bool false]) (by rw [results_cell1 rfl]; simp [asAddr, Result.andThen, e]) rfl ?_
      exact VPost.zero HE.out.1 HE.out.2.1 HE.out.2.2.1 HE.out.2.2.2 ((((Below.refl _ _).alloc (Nat.le_refl _) _).alloc (by simp) _).alloc (by simp; omega) _)
    · have g1 : (1 : Int) ≤ k := by omega
      have g4 : ¬ k ≤ (4 : Int) := by omega
      have g5 : (5 : Int) ≤ k := by omega
      have g8 : ¬ k ≤ (8 : Int) := by omega
      go_enter Tryd.func14, Tryd.ntmps14
      go_wp2
      (try simp only [Exit.inBlock, Exit.then])
      have e := Blk.load Tryd.underlying27 rfl size_rv (Four.new ((w.alloc (.cells #[.int .i64 k, .bool f] 23)).alloc (.cells #[.int .u64 (u : Int), .int .i64 i, .slice A n c, .bool t] 27)) 27 (.int .u64 0) (.int .i64 0) (.slice none 0 0) (.bool false))
      simp only [World.size_alloc, Nat.add_assoc, Nat.reduceAdd] at e
      refine bodyPost_ret (v := .agg #[.int .u64 0, .int .i64 0, .slice none 0 0, .bool false]) (by rw [results_cell1 rfl]; simp [asAddr, Result.andThen, e]) rfl ?_
      exact VPost.zero HE.out.1 HE.out.2.1 HE.out.2.2.1 HE.out.2.2.2 ((((Below.refl _ _).alloc (Nat.le_refl _) _).alloc (by simp) _).alloc (by simp; omega) _)
set_option maxRecDepth 100000 in
set_option maxHeartbeats 2000000 in
theorem same_yes (u : Nat) (i : Int) (A A' : Option Addr) (n n' c c' B : Nat) (l : List UInt8) (t : Bool) (w : World) (ha : Byt w B A n l) (hb : Byt w B A' n' l) (hB : B ≤ w.heap.size) :
    Calls Tryd.prog 13 #[.agg #[.int .u64 (u : Int), .int .i64 i, .slice A n c, .bool t], .agg #[.int .u64 (u : Int), .int .i64 i, .slice A' n' c', .bool t]] w fun e w' => e = .returned (.bool true) ∧ Below w.heap.size w w' := by
  have HA := Lib.hid (fun V (h : Below w.heap.size w V) => And.intro ((ha.more hB).below h) ((hb.more hB).below h))
  clear ha hb
  generalize hW : (w.alloc (.cells #[.int .u64 (u : Int), .int .i64 i, .slice A n c, .bool t] 33)).alloc (.cells #[.int .u64 (u : Int), .int .i64 i, .slice A' n' c', .bool t] 27) = W
  have hF : Four W w.heap.size (.int .u64 (u : Int)) (.int .i64 i) (.slice A n c) (.bool t) := by subst hW; exact (Four.new _ _ _ _ _ _).alloc _
  have hG : Four W (w.heap.size + 1) (.int .u64 (u : Int)) (.int .i64 i) (.slice A' n' c') (.bool t) := by subst hW; have := Four.new (w.alloc (.cells #[.int .u64 (u : Int), .int .i64 i, .slice A n c, .bool t] 33)) 27 (.int .u64 (u : Int)) (.int .i64 i) (.slice A' n' c') (.bool t); rwa [World.size_alloc] at this
  have HB := Lib.hid (show Below w.heap.size w W from by subst hW; exact ((Below.refl _ _).alloc (Nat.le_refl _) _).alloc (by simp) _)
  have f0 := hF.c0
  have g0 := hG.c0
  have f1 := hF.c1
  have g1 := hG.c1
  have f2 := hF.c2
  have g2 := hG.c2
  have f3 := hF.c3
  have g3 := hG.c3
  clear hF hG
  go_enter Tryd.func13, Tryd.ntmps13
  go_wp2_with fail
  clear hW
  (with_reducible refine (rsame_any _ _ _ _ _ _ _ l l _ (HA.out _ HB.out).1 (HA.out _ HB.out).2).mono ?_)
  rintro e w1 ⟨rfl, h1⟩
  rw [show sameB l l = true from by simp [sameB]]
  have B1 := Lib.hid (HB.out.trans (h1.below _))
  clear h1
  go_wp2
  go_ret
  exact ⟨rfl, B1.out⟩
set_option maxRecDepth 100000 in
set_option maxHeartbeats 4000000 in
theorem cmpR_any (k : Int) (u u' : Nat) (i i' : Int) (A A' : Option Addr) (n n' c c' B : Nat) (l l' : List UInt8) (t t' : Bool) (w : World) (ha : Byt w B A n l) (hb : Byt w B A' n' l') (hB : B ≤ w.heap.size) :
    Calls Tryd.prog 29 #[.int .i64 k, .agg #[.int .u64 (u : Int), .int .i64 i, .slice A n c, .bool t], .agg #[.int .u64 (u' : Int), .int .i64 i', .slice A' n' c', .bool t']] w fun e w' => e = .returned (.int .i64 (upC k u i l t u' i' l' t')) ∧ Below w.heap.size w w' := by
  have HA := Lib.hid (fun V (h : Below w.heap.size w V) => And.intro ((ha.more hB).below h) ((hb.more hB).below h))
  clear ha hb
  generalize hW : (w.alloc (.cells #[.int .u64 (u : Int), .int .i64 i, .slice A n c, .bool t] 33)).alloc (.cells #[.int .u64 (u' : Int), .int .i64 i', .slice A' n' c', .bool t'] 33) = W
  have hF : Four W w.heap.size (.int .u64 (u : Int)) (.int .i64 i) (.slice A n c) (.bool t) := by subst hW; exact (Four.new _ _ _ _ _ _).alloc _
  have hG : Four W (w.heap.size + 1) (.int .u64 (u' : Int)) (.int .i64 i') (.slice A' n' c') (.bool t') := by subst hW; have := Four.new (w.alloc (.cells #[.int .u64 (u : Int), .int .i64 i, .slice A n c, .bool t] 33)) 33 (.int .u64 (u' : Int)) (.int .i64 i') (.slice A' n' c') (.bool t'); rwa [World.size_alloc] at this
  have HB := Lib.hid (show Below w.heap.size w W from by subst hW; exact ((Below.refl _ _).alloc (Nat.le_refl _) _).alloc (by simp) _)
  have f0 := hF.c0
  have g0 := hG.c0
  have f1 := hF.c1
  have g1 := hG.c1
  have f2 := hF.c2
  have g2 := hG.c2
  have f3 := hF.c3
  have g3 := hG.c3
  clear hF hG
  rcases kinds k with rfl | rfl | rfl | rfl | rfl | rfl | rfl | rfl | rfl | rfl | ⟨⟨n1, n2, n3, n4⟩, ⟨n5, n6, n7, n8⟩, n9, n10⟩
  · go_enter Tryd.func29, Tryd.ntmps29
    go_wp2_with fail
    clear hW
    (with_reducible refine (ucmp_any _ _ _).mono ?_)
    rintro e w' ⟨rfl, rfl⟩
    go_wp2
    go_ret
    exact ⟨ret_int rfl, HB.out⟩
  · go_enter Tryd.func29, Tryd.ntmps29
    go_wp2_with fail
    clear hW
    (with_reducible refine (ucmp_any _ _ _).mono ?_)
    rintro e w' ⟨rfl, rfl⟩
    go_wp2
    go_ret
    exact ⟨ret_int rfl, HB.out⟩
  · go_enter Tryd.func29, Tryd.ntmps29
    go_wp2_with fail
    clear hW
    (with_reducible refine (ucmp_any _ _ _).mono ?_)
    rintro e w' ⟨rfl, rfl⟩
    go_wp2
    go_ret
    exact ⟨ret_int rfl, HB.out⟩
  · go_enter Tryd.func29, Tryd.ntmps29
    go_wp2_with fail
    clear hW
    (with_reducible refine (ucmp_any _ _ _).mono ?_)
    rintro e w' ⟨rfl, rfl⟩
    go_wp2
    go_ret
    exact ⟨ret_int rfl, HB.out⟩
  · go_enter Tryd.func29, Tryd.ntmps29
    go_wp2_with fail
    clear hW
    (with_reducible refine (icmp_any _ _ _).mono ?_)
    rintro e w' ⟨rfl, rfl⟩
    go_wp2
    go_ret
    exact ⟨ret_int rfl, HB.out⟩
  · go_enter Tryd.func29, Tryd.ntmps29
    go_wp2_with fail
    clear hW
    (with_reducible refine (icmp_any _ _ _).mono ?_)
    rintro e w' ⟨rfl, rfl⟩
    go_wp2
    go_ret
    exact ⟨ret_int rfl, HB.out⟩
  · go_enter Tryd.func29, Tryd.ntmps29
    go_wp2_with fail
    clear hW
    (with_reducible refine (icmp_any _ _ _).mono ?_)
    rintro e w' ⟨rfl, rfl⟩
    go_wp2
    go_ret
    exact ⟨ret_int rfl, HB.out⟩
  · go_enter Tryd.func29, Tryd.ntmps29
    go_wp2_with fail
    clear hW
    (with_reducible refine (icmp_any _ _ _).mono ?_)
    rintro e w' ⟨rfl, rfl⟩
    go_wp2
    go_ret
    exact ⟨ret_int rfl, HB.out⟩
  · go_enter Tryd.func29, Tryd.ntmps29
    go_wp2_with fail
    clear hW
    (with_reducible refine (cmpBool_any _ _ _).mono ?_)
    rintro e w' ⟨rfl, rfl⟩
    go_wp2
    go_ret
    exact ⟨ret_int rfl, HB.out⟩
  · go_enter Tryd.func29, Tryd.ntmps29
    go_wp2_with fail
    clear hW
    (with_reducible refine (bcompare_any _ _ _ _ _ _ _ l l' _ (HA.out _ HB.out).1 (HA.out _ HB.out).2).mono ?_)
    rintro e w' ⟨rfl, rfl⟩
    go_wp2
    go_ret
    exact ⟨ret_int rfl, HB.out⟩
  · have HE := Lib.hid (show 0 = upC k u i l t u' i' l' t' from by unfold upC; rw [if_neg (by omega), if_neg (by omega), if_neg n9, if_neg n10])
    go_enter Tryd.func29, Tryd.ntmps29
    go_wp2
    go_ret
    exact ⟨ret_int HE.out, HB.out⟩
set_option maxRecDepth 100000 in
set_option maxHeartbeats 4000000 in
theorem up_any (k : Int) (u u' : Nat) (i i' : Int) (A A' : Option Addr) (n n' c c' B : Nat) (l l' : List UInt8) (t t' : Bool) (w : World) (ha : Byt w B A n l) (hb : Byt w B A' n' l') (hB : B ≤ w.heap.size) :
    Calls Tryd.prog 30 #[.int .i64 k, .agg #[.int .u64 (u : Int), .int .i64 i, .slice A n c, .bool t], .agg #[.int .u64 (u' : Int), .int .i64 i', .slice A' n' c', .bool t']] w fun e w' => e = .returned (.int .i64 (upC k u i l t u' i' l' t')) ∧ Below w.heap.size w w' := by
  have HA := Lib.hid (fun V (h : Below w.heap.size w V) => And.intro ((ha.more hB).below h) ((hb.more hB).below h))
  clear ha hb
  generalize hW : (w.alloc (.cells #[.int .u64 (u : Int), .int .i64 i, .slice A n c, .bool t] 27)).alloc (.cells #[.int .u64 (u' : Int), .int .i64 i', .slice A' n' c', .bool t'] 27) = W
  have hF : Four W w.heap.size (.int .u64 (u : Int)) (.int .i64 i) (.slice A n c) (.bool t) := by subst hW; exact (Four.new _ _ _ _ _ _).alloc _
  have hG : Four W (w.heap.size + 1) (.int .u64 (u' : Int)) (.int .i64 i') (.slice A' n' c') (.bool t') := by subst hW; have := Four.new (w.alloc (.cells #[.int .u64 (u : Int), .int .i64 i, .slice A n c, .bool t] 27)) 27 (.int .u64 (u' : Int)) (.int .i64 i') (.slice A' n' c') (.bool t'); rwa [World.size_alloc] at this
  have HB := Lib.hid (show Below w.heap.size w W from by subst hW; exact ((Below.refl _ _).alloc (Nat.le_refl _) _).alloc (by simp) _)
  have f0 := hF.c0
  have g0 := hG.c0
  have f1 := hF.c1
  have g1 := hG.c1
  have f2 := hF.c2
  have g2 := hG.c2
  have f3 := hF.c3
  have g3 := hG.c3
  clear hF hG
  rcases kinds k with rfl | rfl | rfl | rfl | rfl | rfl | rfl | rfl | rfl | rfl | ⟨⟨n1, n2, n3, n4⟩, ⟨n5, n6, n7, n8⟩, n9, n10⟩
  · go_enter Tryd.func30, Tryd.ntmps30
    go_wp2_with fail
    clear hW
    (with_reducible refine (rucmp_any _ _ _).mono ?_)
    rintro e w' ⟨rfl, rfl⟩
    go_wp2
    go_ret
    exact ⟨ret_int rfl, HB.out⟩
  · go_enter Tryd.func30, Tryd.ntmps30
    go_wp2_with fail
    clear hW
    (with_reducible refine (rucmp_any _ _ _).mono ?_)
    rintro e w' ⟨rfl, rfl⟩
    go_wp2
    go_ret
    exact ⟨ret_int rfl, HB.out⟩
  · go_enter Tryd.func30, Tryd.ntmps30
    go_wp2_with fail
    clear hW
    (with_reducible refine (rucmp_any _ _ _).mono ?_)
    rintro e w' ⟨rfl, rfl⟩
    go_wp2
    go_ret
    exact ⟨ret_int rfl, HB.out⟩
  · go_enter Tryd.func30, Tryd.ntmps30
    go_wp2_with fail
    clear hW
    (with_reducible refine (rucmp_any _ _ _).mono ?_)
    rintro e w' ⟨rfl, rfl⟩
    go_wp2
    go_ret
    exact ⟨ret_int rfl, HB.out⟩
  · go_enter Tryd.func30, Tryd.ntmps30
    go_wp2_with fail
    clear hW
    (with_reducible refine (ricmp_any _ _ _).mono ?_)
    rintro e w' ⟨rfl, rfl⟩
    go_wp2
    go_ret
    exact ⟨ret_int rfl, HB.out⟩
  · go_enter Tryd.func30, Tryd.ntmps30
    go_wp2_with fail
    clear hW
    (with_reducible refine (ricmp_any _ _ _).mono ?_)
    rintro e w' ⟨rfl, rfl⟩
    go_wp2
    go_ret
    exact ⟨ret_int rfl, HB.out⟩
  · go_enter Tryd.func30, Tryd.ntmps30
    go_wp2_with fail
    clear hW
    (with_reducible refine (ricmp_any _ _ _).mono ?_)
    rintro e w' ⟨rfl, rfl⟩
    go_wp2
    go_ret
    exact ⟨ret_int rfl, HB.out⟩
  · go_enter Tryd.func30, Tryd.ntmps30
    go_wp2_with fail
    clear hW
    (with_reducible refine (ricmp_any _ _ _).mono ?_)
    rintro e w' ⟨rfl, rfl⟩
    go_wp2
    go_ret
    exact ⟨ret_int rfl, HB.out⟩
  · cases t <;> cases t'
    · go_enter Tryd.func30, Tryd.ntmps30
      go_wp2
      go_ret
      exact ⟨ret_int rfl, HB.out⟩
    · go_enter Tryd.func30, Tryd.ntmps30
      go_wp2
      go_ret
      exact ⟨ret_int rfl, HB.out⟩
    · go_enter Tryd.func30, Tryd.ntmps30
      go_wp2
      go_ret
      exact ⟨ret_int rfl, HB.out⟩
    · go_enter Tryd.func30, Tryd.ntmps30
      go_wp2
      go_ret
      exact ⟨ret_int rfl, HB.out⟩
  · go_enter Tryd.func30, Tryd.ntmps30
    go_wp2_with fail
    clear hW
    (with_reducible refine (rcmp_any _ _ _ _ _ _ _ l l' _ (HA.out _ HB.out).1 (HA.out _ HB.out).2).mono ?_)
    rintro e w1 ⟨rfl, h1⟩
    have B1 := Lib.hid (HB.out.trans (h1.below _))
    clear h1
    go_wp2
    go_ret
    exact ⟨ret_int rfl, B1.out⟩
  · have HE := Lib.hid (show 0 = upC k u i l t u' i' l' t' from by unfold upC; rw [if_neg (by omega), if_neg (by omega), if_neg n9, if_neg n10])
    by_cases hlow : k < 1
    · have q1 : ¬ (1 : Int) ≤ k := by omega
      have q5 : ¬ (5 : Int) ≤ k := by omega
      go_enter Tryd.func30, Tryd.ntmps30
      go_wp2
      go_ret
      exact ⟨ret_int HE.out, HB.out⟩
    · have q1 : (1 : Int) ≤ k := by omega
      have q4 : ¬ k ≤ (4 : Int) := by omega
      have q5 : (5 : Int) ≤ k := by omega
      have q8 : ¬ k ≤ (8 : Int) := by omega
      go_enter Tryd.func30, Tryd.ntmps30
      go_wp2
      go_ret
      exact ⟨ret_int HE.out, HB.out⟩
set_option maxRecDepth 100000 in
set_option maxHeartbeats 2000000 in
theorem fcmp_any (k : Int) (f : Bool) (u u' : Nat) (i i' : Int) (A A' : Option Addr) (n n' c c' B : Nat) (l l' : List UInt8) (t t' : Bool) (w : World) (ha : Byt w B A n l) (hb : Byt w B A' n' l') (hB : B ≤ w.heap.size) :
    Calls Tryd.prog 17 #[.agg #[.int .i64 k, .bool f], .agg #[.int .u64 (u : Int), .int .i64 i, .slice A n c, .bool t], .agg #[.int .u64 (u' : Int), .int .i64 i', .slice A' n' c', .bool t']] w fun e w' => e = .returned (.int .i64 (fC k f u i l t u' i' l' t')) ∧ Below w.heap.size w w' := by
  have HA := Lib.hid (fun V (h : Below w.heap.size w V) => And.intro ((ha.more hB).below h) ((hb.more hB).below h))
  clear ha hb
  generalize hW : ((w.alloc (.cells #[.int .i64 k, .bool f] 32)).alloc (.cells #[.int .u64 (u : Int), .int .i64 i, .slice A n c, .bool t] 33)).alloc (.cells #[.int .u64 (u' : Int), .int .i64 i', .slice A' n' c', .bool t'] 33) = W
  have hK : Two W w.heap.size (.int .i64 k) (.bool f) := by subst hW; exact ((Two.new _ _ _ _).alloc _).alloc _
  have hF : Four W (w.heap.size + 1) (.int .u64 (u : Int)) (.int .i64 i) (.slice A n c) (.bool t) := by subst hW; have := (Four.new (w.alloc (.cells #[.int .i64 k, .bool f] 32)) 33 (.int .u64 (u : Int)) (.int .i64 i) (.slice A n c) (.bool t)).alloc (.cells #[.int .u64 (u' : Int), .int .i64 i', .slice A' n' c', .bool t'] 33); rwa [World.size_alloc] at this
  have hG : Four W (w.heap.size + 2) (.int .u64 (u' : Int)) (.int .i64 i') (.slice A' n' c') (.bool t') := by subst hW; have := Four.new ((w.alloc (.cells #[.int .i64 k, .bool f] 32)).alloc (.cells #[.int .u64 (u : Int), .int .i64 i, .slice A n c, .bool t] 33)) 33 (.int .u64 (u' : Int)) (.int .i64 i') (.slice A' n' c') (.bool t'); simpa only [World.size_alloc, Nat.add_assoc, Nat.reduceAdd] using this
  have HB := Lib.hid (show Below w.heap.size w W from by subst hW; exact (((Below.refl _ _).alloc (Nat.le_refl _) _).alloc (by simp) _).alloc (by simp; omega) _)
  have f0 := hF.c0
  have g0 := hG.c0
  have f1 := hF.c1
  have g1 := hG.c1
  have f2 := hF.c2
  have g2 := hG.c2
  have f3 := hF.c3
  have g3 := hG.c3
  have k0 := hK.k0
  have k1 := hK.k1
  clear hK hF hG
  cases f
  · go_enter Tryd.func17, Tryd.ntmps17
    go_wp2_with fail
    clear hW
    (with_reducible refine (cmpR_any k u u' i i' A A' n n' c c' _ l l' t t' _ (HA.out _ HB.out).1 (HA.out _ HB.out).2 HB.out.size).mono ?_)
    rintro e w1 ⟨rfl, h1⟩
    have B1 := Lib.hid (HB.out.trans (h1.mono HB.out.size))
    clear h1
    go_wp2
    go_ret
    exact ⟨ret_int rfl, B1.out⟩
  · go_enter Tryd.func17, Tryd.ntmps17
    go_wp2_with fail
    clear hW
    (with_reducible refine (cmpR_any k u' u i' i A' A n' n c' c _ l' l t' t _ (HA.out _ HB.out).2 (HA.out _ HB.out).1 HB.out.size).mono ?_)
    rintro e w1 ⟨rfl, h1⟩
    have B1 := Lib.hid (HB.out.trans (h1.mono HB.out.size))
    clear h1
    go_wp2
    go_ret
    exact ⟨ret_int rfl, B1.out⟩
set_option maxRecDepth 100000 in
set_option maxHeartbeats 2000000 in
theorem rfcmp_any (k : Int) (f : Bool) (u u' : Nat) (i i' : Int) (A A' : Option Addr) (n n' c c' B : Nat) (l l' : List UInt8) (t t' : Bool) (w : World) (ha : Byt w B A n l) (hb : Byt w B A' n' l') (hB : B ≤ w.heap.size) :
    Calls Tryd.prog 18 #[.agg #[.int .i64 k, .bool f], .agg #[.int .u64 (u : Int), .int .i64 i, .slice A n c, .bool t], .agg #[.int .u64 (u' : Int), .int .i64 i', .slice A' n' c', .bool t']] w fun e w' => e = .returned (.int .i64 (fC k f u i l t u' i' l' t')) ∧ Below w.heap.size w w' := by
  have HA := Lib.hid (fun V (h : Below w.heap.size w V) => And.intro ((ha.more hB).below h) ((hb.more hB).below h))
  clear ha hb
  generalize hW : ((w.alloc (.cells #[.int .i64 k, .bool f] 23)).alloc (.cells #[.int .u64 (u : Int), .int .i64 i, .slice A n c, .bool t] 27)).alloc (.cells #[.int .u64 (u' : Int), .int .i64 i', .slice A' n' c', .bool t'] 27) = W
  have hK : Two W w.heap.size (.int .i64 k) (.bool f) := by subst hW; exact ((Two.new _ _ _ _).alloc _).alloc _
  have hF : Four W (w.heap.size + 1) (.int .u64 (u : Int)) (.int .i64 i) (.slice A n c) (.bool t) := by subst hW; have := (Four.new (w.alloc (.cells #[.int .i64 k, .bool f] 23)) 27 (.int .u64 (u : Int)) (.int .i64 i) (.slice A n c) (.bool t)).alloc (.cells #[.int .u64 (u' : Int), .int .i64 i', .slice A' n' c', .bool t'] 27); rwa [World.size_alloc] at this
  have hG : Four W (w.heap.size + 2) (.int .u64 (u' : Int)) (.int .i64 i') (.slice A' n' c') (.bool t') := by subst hW; have := Four.new ((w.alloc (.cells #[.int .i64 k, .bool f] 23)).alloc (.cells #[.int .u64 (u : Int), .int .i64 i, .slice A n c, .bool t] 27)) 27 (.int .u64 (u' : Int)) (.int .i64 i') (.slice A' n' c') (.bool t'); simpa only [World.size_alloc, Nat.add_assoc, Nat.reduceAdd] using this
  have HB := Lib.hid (show Below w.heap.size w W from by subst hW; exact (((Below.refl _ _).alloc (Nat.le_refl _) _).alloc (by simp) _).alloc (by simp; omega) _)
  have f0 := hF.c0
  have g0 := hG.c0
  have f1 := hF.c1
  have g1 := hG.c1
  have f2 := hF.c2
  have g2 := hG.c2
  have f3 := hF.c3
  have g3 := hG.c3
  have k0 := hK.k0
  have k1 := hK.k1
  clear hK hF hG
  cases f
  · go_enter Tryd.func18, Tryd.ntmps18
    go_wp2_with fail
    clear hW
    (with_reducible refine (up_any k u u' i i' A A' n n' c c' _ l l' t t' _ (HA.out _ HB.out).1 (HA.out _ HB.out).2 HB.out.size).mono ?_)
    rintro e w1 ⟨rfl, h1⟩
    have B1 := Lib.hid (HB.out.trans (h1.mono HB.out.size))
    clear h1
    go_wp2
    go_ret
    exact ⟨ret_int rfl, B1.out⟩
  · go_enter Tryd.func18, Tryd.ntmps18
    go_wp2_with fail
    clear hW
    (with_reducible refine (up_any k u' u i' i A' A n' n c' c _ l' l t' t _ (HA.out _ HB.out).2 (HA.out _ HB.out).1 HB.out.size).mono ?_)
    rintro e w1 ⟨rfl, h1⟩
    have B1 := Lib.hid (HB.out.trans (h1.mono HB.out.size))
    clear h1
    go_wp2
    go_ret
    exact ⟨ret_int rfl, B1.out⟩
set_option maxRecDepth 100000 in
set_option maxHeartbeats 2000000 in
theorem fsame_any (k : Int) (f : Bool) (u u' : Nat) (i i' : Int) (A A' : Option Addr) (n n' c c' B : Nat) (l l' : List UInt8) (t t' : Bool) (w : World) (ha : Byt w B A n l) (hb : Byt w B A' n' l') (hB : B ≤ w.heap.size) :
    Calls Tryd.prog 19 #[.agg #[.int .i64 k, .bool f], .agg #[.int .u64 (u : Int), .int .i64 i, .slice A n c, .bool t], .agg #[.int .u64 (u' : Int), .int .i64 i', .slice A' n' c', .bool t']] w fun e w' => e = .returned (.bool ((fC k f u i l t u' i' l' t') == 0)) ∧ Below w.heap.size w w' := by
  have HA := Lib.hid (fun V (h : Below w.heap.size w V) => And.intro ((ha.more hB).below h) ((hb.more hB).below h))
  clear ha hb
  generalize hW : ((w.alloc (.cells #[.int .i64 k, .bool f] 32)).alloc (.cells #[.int .u64 (u : Int), .int .i64 i, .slice A n c, .bool t] 33)).alloc (.cells #[.int .u64 (u' : Int), .int .i64 i', .slice A' n' c', .bool t'] 33) = W
  have hK : Two W w.heap.size (.int .i64 k) (.bool f) := by subst hW; exact ((Two.new _ _ _ _).alloc _).alloc _
  have hF : Four W (w.heap.size + 1) (.int .u64 (u : Int)) (.int .i64 i) (.slice A n c) (.bool t) := by subst hW; have := (Four.new (w.alloc (.cells #[.int .i64 k, .bool f] 32)) 33 (.int .u64 (u : Int)) (.int .i64 i) (.slice A n c) (.bool t)).alloc (.cells #[.int .u64 (u' : Int), .int .i64 i', .slice A' n' c', .bool t'] 33); rwa [World.size_alloc] at this
  have hG : Four W (w.heap.size + 2) (.int .u64 (u' : Int)) (.int .i64 i') (.slice A' n' c') (.bool t') := by subst hW; have := Four.new ((w.alloc (.cells #[.int .i64 k, .bool f] 32)).alloc (.cells #[.int .u64 (u : Int), .int .i64 i, .slice A n c, .bool t] 33)) 33 (.int .u64 (u' : Int)) (.int .i64 i') (.slice A' n' c') (.bool t'); simpa only [World.size_alloc, Nat.add_assoc, Nat.reduceAdd] using this
  have HB := Lib.hid (show Below w.heap.size w W from by subst hW; exact (((Below.refl _ _).alloc (Nat.le_refl _) _).alloc (by simp) _).alloc (by simp; omega) _)
  have f0 := hF.c0
  have g0 := hG.c0
  have f1 := hF.c1
  have g1 := hG.c1
  have f2 := hF.c2
  have g2 := hG.c2
  have f3 := hF.c3
  have g3 := hG.c3
  have k0 := hK.k0
  have k1 := hK.k1
  clear hK hF hG
  go_enter Tryd.func19, Tryd.ntmps19
  go_wp2_with fail
  clear hW
  (with_reducible refine (fcmp_any k f u u' i i' A A' n n' c c' _ l l' t t' _ (HA.out _ HB.out).1 (HA.out _ HB.out).2 HB.out.size).mono ?_)
  rintro e w1 ⟨rfl, h1⟩
  have B1 := Lib.hid (HB.out.trans (h1.mono HB.out.size))
  clear h1
  go_wp2
  go_ret
  exact ⟨rfl, B1.out⟩
end Go.Proofs.YtknkpmkpcfiefaaDoor
