/-
  What field.takeRising and Take answer: the value that bytes begin with by a field, and what stands behind, or an error.
-/
import Derived.Test.YtdpddkpfllioiaaDoorField
import Derived.Test.YtdpddkpfllioiaaDoorSencC
namespace Go.Proofs.YtdpddkpfllioiaaDoor
open Go.RowKit

theorem t_u {k : Int} (h : 1 ≤ k ∧ k ≤ 4) (b : List UInt8) : tU k b = firstN (wd k) b ∧ tI k b = 0 ∧ tL k b = [] ∧ tT k b = false ∧ tR k b = restL (wd k) b ∧ tE k b = firstE (wd k) b ∧ tN k b = b.length - (restL (wd k) b).length :=
  ⟨if_pos h, if_neg (by omega), if_neg (by omega), if_neg (by omega), if_pos (by omega), if_pos (by omega), if_pos (by omega)⟩
theorem t_i {k : Int} (h : 5 ≤ k ∧ k ≤ 8) (b : List UInt8) : tU k b = 0 ∧ tI k b = itakeN (wd k) b ∧ tL k b = [] ∧ tT k b = false ∧ tR k b = restL (wd k) b ∧ tE k b = firstE (wd k) b ∧ tN k b = b.length - (restL (wd k) b).length :=
  ⟨if_neg (by omega), if_pos h, if_neg (by omega), if_neg (by omega), if_pos (by omega), if_pos (by omega), if_pos (by omega)⟩
theorem t_o {k : Int} (h : k < 1 ∨ 10 < k) (b : List UInt8) : tU k b = 0 ∧ tI k b = 0 ∧ tL k b = [] ∧ tT k b = false ∧ tR k b = [] ∧ tE k b = 9 ∧ tN k b = 0 := by
  have h8 : ¬ (1 ≤ k ∧ k ≤ 8) := by omega
  have h9 : ¬ k = 9 := by omega
  have h10 : ¬ k = 10 := by omega
  refine ⟨if_neg (by omega), if_neg (by omega), if_neg h10, if_neg h9, ?_, ?_, ?_⟩
  · unfold tR; rw [if_neg h8, if_neg h9, if_neg h10]
  · unfold tE; rw [if_neg h8, if_neg h9, if_neg h10]
  · unfold tN; rw [if_neg h8, if_neg h9, if_neg h10]

/-- What is left where a value is handed back with what stands behind it, and an error. -/
def FTPost (w : World) (u : Nat) (i : Int) (l : List UInt8) (t : Bool) (r : List UInt8) (er : Int) (e : Ending) (w' : World) : Prop :=
  ∃ A n c A' n' c', e = .returned (.tuple #[.agg #[.int .u64 (u : Int), .int .i64 i, .slice A n c, .bool t], .slice A' n' c', .int .i64 er]) ∧ Byt w' w'.heap.size A n l ∧ Byt w' w'.heap.size A' n' r ∧ Below w.heap.size w w' ∧ n ≤ c ∧ n' ≤ c'
theorem FTPost.of {w w' : World} {u u' : Nat} {i i' : Int} {l l' r r' : List UInt8} {t t' : Bool} {er er' : Int} {A A' : Option Addr} {n c n' c' : Nat} (hy : Byt w' w'.heap.size A n l) (hy' : Byt w' w'.heap.size A' n' r)
    (hu : u = u') (hi : i = i') (hl : l = l') (ht : t = t') (hr : r = r') (he : er = er') (hb : Below w.heap.size w w') (hc : n ≤ c := by first | assumption | exact Nat.le_refl _ | omega) (hc' : n' ≤ c' := by first | assumption | exact Nat.le_refl _ | omega) :
    FTPost w u' i' l' t' r' er' (.returned (.tuple #[.agg #[.int .u64 (u : Int), .int .i64 i, .slice A n c, .bool t], .slice A' n' c', .int .i64 er])) w' := by
  subst hu hi hl ht hr he
  exact ⟨A, n, c, A', n', c', rfl, hy, hy', hb, hc, hc'⟩

set_option maxRecDepth 100000 in
set_option maxHeartbeats 2000000 in
theorem takeR_u (k : Int) (hk : k = 1 ∨ k = 2 ∨ k = 3 ∨ k = 4) (A : Option Addr) (n c B : Nat) (b : List UInt8) (w : World) (ha : Byt w B A n b) (hnc : n ≤ c) (hB : B ≤ w.heap.size) (hn : n ≤ 1000000) :
    Calls Tryd.prog 67 #[.int .i64 k, .slice A n c] w (FTPost w (tU k b) (tI k b) (tL k b) (tT k b) (tR k b) (tE k b)) := by
  obtain ⟨e1, e2, e3, e4, e5, e6, _⟩ := t_u (k := k) (by omega) b
  rw [e1, e2, e3, e4, e5, e6]
  clear e1 e2 e3 e4 e5 e6
  have HW := Lib.hid (width_any k)
  generalize wd k = x at HW
  have HP := Lib.hid (fun V (h : Below w.heap.size w V) => take_any x A n c B b V (ha.below (h.mono hB)) hnc (Nat.le_trans hB h.size) (by omega))
  clear ha
  generalize hW : w.alloc (.cells #[.int .u64 0, .int .i64 0, .slice none 0 0, .bool false] 69) = W
  have HR := Lib.hid (show Four W w.heap.size (.int .u64 0) (.int .i64 0) (.slice none 0 0) (.bool false) from by subst hW; exact Four.new _ _ _ _ _ _)
  have HB := Lib.hid (show Below w.heap.size w W from by subst hW; exact (Below.refl _ _).alloc (Nat.le_refl _) _)
  rcases hk with rfl | rfl | rfl | rfl
  · go_enter Tryd.func67, Tryd.ntmps67
    go_wp2_with fail
    clear hW
    (with_reducible refine (HW.out _).mono ?_)
    rintro e w' ⟨rfl, rfl⟩
    go_wp2_with fail
    (with_reducible refine (HP.out _ HB.out).mono ?_)
    rintro e w1 ⟨A1, n1, c1, rfl, y1, _, h1⟩
    have HR1 := Lib.hid (HR.out.below h1 HR.out.lt)
    have B1 := Lib.hid (HB.out.trans (h1.mono HB.out.size))
    have Y1 := Lib.hid y1
    clear h1 y1
    have r0 := HR1.out.c0
    have r1 := HR1.out.c1
    have r2 := HR1.out.c2
    have r3 := HR1.out.c3
    have rf := HR1.out.fz
    go_wp2
    (try simp only [Exit.inBlock, Exit.then])
    have e := Blk.load Tryd.underlying69 rfl size_v (HR1.out.set4 (.int .u64 (firstN x b : Int)) (.int .i64 0) (.slice none 0 0) (.bool false))
    refine bodyPost_ret (v := .tuple #[.agg #[.int .u64 (firstN x b : Int), .int .i64 0, .slice none 0 0, .bool false], .slice A1 n1 c1, .int .i64 (firstE x b)]) (by rw [results_cell3 rfl]; simp [asAddr, Result.andThen, e]) rfl ?_
    exact FTPost.of Byt.none_ (by rw [size_set4]; exact HR1.out.keep4 Y1.out _ _ _ _) rfl rfl rfl rfl rfl rfl (below_set4 B1.out (Nat.le_refl _) _ _ _ _)
  · go_enter Tryd.func67, Tryd.ntmps67
    go_wp2_with fail
    clear hW
    (with_reducible refine (HW.out _).mono ?_)
    rintro e w' ⟨rfl, rfl⟩
    go_wp2_with fail
    (with_reducible refine (HP.out _ HB.out).mono ?_)
    rintro e w1 ⟨A1, n1, c1, rfl, y1, _, h1⟩
    have HR1 := Lib.hid (HR.out.below h1 HR.out.lt)
    have B1 := Lib.hid (HB.out.trans (h1.mono HB.out.size))
    have Y1 := Lib.hid y1
    clear h1 y1
    have r0 := HR1.out.c0
    have r1 := HR1.out.c1
    have r2 := HR1.out.c2
    have r3 := HR1.out.c3
    have rf := HR1.out.fz
    go_wp2
    (try simp only [Exit.inBlock, Exit.then])
    have e := Blk.load Tryd.underlying69 rfl size_v (HR1.out.set4 (.int .u64 (firstN x b : Int)) (.int .i64 0) (.slice none 0 0) (.bool false))
    refine bodyPost_ret (v := .tuple #[.agg #[.int .u64 (firstN x b : Int), .int .i64 0, .slice none 0 0, .bool false], .slice A1 n1 c1, .int .i64 (firstE x b)]) (by rw [results_cell3 rfl]; simp [asAddr, Result.andThen, e]) rfl ?_
    exact FTPost.of Byt.none_ (by rw [size_set4]; exact HR1.out.keep4 Y1.out _ _ _ _) rfl rfl rfl rfl rfl rfl (below_set4 B1.out (Nat.le_refl _) _ _ _ _)
  · go_enter Tryd.func67, Tryd.ntmps67
    go_wp2_with fail
    clear hW
    (with_reducible refine (HW.out _).mono ?_)
    rintro e w' ⟨rfl, rfl⟩
    go_wp2_with fail
    (with_reducible refine (HP.out _ HB.out).mono ?_)
    rintro e w1 ⟨A1, n1, c1, rfl, y1, _, h1⟩
    have HR1 := Lib.hid (HR.out.below h1 HR.out.lt)
    have B1 := Lib.hid (HB.out.trans (h1.mono HB.out.size))
    have Y1 := Lib.hid y1
    clear h1 y1
    have r0 := HR1.out.c0
    have r1 := HR1.out.c1
    have r2 := HR1.out.c2
    have r3 := HR1.out.c3
    have rf := HR1.out.fz
    go_wp2
    (try simp only [Exit.inBlock, Exit.then])
    have e := Blk.load Tryd.underlying69 rfl size_v (HR1.out.set4 (.int .u64 (firstN x b : Int)) (.int .i64 0) (.slice none 0 0) (.bool false))
    refine bodyPost_ret (v := .tuple #[.agg #[.int .u64 (firstN x b : Int), .int .i64 0, .slice none 0 0, .bool false], .slice A1 n1 c1, .int .i64 (firstE x b)]) (by rw [results_cell3 rfl]; simp [asAddr, Result.andThen, e]) rfl ?_
    exact FTPost.of Byt.none_ (by rw [size_set4]; exact HR1.out.keep4 Y1.out _ _ _ _) rfl rfl rfl rfl rfl rfl (below_set4 B1.out (Nat.le_refl _) _ _ _ _)
  · go_enter Tryd.func67, Tryd.ntmps67
    go_wp2_with fail
    clear hW
    (with_reducible refine (HW.out _).mono ?_)
    rintro e w' ⟨rfl, rfl⟩
    go_wp2_with fail
    (with_reducible refine (HP.out _ HB.out).mono ?_)
    rintro e w1 ⟨A1, n1, c1, rfl, y1, _, h1⟩
    have HR1 := Lib.hid (HR.out.below h1 HR.out.lt)
    have B1 := Lib.hid (HB.out.trans (h1.mono HB.out.size))
    have Y1 := Lib.hid y1
    clear h1 y1
    have r0 := HR1.out.c0
    have r1 := HR1.out.c1
    have r2 := HR1.out.c2
    have r3 := HR1.out.c3
    have rf := HR1.out.fz
    go_wp2
    (try simp only [Exit.inBlock, Exit.then])
    have e := Blk.load Tryd.underlying69 rfl size_v (HR1.out.set4 (.int .u64 (firstN x b : Int)) (.int .i64 0) (.slice none 0 0) (.bool false))
    refine bodyPost_ret (v := .tuple #[.agg #[.int .u64 (firstN x b : Int), .int .i64 0, .slice none 0 0, .bool false], .slice A1 n1 c1, .int .i64 (firstE x b)]) (by rw [results_cell3 rfl]; simp [asAddr, Result.andThen, e]) rfl ?_
    exact FTPost.of Byt.none_ (by rw [size_set4]; exact HR1.out.keep4 Y1.out _ _ _ _) rfl rfl rfl rfl rfl rfl (below_set4 B1.out (Nat.le_refl _) _ _ _ _)
set_option maxRecDepth 100000 in
set_option maxHeartbeats 2000000 in
theorem takeR_i (k : Int) (hk : k = 5 ∨ k = 6 ∨ k = 7 ∨ k = 8) (A : Option Addr) (n c B : Nat) (b : List UInt8) (w : World) (hT : Tab w) (ha : Byt w B A n b) (hnc : n ≤ c) (hB : B ≤ w.heap.size) (hn : n ≤ 1000000) :
    Calls Tryd.prog 67 #[.int .i64 k, .slice A n c] w (FTPost w (tU k b) (tI k b) (tL k b) (tT k b) (tR k b) (tE k b)) := by
  obtain ⟨e1, e2, e3, e4, e5, e6, _⟩ := t_i (k := k) (by omega) b
  rw [e1, e2, e3, e4, e5, e6]
  clear e1 e2 e3 e4 e5 e6
  have HW := Lib.hid (width_any k)
  generalize wd k = x at HW
  have HP := Lib.hid (fun V (h : Below w.heap.size w V) => itake_any x A n c B b V (hT.below h) (ha.below (h.mono hB)) hnc (Nat.le_trans hB h.size) (by omega))
  clear ha hT
  generalize hW : w.alloc (.cells #[.int .u64 0, .int .i64 0, .slice none 0 0, .bool false] 69) = W
  have HR := Lib.hid (show Four W w.heap.size (.int .u64 0) (.int .i64 0) (.slice none 0 0) (.bool false) from by subst hW; exact Four.new _ _ _ _ _ _)
  have HB := Lib.hid (show Below w.heap.size w W from by subst hW; exact (Below.refl _ _).alloc (Nat.le_refl _) _)
  rcases hk with rfl | rfl | rfl | rfl
  · go_enter Tryd.func67, Tryd.ntmps67
    go_wp2_with fail
    clear hW
    (with_reducible refine (HW.out _).mono ?_)
    rintro e w' ⟨rfl, rfl⟩
    go_wp2_with fail
    (with_reducible refine (HP.out _ HB.out).mono ?_)
    rintro e w1 ⟨A1, n1, c1, rfl, y1, _, h1⟩
    have HR1 := Lib.hid (HR.out.below h1 HR.out.lt)
    have B1 := Lib.hid (HB.out.trans (h1.mono HB.out.size))
    have Y1 := Lib.hid y1
    clear h1 y1
    have r0 := HR1.out.c0
    have r1 := HR1.out.c1
    have r2 := HR1.out.c2
    have r3 := HR1.out.c3
    have rf := HR1.out.fz
    go_wp2
    (try simp only [Exit.inBlock, Exit.then])
    have e := Blk.load Tryd.underlying69 rfl size_v (HR1.out.set4 (.int .u64 0) (.int .i64 (itakeN x b)) (.slice none 0 0) (.bool false))
    refine bodyPost_ret (v := .tuple #[.agg #[.int .u64 0, .int .i64 (itakeN x b), .slice none 0 0, .bool false], .slice A1 n1 c1, .int .i64 (firstE x b)]) (by rw [results_cell3 rfl]; simp [asAddr, Result.andThen, e]) rfl ?_
    exact FTPost.of (u := 0) Byt.none_ (by rw [size_set4]; exact HR1.out.keep4 Y1.out _ _ _ _) rfl rfl rfl rfl rfl rfl (below_set4 B1.out (Nat.le_refl _) _ _ _ _)
  · go_enter Tryd.func67, Tryd.ntmps67
    go_wp2_with fail
    clear hW
    (with_reducible refine (HW.out _).mono ?_)
    rintro e w' ⟨rfl, rfl⟩
    go_wp2_with fail
    (with_reducible refine (HP.out _ HB.out).mono ?_)
    rintro e w1 ⟨A1, n1, c1, rfl, y1, _, h1⟩
    have HR1 := Lib.hid (HR.out.below h1 HR.out.lt)
    have B1 := Lib.hid (HB.out.trans (h1.mono HB.out.size))
    have Y1 := Lib.hid y1
    clear h1 y1
    have r0 := HR1.out.c0
    have r1 := HR1.out.c1
    have r2 := HR1.out.c2
    have r3 := HR1.out.c3
    have rf := HR1.out.fz
    go_wp2
    (try simp only [Exit.inBlock, Exit.then])
    have e := Blk.load Tryd.underlying69 rfl size_v (HR1.out.set4 (.int .u64 0) (.int .i64 (itakeN x b)) (.slice none 0 0) (.bool false))
    refine bodyPost_ret (v := .tuple #[.agg #[.int .u64 0, .int .i64 (itakeN x b), .slice none 0 0, .bool false], .slice A1 n1 c1, .int .i64 (firstE x b)]) (by rw [results_cell3 rfl]; simp [asAddr, Result.andThen, e]) rfl ?_
    exact FTPost.of (u := 0) Byt.none_ (by rw [size_set4]; exact HR1.out.keep4 Y1.out _ _ _ _) rfl rfl rfl rfl rfl rfl (below_set4 B1.out (Nat.le_refl _) _ _ _ _)
  · go_enter Tryd.func67, Tryd.ntmps67
    go_wp2_with fail
    clear hW
    (with_reducible refine (HW.out _).mono ?_)
    rintro e w' ⟨rfl, rfl⟩
    go_wp2_with fail
    (with_reducible refine (HP.out _ HB.out).mono ?_)
    rintro e w1 ⟨A1, n1, c1, rfl, y1, _, h1⟩
    have HR1 := Lib.hid (HR.out.below h1 HR.out.lt)
    have B1 := Lib.hid (HB.out.trans (h1.mono HB.out.size))
    have Y1 := Lib.hid y1
    clear h1 y1
    have r0 := HR1.out.c0
    have r1 := HR1.out.c1
    have r2 := HR1.out.c2
    have r3 := HR1.out.c3
    have rf := HR1.out.fz
    go_wp2
    (try simp only [Exit.inBlock, Exit.then])
    have e := Blk.load Tryd.underlying69 rfl size_v (HR1.out.set4 (.int .u64 0) (.int .i64 (itakeN x b)) (.slice none 0 0) (.bool false))
    refine bodyPost_ret (v := .tuple #[.agg #[.int .u64 0, .int .i64 (itakeN x b), .slice none 0 0, .bool false], .slice A1 n1 c1, .int .i64 (firstE x b)]) (by rw [results_cell3 rfl]; simp [asAddr, Result.andThen, e]) rfl ?_
    exact FTPost.of (u := 0) Byt.none_ (by rw [size_set4]; exact HR1.out.keep4 Y1.out _ _ _ _) rfl rfl rfl rfl rfl rfl (below_set4 B1.out (Nat.le_refl _) _ _ _ _)
  · go_enter Tryd.func67, Tryd.ntmps67
    go_wp2_with fail
    clear hW
    (with_reducible refine (HW.out _).mono ?_)
    rintro e w' ⟨rfl, rfl⟩
    go_wp2_with fail
    (with_reducible refine (HP.out _ HB.out).mono ?_)
    rintro e w1 ⟨A1, n1, c1, rfl, y1, _, h1⟩
    have HR1 := Lib.hid (HR.out.below h1 HR.out.lt)
    have B1 := Lib.hid (HB.out.trans (h1.mono HB.out.size))
    have Y1 := Lib.hid y1
    clear h1 y1
    have r0 := HR1.out.c0
    have r1 := HR1.out.c1
    have r2 := HR1.out.c2
    have r3 := HR1.out.c3
    have rf := HR1.out.fz
    go_wp2
    (try simp only [Exit.inBlock, Exit.then])
    have e := Blk.load Tryd.underlying69 rfl size_v (HR1.out.set4 (.int .u64 0) (.int .i64 (itakeN x b)) (.slice none 0 0) (.bool false))
    refine bodyPost_ret (v := .tuple #[.agg #[.int .u64 0, .int .i64 (itakeN x b), .slice none 0 0, .bool false], .slice A1 n1 c1, .int .i64 (firstE x b)]) (by rw [results_cell3 rfl]; simp [asAddr, Result.andThen, e]) rfl ?_
    exact FTPost.of (u := 0) Byt.none_ (by rw [size_set4]; exact HR1.out.keep4 Y1.out _ _ _ _) rfl rfl rfl rfl rfl rfl (below_set4 B1.out (Nat.le_refl _) _ _ _ _)
set_option maxRecDepth 100000 in
set_option maxHeartbeats 2000000 in
theorem takeR_any (k : Int) (A : Option Addr) (n c B : Nat) (b : List UInt8) (w : World) (hT : Tab w) (ha : Byt w B A n b) (hnc : n ≤ c) (hB : B ≤ w.heap.size) (hn : n ≤ 1000000) :
    Calls Tryd.prog 67 #[.int .i64 k, .slice A n c] w (FTPost w (tU k b) (tI k b) (tL k b) (tT k b) (tR k b) (tE k b)) := by
  have HA := Lib.hid (fun V (h : Below w.heap.size w V) => (ha.more hB).below h)
  rcases kinds k with h | h | h | h | h | h | h | h | rfl | rfl | h
  · exact takeR_u k (by omega) A n c B b w ha hnc hB hn
  · exact takeR_u k (by omega) A n c B b w ha hnc hB hn
  · exact takeR_u k (by omega) A n c B b w ha hnc hB hn
  · exact takeR_u k (by omega) A n c B b w ha hnc hB hn
  · exact takeR_i k (by omega) A n c B b w hT ha hnc hB hn
  · exact takeR_i k (by omega) A n c B b w hT ha hnc hB hn
  · exact takeR_i k (by omega) A n c B b w hT ha hnc hB hn
  · exact takeR_i k (by omega) A n c B b w hT ha hnc hB hn
  · clear ha hT
    generalize hW : w.alloc (.cells #[.int .u64 0, .int .i64 0, .slice none 0 0, .bool false] 69) = W
    have HR := Lib.hid (show Four W w.heap.size (.int .u64 0) (.int .i64 0) (.slice none 0 0) (.bool false) from by subst hW; exact Four.new _ _ _ _ _ _)
    have HB := Lib.hid (show Below w.heap.size w W from by subst hW; exact (Below.refl _ _).alloc (Nat.le_refl _) _)
    go_enter Tryd.func67, Tryd.ntmps67
    go_wp2_with fail
    clear hW
    (with_reducible refine (takebool_any _ _ _ _ b _ (HA.out _ HB.out) hnc HB.out.size (by omega)).mono ?_)
    rintro e w1 ⟨A1, n1, c1, rfl, y1, h1, _⟩
    have HR1 := Lib.hid (HR.out.below h1 HR.out.lt)
    have B1 := Lib.hid (HB.out.trans (h1.mono HB.out.size))
    have Y1 := Lib.hid y1
    clear h1 y1
    have r0 := HR1.out.c0
    have r1 := HR1.out.c1
    have r2 := HR1.out.c2
    have r3 := HR1.out.c3
    have rf := HR1.out.fz
    go_wp2
    (try simp only [Exit.inBlock, Exit.then])
    have e := Blk.load Tryd.underlying69 rfl size_v (HR1.out.set4 (.int .u64 0) (.int .i64 0) (.slice none 0 0) (.bool (tbV b)))
    refine bodyPost_ret (v := .tuple #[.agg #[.int .u64 0, .int .i64 0, .slice none 0 0, .bool (tbV b)], .slice A1 n1 c1, .int .i64 (tbE b)]) (by rw [results_cell3 rfl]; simp [asAddr, Result.andThen, e]) rfl ?_
    exact FTPost.of (u := 0) Byt.none_ (by rw [size_set4]; exact HR1.out.keep4 Y1.out _ _ _ _) rfl rfl rfl rfl rfl rfl (below_set4 B1.out (Nat.le_refl _) _ _ _ _)
  · clear ha hT
    generalize hW : w.alloc (.cells #[.int .u64 0, .int .i64 0, .slice none 0 0, .bool false] 69) = W
    have HR := Lib.hid (show Four W w.heap.size (.int .u64 0) (.int .i64 0) (.slice none 0 0) (.bool false) from by subst hW; exact Four.new _ _ _ _ _ _)
    have HB := Lib.hid (show Below w.heap.size w W from by subst hW; exact (Below.refl _ _).alloc (Nat.le_refl _) _)
    go_enter Tryd.func67, Tryd.ntmps67
    go_wp2_with fail
    clear hW
    (with_reducible refine (stake_any _ _ _ _ b _ (HA.out _ HB.out) hnc HB.out.size (by omega)).mono ?_)
    rintro e w1 ⟨A1, n1, c1, A2, n2, c2, rfl, y1, y2, _, _, h1⟩
    have HR1 := Lib.hid (HR.out.below h1 HR.out.lt)
    have B1 := Lib.hid (HB.out.trans (h1.mono HB.out.size))
    have Y1 := Lib.hid y1
    have Y2 := Lib.hid y2
    clear h1 y1 y2
    have r0 := HR1.out.c0
    have r1 := HR1.out.c1
    have r2 := HR1.out.c2
    have r3 := HR1.out.c3
    have rf := HR1.out.fz
    go_wp2
    (try simp only [Exit.inBlock, Exit.then])
    have e := Blk.load Tryd.underlying69 rfl size_v (HR1.out.set4 (.int .u64 0) (.int .i64 0) (.slice A1 n1 c1) (.bool false))
    refine bodyPost_ret (v := .tuple #[.agg #[.int .u64 0, .int .i64 0, .slice A1 n1 c1, .bool false], .slice A2 n2 c2, .int .i64 (scan b).E]) (by rw [results_cell3 rfl]; simp [asAddr, Result.andThen, e]) rfl ?_
    exact FTPost.of (u := 0) (by rw [size_set4]; exact HR1.out.keep4 Y1.out _ _ _ _) (by rw [size_set4]; exact HR1.out.keep4 Y2.out _ _ _ _) rfl rfl rfl rfl rfl rfl (below_set4 B1.out (Nat.le_refl _) _ _ _ _)
  · obtain ⟨⟨n1, n2, n3, n4⟩, ⟨n5, n6, n7, n8⟩, n9, n10⟩ := h
    obtain ⟨e1, e2, e3, e4, e5, e6, _⟩ := t_o (k := k) (by omega) b
    rw [e1, e2, e3, e4, e5, e6]
    clear e1 e2 e3 e4 e5 e6 ha hT
    go_enter Tryd.func67, Tryd.ntmps67
    go_wp2
    (try simp only [Exit.inBlock, Exit.then])
    have e := Blk.load Tryd.underlying69 rfl size_v (Four.new w 69 (.int .u64 0) (.int .i64 0) (.slice none 0 0) (.bool false))
    refine bodyPost_ret (v := .tuple #[.agg #[.int .u64 0, .int .i64 0, .slice none 0 0, .bool false], .slice none 0 0, .int .i64 9]) (by rw [results_cell3 rfl]; simp [asAddr, Result.andThen, e]) rfl ?_
    exact FTPost.of (u := 0) Byt.none_ Byt.none_ rfl rfl rfl rfl rfl rfl ((Below.refl _ _).alloc (Nat.le_refl _) _)
end Go.Proofs.YtdpddkpfllioiaaDoor
