/-
  What the document's take and Take (layer 5) answer.
-/
import Derived.Test.YtdpddkpfllioiaaDoorFieldTake
namespace Go.Proofs.YtdpddkpfllioiaaDoor
open Go.RowKit

theorem restL_le (x : Int) (b : List UInt8) : (restL x b).length ≤ b.length := by
  unfold restL
  split
  · rw [List.length_drop]; omega
  · simp
theorem tE_nil (k : Int) : tE k [] ≠ 0 := by
  unfold tE
  by_cases h8 : 1 ≤ k ∧ k ≤ 8
  · rw [if_pos h8]
    have hw := wd_wid h8
    obtain ⟨m, hm, hm'⟩ := wid_nat hw
    have : ¬ (wd k).toNat ≤ ([] : List UInt8).length := by rw [hm]; simp; omega
    simp only [firstE, hw, if_true, if_neg this]
    decide
  · rw [if_neg h8]
    split
    · decide
    · split
      · rw [scan_nil]; decide
      · decide
/-- What is left where a value is handed back with how many bytes it has, and an error. -/
def FNPost (w : World) (u : Nat) (i : Int) (l : List UInt8) (t : Bool) (z : Nat) (er : Int) (e : Ending) (w' : World) : Prop :=
  ∃ A n c, e = .returned (.tuple #[.agg #[.int .u64 (u : Int), .int .i64 i, .slice A n c, .bool t], .int .i64 (z : Int), .int .i64 er]) ∧ Byt w' w'.heap.size A n l ∧ Below w.heap.size w w' ∧ n ≤ c
theorem FNPost.of {w w' : World} {u u' : Nat} {i i' : Int} {l l' : List UInt8} {t t' : Bool} {z : Nat} {y : Int} {er er' : Int} {A : Option Addr} {n c : Nat} (hy : Byt w' w'.heap.size A n l)
    (hu : u = u') (hi : i = i') (hl : l = l') (ht : t = t') (hz : y = (z : Int)) (he : er = er') (hb : Below w.heap.size w w') (hc : n ≤ c := by first | assumption | exact Nat.le_refl _ | omega) :
    FNPost w u' i' l' t' z er' (.returned (.tuple #[.agg #[.int .u64 (u : Int), .int .i64 i, .slice A n c, .bool t], .int .i64 y, .int .i64 er])) w' := by
  subst hu hi hl ht hz he
  exact ⟨A, n, c, rfl, hy, hb, hc⟩

set_option maxRecDepth 100000 in
set_option maxHeartbeats 2000000 in
theorem rtakeR_u (k : Int) (hk : k = 1 ∨ k = 2 ∨ k = 3 ∨ k = 4) (A : Option Addr) (n c B : Nat) (b : List UInt8) (w : World) (ha : Byt w B A n b) (hnc : n ≤ c) (hB : B ≤ w.heap.size) (hn : n ≤ 1000000) :
    Calls Tryd.prog 68 #[.int .i64 k, .slice A n c] w (FNPost w (tU k b) (tI k b) (tL k b) (tT k b) (tN k b) (tE k b)) := by
  obtain ⟨e1, e2, e3, e4, _, e6, e7⟩ := t_u (k := k) (by omega) b
  rw [e1, e2, e3, e4, e6, e7]
  clear e1 e2 e3 e4 e6 e7
  have HW := Lib.hid (fun V => rwidth_any k V (by omega))
  generalize wd k = x at HW
  have HP := Lib.hid (fun V (h : Below w.heap.size w V) => rtake_any x A n c B b V (ha.below (h.mono hB)) hnc (Nat.le_trans hB h.size))
  have HN := Lib.hid ha.1
  have HL := Lib.hid (restL_le x b)
  clear ha
  generalize hW : w.alloc (.cells #[.int .u64 0, .int .i64 0, .slice none 0 0, .bool false] 68) = W
  have HR := Lib.hid (show Four W w.heap.size (.int .u64 0) (.int .i64 0) (.slice none 0 0) (.bool false) from by subst hW; exact Four.new _ _ _ _ _ _)
  have HB := Lib.hid (show Below w.heap.size w W from by subst hW; exact (Below.refl _ _).alloc (Nat.le_refl _) _)
  rcases hk with rfl | rfl | rfl | rfl
  · go_enter Tryd.func68, Tryd.ntmps68
    go_wp2_with fail
    clear hW
    (with_reducible refine (HW.out _).mono ?_)
    rintro e w0 ⟨rfl, h0⟩
    have HR0 := Lib.hid (HR.out.below h0 HR.out.lt)
    have B0 := Lib.hid (HB.out.trans (h0.mono HB.out.size))
    clear h0
    go_wp2_with fail
    (with_reducible refine (HP.out _ B0.out).mono ?_)
    rintro e w1 ⟨A1, n1, c1, rfl, y1, _, h1⟩
    have HR1 := Lib.hid (HR0.out.below h1 HR0.out.lt)
    have B1 := Lib.hid (B0.out.trans (h1.mono B0.out.size))
    have hl1 : n1 ≤ n := by have := y1.1; have := HN.out; have := HL.out; omega
    have HZ := Lib.hid (show (n : Int) - (n1 : Int) = ((b.length - (restL x b).length : Nat) : Int) from by rw [y1.1, HN.out]; omega)
    have hw : IntKind.i64.wrap ((n : Int) - (n1 : Int)) = (n : Int) - (n1 : Int) := by rw [IntKind.wrap_i64]; omega
    clear h1 y1
    have r0 := HR1.out.c0
    have r1 := HR1.out.c1
    have r2 := HR1.out.c2
    have r3 := HR1.out.c3
    have rf := HR1.out.fz
    go_wp2
    (try simp only [Exit.inBlock, Exit.then])
    have e := Blk.load Tryd.underlying68 rfl size_rv (HR1.out.set4 (.int .u64 (firstN x b : Int)) (.int .i64 0) (.slice none 0 0) (.bool false))
    refine bodyPost_ret (v := .tuple #[.agg #[.int .u64 (firstN x b : Int), .int .i64 0, .slice none 0 0, .bool false], .int .i64 ((n : Int) - (n1 : Int)), .int .i64 (firstE x b)]) (by rw [results_cell3 rfl]; simp [asAddr, Result.andThen, e]) rfl ?_
    exact FNPost.of Byt.none_ rfl rfl rfl rfl HZ.out rfl (below_set4 B1.out (Nat.le_refl _) _ _ _ _)
  · go_enter Tryd.func68, Tryd.ntmps68
    go_wp2_with fail
    clear hW
    (with_reducible refine (HW.out _).mono ?_)
    rintro e w0 ⟨rfl, h0⟩
    have HR0 := Lib.hid (HR.out.below h0 HR.out.lt)
    have B0 := Lib.hid (HB.out.trans (h0.mono HB.out.size))
    clear h0
    go_wp2_with fail
    (with_reducible refine (HP.out _ B0.out).mono ?_)
    rintro e w1 ⟨A1, n1, c1, rfl, y1, _, h1⟩
    have HR1 := Lib.hid (HR0.out.below h1 HR0.out.lt)
    have B1 := Lib.hid (B0.out.trans (h1.mono B0.out.size))
    have hl1 : n1 ≤ n := by have := y1.1; have := HN.out; have := HL.out; omega
    have HZ := Lib.hid (show (n : Int) - (n1 : Int) = ((b.length - (restL x b).length : Nat) : Int) from by rw [y1.1, HN.out]; omega)
    have hw : IntKind.i64.wrap ((n : Int) - (n1 : Int)) = (n : Int) - (n1 : Int) := by rw [IntKind.wrap_i64]; omega
    clear h1 y1
    have r0 := HR1.out.c0
    have r1 := HR1.out.c1
    have r2 := HR1.out.c2
    have r3 := HR1.out.c3
    have rf := HR1.out.fz
    go_wp2
    (try simp only [Exit.inBlock, Exit.then])
    have e := Blk.load Tryd.underlying68 rfl size_rv (HR1.out.set4 (.int .u64 (firstN x b : Int)) (.int .i64 0) (.slice none 0 0) (.bool false))
    refine bodyPost_ret (v := .tuple #[.agg #[.int .u64 (firstN x b : Int), .int .i64 0, .slice none 0 0, .bool false], .int .i64 ((n : Int) - (n1 : Int)), .int .i64 (firstE x b)]) (by rw [results_cell3 rfl]; simp [asAddr, Result.andThen, e]) rfl ?_
    exact FNPost.of Byt.none_ rfl rfl rfl rfl HZ.out rfl (below_set4 B1.out (Nat.le_refl _) _ _ _ _)
  · go_enter Tryd.func68, Tryd.ntmps68
    go_wp2_with fail
    clear hW
    (with_reducible refine (HW.out _).mono ?_)
    rintro e w0 ⟨rfl, h0⟩
    have HR0 := Lib.hid (HR.out.below h0 HR.out.lt)
    have B0 := Lib.hid (HB.out.trans (h0.mono HB.out.size))
    clear h0
    go_wp2_with fail
    (with_reducible refine (HP.out _ B0.out).mono ?_)
    rintro e w1 ⟨A1, n1, c1, rfl, y1, _, h1⟩
    have HR1 := Lib.hid (HR0.out.below h1 HR0.out.lt)
    have B1 := Lib.hid (B0.out.trans (h1.mono B0.out.size))
    have hl1 : n1 ≤ n := by have := y1.1; have := HN.out; have := HL.out; omega
    have HZ := Lib.hid (show (n : Int) - (n1 : Int) = ((b.length - (restL x b).length : Nat) : Int) from by rw [y1.1, HN.out]; omega)
    have hw : IntKind.i64.wrap ((n : Int) - (n1 : Int)) = (n : Int) - (n1 : Int) := by rw [IntKind.wrap_i64]; omega
    clear h1 y1
    have r0 := HR1.out.c0
    have r1 := HR1.out.c1
    have r2 := HR1.out.c2
    have r3 := HR1.out.c3
    have rf := HR1.out.fz
    go_wp2
    (try simp only [Exit.inBlock, Exit.then])
    have e := Blk.load Tryd.underlying68 rfl size_rv (HR1.out.set4 (.int .u64 (firstN x b : Int)) (.int .i64 0) (.slice none 0 0) (.bool false))
    refine bodyPost_ret (v := .tuple #[.agg #[.int .u64 (firstN x b : Int), .int .i64 0, .slice none 0 0, .bool false], .int .i64 ((n : Int) - (n1 : Int)), .int .i64 (firstE x b)]) (by rw [results_cell3 rfl]; simp [asAddr, Result.andThen, e]) rfl ?_
    exact FNPost.of Byt.none_ rfl rfl rfl rfl HZ.out rfl (below_set4 B1.out (Nat.le_refl _) _ _ _ _)
  · go_enter Tryd.func68, Tryd.ntmps68
    go_wp2_with fail
    clear hW
    (with_reducible refine (HW.out _).mono ?_)
    rintro e w0 ⟨rfl, h0⟩
    have HR0 := Lib.hid (HR.out.below h0 HR.out.lt)
    have B0 := Lib.hid (HB.out.trans (h0.mono HB.out.size))
    clear h0
    go_wp2_with fail
    (with_reducible refine (HP.out _ B0.out).mono ?_)
    rintro e w1 ⟨A1, n1, c1, rfl, y1, _, h1⟩
    have HR1 := Lib.hid (HR0.out.below h1 HR0.out.lt)
    have B1 := Lib.hid (B0.out.trans (h1.mono B0.out.size))
    have hl1 : n1 ≤ n := by have := y1.1; have := HN.out; have := HL.out; omega
    have HZ := Lib.hid (show (n : Int) - (n1 : Int) = ((b.length - (restL x b).length : Nat) : Int) from by rw [y1.1, HN.out]; omega)
    have hw : IntKind.i64.wrap ((n : Int) - (n1 : Int)) = (n : Int) - (n1 : Int) := by rw [IntKind.wrap_i64]; omega
    clear h1 y1
    have r0 := HR1.out.c0
    have r1 := HR1.out.c1
    have r2 := HR1.out.c2
    have r3 := HR1.out.c3
    have rf := HR1.out.fz
    go_wp2
    (try simp only [Exit.inBlock, Exit.then])
    have e := Blk.load Tryd.underlying68 rfl size_rv (HR1.out.set4 (.int .u64 (firstN x b : Int)) (.int .i64 0) (.slice none 0 0) (.bool false))
    refine bodyPost_ret (v := .tuple #[.agg #[.int .u64 (firstN x b : Int), .int .i64 0, .slice none 0 0, .bool false], .int .i64 ((n : Int) - (n1 : Int)), .int .i64 (firstE x b)]) (by rw [results_cell3 rfl]; simp [asAddr, Result.andThen, e]) rfl ?_
    exact FNPost.of Byt.none_ rfl rfl rfl rfl HZ.out rfl (below_set4 B1.out (Nat.le_refl _) _ _ _ _)
set_option maxRecDepth 100000 in
set_option maxHeartbeats 2000000 in
theorem rtakeR_i (k : Int) (hk : k = 5 ∨ k = 6 ∨ k = 7 ∨ k = 8) (A : Option Addr) (n c B : Nat) (b : List UInt8) (w : World) (ha : Byt w B A n b) (hnc : n ≤ c) (hB : B ≤ w.heap.size) (hn : n ≤ 1000000) :
    Calls Tryd.prog 68 #[.int .i64 k, .slice A n c] w (FNPost w (tU k b) (tI k b) (tL k b) (tT k b) (tN k b) (tE k b)) := by
  obtain ⟨e1, e2, e3, e4, _, e6, e7⟩ := t_i (k := k) (by omega) b
  rw [e1, e2, e3, e4, e6, e7]
  clear e1 e2 e3 e4 e6 e7
  have HW := Lib.hid (fun V => rwidth_any k V (by omega))
  generalize wd k = x at HW
  have HP := Lib.hid (fun V (h : Below w.heap.size w V) => ritake_any x A n c B b V (ha.below (h.mono hB)) hnc (Nat.le_trans hB h.size))
  have HN := Lib.hid ha.1
  have HL := Lib.hid (restL_le x b)
  clear ha
  generalize hW : w.alloc (.cells #[.int .u64 0, .int .i64 0, .slice none 0 0, .bool false] 68) = W
  have HR := Lib.hid (show Four W w.heap.size (.int .u64 0) (.int .i64 0) (.slice none 0 0) (.bool false) from by subst hW; exact Four.new _ _ _ _ _ _)
  have HB := Lib.hid (show Below w.heap.size w W from by subst hW; exact (Below.refl _ _).alloc (Nat.le_refl _) _)
  rcases hk with rfl | rfl | rfl | rfl
  · go_enter Tryd.func68, Tryd.ntmps68
    go_wp2_with fail
    clear hW
    (with_reducible refine (HW.out _).mono ?_)
    rintro e w0 ⟨rfl, h0⟩
    have HR0 := Lib.hid (HR.out.below h0 HR.out.lt)
    have B0 := Lib.hid (HB.out.trans (h0.mono HB.out.size))
    clear h0
    go_wp2_with fail
    (with_reducible refine (HP.out _ B0.out).mono ?_)
    rintro e w1 ⟨A1, n1, c1, rfl, y1, _, h1⟩
    have HR1 := Lib.hid (HR0.out.below h1 HR0.out.lt)
    have B1 := Lib.hid (B0.out.trans (h1.mono B0.out.size))
    have hl1 : n1 ≤ n := by have := y1.1; have := HN.out; have := HL.out; omega
    have HZ := Lib.hid (show (n : Int) - (n1 : Int) = ((b.length - (restL x b).length : Nat) : Int) from by rw [y1.1, HN.out]; omega)
    have hw : IntKind.i64.wrap ((n : Int) - (n1 : Int)) = (n : Int) - (n1 : Int) := by rw [IntKind.wrap_i64]; omega
    clear h1 y1
    have r0 := HR1.out.c0
    have r1 := HR1.out.c1
    have r2 := HR1.out.c2
    have r3 := HR1.out.c3
    have rf := HR1.out.fz
    go_wp2
    (try simp only [Exit.inBlock, Exit.then])
    have e := Blk.load Tryd.underlying68 rfl size_rv (HR1.out.set4 (.int .u64 0) (.int .i64 (itakeN x b)) (.slice none 0 0) (.bool false))
    refine bodyPost_ret (v := .tuple #[.agg #[.int .u64 0, .int .i64 (itakeN x b), .slice none 0 0, .bool false], .int .i64 ((n : Int) - (n1 : Int)), .int .i64 (firstE x b)]) (by rw [results_cell3 rfl]; simp [asAddr, Result.andThen, e]) rfl ?_
    exact FNPost.of (u := 0) Byt.none_ rfl rfl rfl rfl HZ.out rfl (below_set4 B1.out (Nat.le_refl _) _ _ _ _)
  · go_enter Tryd.func68, Tryd.ntmps68
    go_wp2_with fail
    clear hW
    (with_reducible refine (HW.out _).mono ?_)
    rintro e w0 ⟨rfl, h0⟩
    have HR0 := Lib.hid (HR.out.below h0 HR.out.lt)
    have B0 := Lib.hid (HB.out.trans (h0.mono HB.out.size))
    clear h0
    go_wp2_with fail
    (with_reducible refine (HP.out _ B0.out).mono ?_)
    rintro e w1 ⟨A1, n1, c1, rfl, y1, _, h1⟩
    have HR1 := Lib.hid (HR0.out.below h1 HR0.out.lt)
    have B1 := Lib.hid (B0.out.trans (h1.mono B0.out.size))
    have hl1 : n1 ≤ n := by have := y1.1; have := HN.out; have := HL.out; omega
    have HZ := Lib.hid (show (n : Int) - (n1 : Int) = ((b.length - (restL x b).length : Nat) : Int) from by rw [y1.1, HN.out]; omega)
    have hw : IntKind.i64.wrap ((n : Int) - (n1 : Int)) = (n : Int) - (n1 : Int) := by rw [IntKind.wrap_i64]; omega
    clear h1 y1
    have r0 := HR1.out.c0
    have r1 := HR1.out.c1
    have r2 := HR1.out.c2
    have r3 := HR1.out.c3
    have rf := HR1.out.fz
    go_wp2
    (try simp only [Exit.inBlock, Exit.then])
    have e := Blk.load Tryd.underlying68 rfl size_rv (HR1.out.set4 (.int .u64 0) (.int .i64 (itakeN x b)) (.slice none 0 0) (.bool false))
    refine bodyPost_ret (v := .tuple #[.agg #[.int .u64 0, .int .i64 (itakeN x b), .slice none 0 0, .bool false], .int .i64 ((n : Int) - (n1 : Int)), .int .i64 (firstE x b)]) (by rw [results_cell3 rfl]; simp [asAddr, Result.andThen, e]) rfl ?_
    exact FNPost.of (u := 0) Byt.none_ rfl rfl rfl rfl HZ.out rfl (below_set4 B1.out (Nat.le_refl _) _ _ _ _)
  · go_enter Tryd.func68, Tryd.ntmps68
    go_wp2_with fail
    clear hW
    (with_reducible refine (HW.out _).mono ?_)
    rintro e w0 ⟨rfl, h0⟩
    have HR0 := Lib.hid (HR.out.below h0 HR.out.lt)
    have B0 := Lib.hid (HB.out.trans (h0.mono HB.out.size))
    clear h0
    go_wp2_with fail
    (with_reducible refine (HP.out _ B0.out).mono ?_)
    rintro e w1 ⟨A1, n1, c1, rfl, y1, _, h1⟩
    have HR1 := Lib.hid (HR0.out.below h1 HR0.out.lt)
    have B1 := Lib.hid (B0.out.trans (h1.mono B0.out.size))
    have hl1 : n1 ≤ n := by have := y1.1; have := HN.out; have := HL.out; omega
    have HZ := Lib.hid (show (n : Int) - (n1 : Int) = ((b.length - (restL x b).length : Nat) : Int) from by rw [y1.1, HN.out]; omega)
    have hw : IntKind.i64.wrap ((n : Int) - (n1 : Int)) = (n : Int) - (n1 : Int) := by rw [IntKind.wrap_i64]; omega
    clear h1 y1
    have r0 := HR1.out.c0
    have r1 := HR1.out.c1
    have r2 := HR1.out.c2
    have r3 := HR1.out.c3
    have rf := HR1.out.fz
    go_wp2
    (try simp only [Exit.inBlock, Exit.then])
    have e := Blk.load Tryd.underlying68 rfl size_rv (HR1.out.set4 (.int .u64 0) (.int .i64 (itakeN x b)) (.slice none 0 0) (.bool false))
    refine bodyPost_ret (v := .tuple #[.agg #[.int .u64 0, .int .i64 (itakeN x b), .slice none 0 0, .bool false], .int .i64 ((n : Int) - (n1 : Int)), .int .i64 (firstE x b)]) (by rw [results_cell3 rfl]; simp [asAddr, Result.andThen, e]) rfl ?_
    exact FNPost.of (u := 0) Byt.none_ rfl rfl rfl rfl HZ.out rfl (below_set4 B1.out (Nat.le_refl _) _ _ _ _)
  · go_enter Tryd.func68, Tryd.ntmps68
    go_wp2_with fail
    clear hW
    (with_reducible refine (HW.out _).mono ?_)
    rintro e w0 ⟨rfl, h0⟩
    have HR0 := Lib.hid (HR.out.below h0 HR.out.lt)
    have B0 := Lib.hid (HB.out.trans (h0.mono HB.out.size))
    clear h0
    go_wp2_with fail
    (with_reducible refine (HP.out _ B0.out).mono ?_)
    rintro e w1 ⟨A1, n1, c1, rfl, y1, _, h1⟩
    have HR1 := Lib.hid (HR0.out.below h1 HR0.out.lt)
    have B1 := Lib.hid (B0.out.trans (h1.mono B0.out.size))
    have hl1 : n1 ≤ n := by have := y1.1; have := HN.out; have := HL.out; omega
    have HZ := Lib.hid (show (n : Int) - (n1 : Int) = ((b.length - (restL x b).length : Nat) : Int) from by rw [y1.1, HN.out]; omega)
    have hw : IntKind.i64.wrap ((n : Int) - (n1 : Int)) = (n : Int) - (n1 : Int) := by rw [IntKind.wrap_i64]; omega
    clear h1 y1
    have r0 := HR1.out.c0
    have r1 := HR1.out.c1
    have r2 := HR1.out.c2
    have r3 := HR1.out.c3
    have rf := HR1.out.fz
    go_wp2
    (try simp only [Exit.inBlock, Exit.then])
    have e := Blk.load Tryd.underlying68 rfl size_rv (HR1.out.set4 (.int .u64 0) (.int .i64 (itakeN x b)) (.slice none 0 0) (.bool false))
    refine bodyPost_ret (v := .tuple #[.agg #[.int .u64 0, .int .i64 (itakeN x b), .slice none 0 0, .bool false], .int .i64 ((n : Int) - (n1 : Int)), .int .i64 (firstE x b)]) (by rw [results_cell3 rfl]; simp [asAddr, Result.andThen, e]) rfl ?_
    exact FNPost.of (u := 0) Byt.none_ rfl rfl rfl rfl HZ.out rfl (below_set4 B1.out (Nat.le_refl _) _ _ _ _)
set_option maxRecDepth 100000 in
set_option maxHeartbeats 2000000 in
theorem rtakeR_any (k : Int) (A : Option Addr) (n c B : Nat) (b : List UInt8) (w : World) (ha : Byt w B A n b) (hnc : n ≤ c) (hB : B ≤ w.heap.size) (hn : n ≤ 1000000) :
    Calls Tryd.prog 68 #[.int .i64 k, .slice A n c] w (FNPost w (tU k b) (tI k b) (tL k b) (tT k b) (tN k b) (tE k b)) := by
  have HA := Lib.hid (fun V (h : Below w.heap.size w V) => (ha.more hB).below h)
  rcases kinds k with h | h | h | h | h | h | h | h | rfl | rfl | h
  · exact rtakeR_u k (by omega) A n c B b w ha hnc hB hn
  · exact rtakeR_u k (by omega) A n c B b w ha hnc hB hn
  · exact rtakeR_u k (by omega) A n c B b w ha hnc hB hn
  · exact rtakeR_u k (by omega) A n c B b w ha hnc hB hn
  · exact rtakeR_i k (by omega) A n c B b w ha hnc hB hn
  · exact rtakeR_i k (by omega) A n c B b w ha hnc hB hn
  · exact rtakeR_i k (by omega) A n c B b w ha hnc hB hn
  · exact rtakeR_i k (by omega) A n c B b w ha hnc hB hn
  · clear ha
    generalize hW : w.alloc (.cells #[.int .u64 0, .int .i64 0, .slice none 0 0, .bool false] 68) = W
    have HR := Lib.hid (show Four W w.heap.size (.int .u64 0) (.int .i64 0) (.slice none 0 0) (.bool false) from by subst hW; exact Four.new _ _ _ _ _ _)
    have HB := Lib.hid (show Below w.heap.size w W from by subst hW; exact (Below.refl _ _).alloc (Nat.le_refl _) _)
    go_enter Tryd.func68, Tryd.ntmps68
    go_wp2_with fail
    clear hW
    (with_reducible refine (rtakebool_any _ _ _ _ b _ (HA.out _ HB.out) hnc HB.out.size).mono ?_)
    rintro e w1 ⟨A1, n1, c1, rfl, y1, h1, _⟩
    have HR1 := Lib.hid (HR.out.below h1 HR.out.lt)
    have B1 := Lib.hid (HB.out.trans (h1.mono HB.out.size))
    clear h1 y1
    have r0 := HR1.out.c0
    have r1 := HR1.out.c1
    have r2 := HR1.out.c2
    have r3 := HR1.out.c3
    have rf := HR1.out.fz
    go_wp2
    (try simp only [Exit.inBlock, Exit.then])
    have e := Blk.load Tryd.underlying68 rfl size_rv (HR1.out.set4 (.int .u64 0) (.int .i64 0) (.slice none 0 0) (.bool (tbV b)))
    refine bodyPost_ret (v := .tuple #[.agg #[.int .u64 0, .int .i64 0, .slice none 0 0, .bool (tbV b)], .int .i64 1, .int .i64 (tbE b)]) (by rw [results_cell3 rfl]; simp [asAddr, Result.andThen, e]) rfl ?_
    exact FNPost.of (u := 0) Byt.none_ rfl rfl rfl rfl rfl rfl (below_set4 B1.out (Nat.le_refl _) _ _ _ _)
  · clear ha
    generalize hW : w.alloc (.cells #[.int .u64 0, .int .i64 0, .slice none 0 0, .bool false] 68) = W
    have HR := Lib.hid (show Four W w.heap.size (.int .u64 0) (.int .i64 0) (.slice none 0 0) (.bool false) from by subst hW; exact Four.new _ _ _ _ _ _)
    have HB := Lib.hid (show Below w.heap.size w W from by subst hW; exact (Below.refl _ _).alloc (Nat.le_refl _) _)
    go_enter Tryd.func68, Tryd.ntmps68
    go_wp2_with fail
    clear hW
    (with_reducible refine (rstake_any _ _ _ _ b _ (HA.out _ HB.out) HB.out.size (by omega)).mono ?_)
    rintro e w1 ⟨A1, n1, c1, rfl, y1, h1, _⟩
    have HR1 := Lib.hid (HR.out.below h1 HR.out.lt)
    have B1 := Lib.hid (HB.out.trans (h1.mono HB.out.size))
    have Y1 := Lib.hid y1
    clear h1 y1
    have r0 := HR1.out.c0
    have r1 := HR1.out.c1
    have r2 := HR1.out.c2
    have r3 := HR1.out.c3
    have rf := HR1.out.fz
    go_wp2
    (try simp only [Exit.inBlock, Exit.then])
    have e := Blk.load Tryd.underlying68 rfl size_rv (HR1.out.set4 (.int .u64 0) (.int .i64 0) (.slice A1 n1 c1) (.bool false))
    refine bodyPost_ret (v := .tuple #[.agg #[.int .u64 0, .int .i64 0, .slice A1 n1 c1, .bool false], .int .i64 ((scan b).N : Int), .int .i64 (scan b).E]) (by rw [results_cell3 rfl]; simp [asAddr, Result.andThen, e]) rfl ?_
    exact FNPost.of (u := 0) (by rw [size_set4]; exact HR1.out.keep4 Y1.out _ _ _ _) rfl rfl rfl rfl rfl rfl (below_set4 B1.out (Nat.le_refl _) _ _ _ _)
  · obtain ⟨⟨n1, n2, n3, n4⟩, ⟨n5, n6, n7, n8⟩, n9, n10⟩ := h
    obtain ⟨e1, e2, e3, e4, _, e6, e7⟩ := t_o (k := k) (by omega) b
    rw [e1, e2, e3, e4, e6, e7]
    clear e1 e2 e3 e4 e6 e7 ha
    have e := Blk.load Tryd.underlying68 rfl size_rv (Four.new w 68 (.int .u64 0) (.int .i64 0) (.slice none 0 0) (.bool false))
    have HE := Lib.hid e
    clear e
    by_cases hlow : k < 1
    · have g1 : ¬ (1 : Int) ≤ k := by omega
      have g5 : ¬ (5 : Int) ≤ k := by omega
      go_enter Tryd.func68, Tryd.ntmps68
      go_wp2
      (try simp only [Exit.inBlock, Exit.then])
      refine bodyPost_ret (v := .tuple #[.agg #[.int .u64 0, .int .i64 0, .slice none 0 0, .bool false], .int .i64 0, .int .i64 9]) (by rw [results_cell3 rfl]; simp [asAddr, Result.andThen, HE.out]) rfl ?_
      exact FNPost.of (u := 0) Byt.none_ rfl rfl rfl rfl rfl rfl ((Below.refl _ _).alloc (Nat.le_refl _) _)
    · have g1 : (1 : Int) ≤ k := by omega
      have g4 : ¬ k ≤ (4 : Int) := by omega
      have g5 : (5 : Int) ≤ k := by omega
      have g8 : ¬ k ≤ (8 : Int) := by omega
      go_enter Tryd.func68, Tryd.ntmps68
      go_wp2
      (try simp only [Exit.inBlock, Exit.then])
      refine bodyPost_ret (v := .tuple #[.agg #[.int .u64 0, .int .i64 0, .slice none 0 0, .bool false], .int .i64 0, .int .i64 9]) (by rw [results_cell3 rfl]; simp [asAddr, Result.andThen, HE.out]) rfl ?_
      exact FNPost.of (u := 0) Byt.none_ rfl rfl rfl rfl rfl rfl ((Below.refl _ _).alloc (Nat.le_refl _) _)
end Go.Proofs.YtdpddkpfllioiaaDoor
