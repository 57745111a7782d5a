/-
  What the document's Take (layer 5) answers.
-/
import Derived.Test.YtdpddkpfllioiaaDoorFieldRTake
namespace Go.Proofs.YtdpddkpfllioiaaDoor
open Go.RowKit

set_option maxRecDepth 100000 in
set_option maxHeartbeats 4000000 in
theorem rftake_any (k : Int) (f : Bool) (A : Option Addr) (n c B : Nat) (b : List UInt8) (w : World) (ha : Byt w B A n b) (hnc : n ≤ c) (hB : B ≤ w.heap.size) (hn : n ≤ 1000000) :
    Calls Tryd.prog 51 #[.agg #[.int .i64 k, .bool f], .slice A n c] w (FTPost w (tU k (turn f b)) (tI k (turn f b)) (tL k (turn f b)) (tT k (turn f b)) (turn f (tR k (turn f b))) (tE k (turn f b))) := by
  have HA := Lib.hid (fun V (h : Below w.heap.size w V) => (ha.more hB).below h)
  have HN := Lib.hid ha.1
  clear ha
  have HX := Lib.hid (fun V A2 n2 c2 (h2 : Byt V V.heap.size A2 n2 (turn f b)) (hc2 : n2 ≤ c2) => rtakeR_any k A2 n2 c2 V.heap.size (turn f b) V h2 hc2 (Nat.le_refl _) (by have := h2.1; rw [turn_length] at this; have := HN.out; omega))
  generalize hW : (w.alloc (.cells #[.int .i64 k, .bool f] 57)).alloc (.cells #[.int .u64 0, .int .i64 0, .slice none 0 0, .bool false] 68) = W
  have HK := Lib.hid (show Two W w.heap.size (.int .i64 k) (.bool f) from by subst hW; exact (Two.new _ _ _ _).alloc _)
  have HR := Lib.hid (show Four W (w.heap.size + 1) (.int .u64 0) (.int .i64 0) (.slice none 0 0) (.bool false) from by subst hW; have := Four.new (w.alloc (.cells #[.int .i64 k, .bool f] 57)) 68 (.int .u64 0) (.int .i64 0) (.slice none 0 0) (.bool false); rwa [World.size_alloc] at this)
  have HB := Lib.hid (show Below w.heap.size w W from by subst hW; exact ((Below.refl _ _).alloc (Nat.le_refl _) _).alloc (by simp) _)
  have k0 := HK.out.k0
  have k1 := HK.out.k1
  by_cases he : tE k (turn f b) = 0
  · obtain ⟨hd, hle⟩ := tR_drop he
    have HD := Lib.hid (show turn f (tR k (turn f b)) = b.drop (tN k (turn f b)) from by rw [hd, turn_drop, turn_turn])
    rw [HD.out]
    rw [turn_length] at hle
    obtain ⟨j, hj⟩ : ∃ j, n = tN k (turn f b) + j := ⟨n - tN k (turn f b), by have := HN.out; omega⟩
    have hpos : 0 < n := by
      rcases Nat.eq_zero_or_pos n with q | q
      · exfalso
        have hb0 : b = [] := List.length_eq_zero_iff.1 (by have := HN.out; omega)
        rw [hb0, turn_nil] at he
        exact tE_nil k he
      · exact q
    obtain ⟨ad, rfl⟩ : ∃ ad, A = some ad := by
      obtain ⟨ad, q, _⟩ := (HA.out w (Below.refl _ _)).2.2 hpos
      exact ⟨ad, q⟩
    rw [he] at HX
    rw [he]
    obtain ⟨m, hm⟩ : ∃ m, tN k (turn f b) = m := ⟨_, rfl⟩
    rw [hm] at hj HX
    rw [hm]
    subst hj
    obtain ⟨A', hsl, hby⟩ := slice_from (P := Tryd.prog) Tryd.underlying26 size_u8 ad m j c hnc
    have HBY := Lib.hid (fun V (h : Below w.heap.size w V) => hby _ _ _ (HA.out V h))
    clear hby hd HD
    have hm1 : (m : Int) ≤ ((m + j : Nat) : Int) := by omega
    have hmj : (m : Int) ≤ (m : Int) + (j : Int) := by omega
    generalize hx : turn f b = x at HX ⊢
    cases f
    · obtain rfl : b = x := hx
      go_enter Tryd.func51, Tryd.ntmps51
      go_wp2_with fail
      clear hW
      have HR1 := Lib.hid HR.out
      have B1 := Lib.hid HB.out
      (with_reducible refine (HX.out _ _ _ _ ((HA.out _ HB.out).more HB.out.size) hnc).mono ?_)
      rintro e v2 ⟨A2, n2, c2, rfl, y2, h2, _⟩
      have HR2 := Lib.hid (HR1.out.below h2 HR1.out.lt)
      have B2 := Lib.hid (B1.out.trans (h2.mono B1.out.size))
      have Y2 := Lib.hid y2
      clear h2 y2 k0 k1
      have zz : w.heap.size + 1 < v2.heap.size := HR2.out.lt
      go_wp2_with fail
      generalize hV : v2.alloc (.cells #[.int .u64 (tU k b : Int), .int .i64 (tI k b), .slice A2 n2 c2, .bool (tT k b)] 68) = V
      have hS : Four V v2.heap.size (.int .u64 (tU k b : Int)) (.int .i64 (tI k b)) (.slice A2 n2 c2) (.bool (tT k b)) := by subst hV; exact Four.new _ _ _ _ _ _
      have HR3 := Lib.hid (show Four V (w.heap.size + 1) (.int .u64 0) (.int .i64 0) (.slice none 0 0) (.bool false) from by subst hV; exact HR2.out.alloc _)
      have B3 := Lib.hid (show Below w.heap.size w V from by subst hV; exact B2.out.alloc B2.out.size _)
      have Y2V := Lib.hid (show Byt V V.heap.size A2 n2 (tL k b) from by subst hV; exact (Y2.out.alloc (Nat.le_refl _) _).more (by simp))
      have zV : v2.heap.size < V.heap.size := hS.lt
      have s0 := hS.c0
      have s1 := hS.c1
      have s2 := hS.c2
      have s3 := hS.c3
      clear hS
      clear hV
      have q0 := HR3.out.c0
      have q1 := HR3.out.c1
      have q2 := HR3.out.c2
      have q3 := HR3.out.c3
      have qf := HR3.out.fz
      have hn4 : ∀ {o : Nat}, (⟨v2.heap.size, o, none⟩ : Addr).block ≠ w.heap.size + 1 := fun {o} => by simp; omega
      go_region_held3 (fun w' => w'.cell? ⟨v2.heap.size, 0, none⟩ = some (.int .u64 (tU k b : Int)) ∧ w'.cell? ⟨v2.heap.size, 1, none⟩ = some (.int .i64 (tI k b)) ∧ w'.cell? ⟨v2.heap.size, 2, none⟩ = some (.slice A2 n2 c2) ∧ w'.cell? ⟨v2.heap.size, 3, none⟩ = some (.bool (tT k b)))
        (first | (with_reducible exact ⟨s0, s1, s2, s3⟩) | exact ⟨s0, s1, s2, s3⟩ | exact ⟨(cell_set4 V.drew _ _ _ _ _ _ hn4).trans s0, (cell_set4 V.drew _ _ _ _ _ _ hn4).trans s1, (cell_set4 V.drew _ _ _ _ _ _ hn4).trans s2, (cell_set4 V.drew _ _ _ _ _ _ hn4).trans s3⟩)
        (fail)
      go_wp2
      (try simp only [Exit.inBlock, Exit.then])
      have e := Blk.load Tryd.underlying68 rfl size_rv (show Four (set4 V (w.heap.size + 1) (.int .u64 (tU k b : Int)) (.int .i64 (tI k b)) (.slice A2 n2 c2) (.bool (tT k b))).drew (w.heap.size + 1) (.int .u64 (tU k b : Int)) (.int .i64 (tI k b)) (.slice A2 n2 c2) (.bool (tT k b)) from HR3.out.set4 _ _ _ _)
      refine bodyPost_ret (v := .tuple #[.agg #[.int .u64 (tU k b : Int), .int .i64 (tI k b), .slice A2 n2 c2, .bool (tT k b)], .slice A' j (c - m), .int .i64 0]) (by rw [results_cell3 rfl]; simp [asAddr, Result.andThen, e]) rfl ?_
      exact FTPost.of (show Byt (set4 V (w.heap.size + 1) (.int .u64 (tU k b : Int)) (.int .i64 (tI k b)) (.slice A2 n2 c2) (.bool (tT k b))) (set4 V (w.heap.size + 1) (.int .u64 (tU k b : Int)) (.int .i64 (tI k b)) (.slice A2 n2 c2) (.bool (tT k b))).heap.size A2 n2 (tL k b) from by rw [size_set4]; exact HR3.out.keep4 Y2V.out _ _ _ _) (show Byt (set4 V (w.heap.size + 1) (.int .u64 (tU k b : Int)) (.int .i64 (tI k b)) (.slice A2 n2 c2) (.bool (tT k b))) (set4 V (w.heap.size + 1) (.int .u64 (tU k b : Int)) (.int .i64 (tI k b)) (.slice A2 n2 c2) (.bool (tT k b))).heap.size A' j (b.drop m) from by rw [size_set4]; exact HR3.out.keep4 ((HBY.out _ B3.out).more B3.out.size) _ _ _ _) rfl rfl rfl rfl rfl rfl (below_set4 B3.out (by omega) _ _ _ _).drew
    · obtain rfl : othL b = x := hx
      go_enter Tryd.func51, Tryd.ntmps51
      go_wp2_with fail
      clear hW
      (with_reducible refine (roth_any _ _ _ _ b _ (HA.out _ HB.out) HB.out.size (by omega)).mono ?_)
      rintro e w1 ⟨A1, n1, c1, rfl, y1, nc1, h1⟩
      have HR1 := Lib.hid (HR.out.below h1 HR.out.lt)
      have B1 := Lib.hid (HB.out.trans (h1.mono HB.out.size))
      have Y1 := Lib.hid y1
      have k0' := (HK.out.below h1 HK.out.lt).k0
      clear h1 y1 k0 k1
      go_wp2_with fail
      (with_reducible refine (HX.out _ _ _ _ Y1.out nc1).mono ?_)
      rintro e v2 ⟨A2, n2, c2, rfl, y2, h2, _⟩
      have HR2 := Lib.hid (HR1.out.below h2 HR1.out.lt)
      have B2 := Lib.hid (B1.out.trans (h2.mono B1.out.size))
      have Y2 := Lib.hid y2
      clear h2 y2 k0'
      have zz : w.heap.size + 1 < v2.heap.size := HR2.out.lt
      go_wp2_with fail
      generalize hV : v2.alloc (.cells #[.int .u64 (tU k (othL b) : Int), .int .i64 (tI k (othL b)), .slice A2 n2 c2, .bool (tT k (othL b))] 68) = V
      have hS : Four V v2.heap.size (.int .u64 (tU k (othL b) : Int)) (.int .i64 (tI k (othL b))) (.slice A2 n2 c2) (.bool (tT k (othL b))) := by subst hV; exact Four.new _ _ _ _ _ _
      have HR3 := Lib.hid (show Four V (w.heap.size + 1) (.int .u64 0) (.int .i64 0) (.slice none 0 0) (.bool false) from by subst hV; exact HR2.out.alloc _)
      have B3 := Lib.hid (show Below w.heap.size w V from by subst hV; exact B2.out.alloc B2.out.size _)
      have Y2V := Lib.hid (show Byt V V.heap.size A2 n2 (tL k (othL b)) from by subst hV; exact (Y2.out.alloc (Nat.le_refl _) _).more (by simp))
      have zV : v2.heap.size < V.heap.size := hS.lt
      have s0 := hS.c0
      have s1 := hS.c1
      have s2 := hS.c2
      have s3 := hS.c3
      clear hS
      clear hV
      have q0 := HR3.out.c0
      have q1 := HR3.out.c1
      have q2 := HR3.out.c2
      have q3 := HR3.out.c3
      have qf := HR3.out.fz
      have hn4 : ∀ {o : Nat}, (⟨v2.heap.size, o, none⟩ : Addr).block ≠ w.heap.size + 1 := fun {o} => by simp; omega
      go_region_held3 (fun w' => w'.cell? ⟨v2.heap.size, 0, none⟩ = some (.int .u64 (tU k (othL b) : Int)) ∧ w'.cell? ⟨v2.heap.size, 1, none⟩ = some (.int .i64 (tI k (othL b))) ∧ w'.cell? ⟨v2.heap.size, 2, none⟩ = some (.slice A2 n2 c2) ∧ w'.cell? ⟨v2.heap.size, 3, none⟩ = some (.bool (tT k (othL b))))
        (first | (with_reducible exact ⟨s0, s1, s2, s3⟩) | exact ⟨s0, s1, s2, s3⟩ | exact ⟨(cell_set4 V.drew _ _ _ _ _ _ hn4).trans s0, (cell_set4 V.drew _ _ _ _ _ _ hn4).trans s1, (cell_set4 V.drew _ _ _ _ _ _ hn4).trans s2, (cell_set4 V.drew _ _ _ _ _ _ hn4).trans s3⟩)
        (fail)
      go_wp2
      (try simp only [Exit.inBlock, Exit.then])
      have e := Blk.load Tryd.underlying68 rfl size_rv (show Four (set4 V (w.heap.size + 1) (.int .u64 (tU k (othL b) : Int)) (.int .i64 (tI k (othL b))) (.slice A2 n2 c2) (.bool (tT k (othL b)))).drew (w.heap.size + 1) (.int .u64 (tU k (othL b) : Int)) (.int .i64 (tI k (othL b))) (.slice A2 n2 c2) (.bool (tT k (othL b))) from HR3.out.set4 _ _ _ _)
      refine bodyPost_ret (v := .tuple #[.agg #[.int .u64 (tU k (othL b) : Int), .int .i64 (tI k (othL b)), .slice A2 n2 c2, .bool (tT k (othL b))], .slice A' j (c - m), .int .i64 0]) (by rw [results_cell3 rfl]; simp [asAddr, Result.andThen, e]) rfl ?_
      exact FTPost.of (show Byt (set4 V (w.heap.size + 1) (.int .u64 (tU k (othL b) : Int)) (.int .i64 (tI k (othL b))) (.slice A2 n2 c2) (.bool (tT k (othL b)))) (set4 V (w.heap.size + 1) (.int .u64 (tU k (othL b) : Int)) (.int .i64 (tI k (othL b))) (.slice A2 n2 c2) (.bool (tT k (othL b)))).heap.size A2 n2 (tL k (othL b)) from by rw [size_set4]; exact HR3.out.keep4 Y2V.out _ _ _ _) (show Byt (set4 V (w.heap.size + 1) (.int .u64 (tU k (othL b) : Int)) (.int .i64 (tI k (othL b))) (.slice A2 n2 c2) (.bool (tT k (othL b)))) (set4 V (w.heap.size + 1) (.int .u64 (tU k (othL b) : Int)) (.int .i64 (tI k (othL b))) (.slice A2 n2 c2) (.bool (tT k (othL b)))).heap.size A' j (b.drop m) from by rw [size_set4]; exact HR3.out.keep4 ((HBY.out _ B3.out).more B3.out.size) _ _ _ _) rfl rfl rfl rfl rfl rfl (below_set4 B3.out (by omega) _ _ _ _).drew
  · have hne : ((tE k (turn f b)) != 0) = true := by simpa using he
    have HE := Lib.hid (tE_none he)
    generalize hx : turn f b = x at HX HE hne ⊢
    clear he
    cases f
    · obtain rfl : b = x := hx
      go_enter Tryd.func51, Tryd.ntmps51
      go_wp2_with fail
      clear hW
      have HR1 := Lib.hid HR.out
      have B1 := Lib.hid HB.out
      (with_reducible refine (HX.out _ _ _ _ ((HA.out _ HB.out).more HB.out.size) hnc).mono ?_)
      rintro e v2 ⟨A2, n2, c2, rfl, y2, h2, _⟩
      have HR2 := Lib.hid (HR1.out.below h2 HR1.out.lt)
      have B2 := Lib.hid (B1.out.trans (h2.mono B1.out.size))
      have Y2 := Lib.hid y2
      clear h2 y2 k0 k1
      have zz : w.heap.size + 1 < v2.heap.size := HR2.out.lt
      have ZZ := Lib.hid zz
      clear zz
      have ga0 : ∀ ob, (v2.alloc ob).cell? ⟨w.heap.size + 1, 0, none⟩ = some (.int .u64 0) := fun ob => (HR2.out.alloc ob).c0
      have ga1 : ∀ ob, (v2.alloc ob).cell? ⟨w.heap.size + 1, 1, none⟩ = some (.int .i64 0) := fun ob => (HR2.out.alloc ob).c1
      have ga2 : ∀ ob, (v2.alloc ob).cell? ⟨w.heap.size + 1, 2, none⟩ = some (.slice none 0 0) := fun ob => (HR2.out.alloc ob).c2
      have ga3 : ∀ ob, (v2.alloc ob).cell? ⟨w.heap.size + 1, 3, none⟩ = some (.bool false) := fun ob => (HR2.out.alloc ob).c3
      have gf : ∀ ob o, (v2.alloc ob).frozen? ⟨w.heap.size + 1, o, none⟩ = false := fun ob o => (HR2.out.alloc ob).fz o
      go_wp2
      (try simp only [Exit.inBlock, Exit.then])
      have e := Blk.load Tryd.underlying68 rfl size_rv ((HR2.out.alloc (.cells #[.int .u64 (tU k b : Int), .int .i64 (tI k b), .slice A2 n2 c2, .bool (tT k b)] 68)).set4 (.int .u64 0) (.int .i64 0) (.slice none 0 0) (.bool false))
      refine bodyPost_ret (v := .tuple #[.agg #[.int .u64 0, .int .i64 0, .slice none 0 0, .bool false], .slice none 0 0, .int .i64 (tE k b)]) (by rw [results_cell3 rfl]; simp [asAddr, Result.andThen, e]) rfl ?_
      exact FTPost.of (u := 0) Byt.none_ Byt.none_ HE.out.1.symm HE.out.2.1.symm HE.out.2.2.1.symm HE.out.2.2.2.1.symm (by rw [HE.out.2.2.2.2]; rfl) rfl (below_set4 (B2.out.alloc B2.out.size _) (by have := ZZ.out; omega) _ _ _ _)
    · obtain rfl : othL b = x := hx
      go_enter Tryd.func51, Tryd.ntmps51
      go_wp2_with fail
      clear hW
      (with_reducible refine (roth_any _ _ _ _ b _ (HA.out _ HB.out) HB.out.size (by omega)).mono ?_)
      rintro e w1 ⟨A1, n1, c1, rfl, y1, nc1, h1⟩
      have HR1 := Lib.hid (HR.out.below h1 HR.out.lt)
      have B1 := Lib.hid (HB.out.trans (h1.mono HB.out.size))
      have Y1 := Lib.hid y1
      have k0' := (HK.out.below h1 HK.out.lt).k0
      clear h1 y1 k0 k1
      go_wp2_with fail
      (with_reducible refine (HX.out _ _ _ _ Y1.out nc1).mono ?_)
      rintro e v2 ⟨A2, n2, c2, rfl, y2, h2, _⟩
      have HR2 := Lib.hid (HR1.out.below h2 HR1.out.lt)
      have B2 := Lib.hid (B1.out.trans (h2.mono B1.out.size))
      have Y2 := Lib.hid y2
      clear h2 y2 k0'
      have zz : w.heap.size + 1 < v2.heap.size := HR2.out.lt
      have ZZ := Lib.hid zz
      clear zz
      have ga0 : ∀ ob, (v2.alloc ob).cell? ⟨w.heap.size + 1, 0, none⟩ = some (.int .u64 0) := fun ob => (HR2.out.alloc ob).c0
      have ga1 : ∀ ob, (v2.alloc ob).cell? ⟨w.heap.size + 1, 1, none⟩ = some (.int .i64 0) := fun ob => (HR2.out.alloc ob).c1
      have ga2 : ∀ ob, (v2.alloc ob).cell? ⟨w.heap.size + 1, 2, none⟩ = some (.slice none 0 0) := fun ob => (HR2.out.alloc ob).c2
      have ga3 : ∀ ob, (v2.alloc ob).cell? ⟨w.heap.size + 1, 3, none⟩ = some (.bool false) := fun ob => (HR2.out.alloc ob).c3
      have gf : ∀ ob o, (v2.alloc ob).frozen? ⟨w.heap.size + 1, o, none⟩ = false := fun ob o => (HR2.out.alloc ob).fz o
      go_wp2
      (try simp only [Exit.inBlock, Exit.then])
      have e := Blk.load Tryd.underlying68 rfl size_rv ((HR2.out.alloc (.cells #[.int .u64 (tU k (othL b) : Int), .int .i64 (tI k (othL b)), .slice A2 n2 c2, .bool (tT k (othL b))] 68)).set4 (.int .u64 0) (.int .i64 0) (.slice none 0 0) (.bool false))
      refine bodyPost_ret (v := .tuple #[.agg #[.int .u64 0, .int .i64 0, .slice none 0 0, .bool false], .slice none 0 0, .int .i64 (tE k (othL b))]) (by rw [results_cell3 rfl]; simp [asAddr, Result.andThen, e]) rfl ?_
      exact FTPost.of (u := 0) Byt.none_ Byt.none_ HE.out.1.symm HE.out.2.1.symm HE.out.2.2.1.symm HE.out.2.2.2.1.symm (by rw [HE.out.2.2.2.2]; rfl) rfl (below_set4 (B2.out.alloc B2.out.size _) (by have := ZZ.out; omega) _ _ _ _)
end Go.Proofs.YtdpddkpfllioiaaDoor
