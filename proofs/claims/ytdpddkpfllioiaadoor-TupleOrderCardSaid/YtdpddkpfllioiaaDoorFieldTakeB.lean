/-
  What field.Take answers.
-/
import Derived.Test.YtdpddkpfllioiaaDoorFieldTake
namespace Go.Proofs.YtdpddkpfllioiaaDoor
open Go.RowKit

set_option maxRecDepth 100000 in
set_option maxHeartbeats 4000000 in
theorem ftake_any (k : Int) (f : Bool) (A : Option Addr) (n c B : Nat) (b : List UInt8) (w : World) (hT : Tab w) (ha : Byt w B A n b) (hnc : n ≤ c) (hB : B ≤ w.heap.size) (hn : n ≤ 1000000) :
    Calls Tryd.prog 50 #[.agg #[.int .i64 k, .bool f], .slice A n c] w (FTPost w (tU k (turn f b)) (tI k (turn f b)) (tL k (turn f b)) (tT k (turn f b)) (turn f (tR k (turn f b))) (tE k (turn f b))) := by
  have HA := Lib.hid (fun V (h : Below w.heap.size w V) => (ha.more hB).below h)
  have HT := Lib.hid (fun V (h : Below w.heap.size w V) => hT.below h)
  have HN := Lib.hid ha.1
  clear ha hT
  generalize hW : (w.alloc (.cells #[.int .i64 k, .bool f] 58)).alloc (.cells #[.int .u64 0, .int .i64 0, .slice none 0 0, .bool false] 69) = W
  have hK : Two W w.heap.size (.int .i64 k) (.bool f) := by subst hW; exact (Two.new _ _ _ _).alloc _
  have HR := Lib.hid (show Four W (w.heap.size + 1) (.int .u64 0) (.int .i64 0) (.slice none 0 0) (.bool false) from by subst hW; have := Four.new (w.alloc (.cells #[.int .i64 k, .bool f] 58)) 69 (.int .u64 0) (.int .i64 0) (.slice none 0 0) (.bool false); rwa [World.size_alloc] at this)
  have HB := Lib.hid (show Below w.heap.size w W from by subst hW; exact ((Below.refl _ _).alloc (Nat.le_refl _) _).alloc (by simp) _)
  have k0 := hK.k0
  have k1 := hK.k1
  have hlt := hK.lt
  clear hK
  cases f
  · go_enter Tryd.func50, Tryd.ntmps50
    go_wp2_with fail
    clear hW
    (with_reducible refine (takeR_any k A n c _ b _ (HT.out _ HB.out) (HA.out _ HB.out) hnc HB.out.size hn).mono ?_)
    rintro e w1 ⟨A1, n1, c1, A2, n2, c2, rfl, y1, y2, h1, _, _⟩
    have HR1 := Lib.hid (HR.out.below h1 HR.out.lt)
    have B1 := Lib.hid (HB.out.trans (h1.mono HB.out.size))
    have Y1 := Lib.hid y1
    have Y2 := Lib.hid y2
    clear h1 y1 y2 k0 k1
    have r0 := HR1.out.c0
    have r1 := HR1.out.c1
    have r2 := HR1.out.c2
    have r3 := HR1.out.c3
    have rf := HR1.out.fz
    go_wp2
    (try simp only [Exit.inBlock, Exit.then])
    have e := Blk.load Tryd.underlying69 rfl size_v (HR1.out.set4 (.int .u64 (tU k b : Int)) (.int .i64 (tI k b)) (.slice A1 n1 c1) (.bool (tT k b)))
    refine bodyPost_ret (v := .tuple #[.agg #[.int .u64 (tU k b : Int), .int .i64 (tI k b), .slice A1 n1 c1, .bool (tT k b)], .slice A2 n2 c2, .int .i64 (tE k b)]) (by rw [results_cell3 rfl]; simp [asAddr, Result.andThen, e]) rfl ?_
    exact FTPost.of (by rw [size_set4]; exact HR1.out.keep4 Y1.out _ _ _ _) (by rw [size_set4]; exact HR1.out.keep4 Y2.out _ _ _ _) rfl rfl rfl rfl rfl rfl (below_set4 B1.out (by omega) _ _ _ _)
  · rw [show turn true b = othL b from rfl]
    have HX := Lib.hid (fun V A2 n2 c2 (h : Below w.heap.size w V) (h2 : Byt V V.heap.size A2 n2 (othL b)) (hc2 : n2 ≤ c2) => takeR_any k A2 n2 c2 V.heap.size (othL b) V (HT.out _ h) h2 hc2 (Nat.le_refl _) (by have := h2.1; rw [othL_length] at this; have := HN.out; omega))
    have hln : (othL b).length ≤ 1000000 := by rw [othL_length]; have := HN.out; omega
    have HO := Lib.hid (fun V (h : Below w.heap.size w V) => oth_any A n c _ b V (HA.out _ h) h.size (by omega))
    generalize othL b = x at HX hln HO
    by_cases he : tE k x = 0
    · rw [he] at HX
      rw [he]
      have HD := Lib.hid (show (tR k x).length ≤ 1000000 from by rw [(tR_drop he).1, List.length_drop]; omega)
      have HBd : Below w.heap.size w W.drew := HB.out.drew
      have HBs : w.heap.size ≤ W.drew.heap.size := HB.out.size
      have HRd : Four W.drew (w.heap.size + 1) (.int .u64 0) (.int .i64 0) (.slice none 0 0) (.bool false) := HR.out
      have hltd : w.heap.size < W.drew.heap.size := hlt
      have hld : w.heap.size + 1 < W.drew.heap.size := HR.out.lt
      have kd : W.drew.cell? ⟨w.heap.size, 0, none⟩ = some (.int .i64 k) := k0
      have HBa : Below w.heap.size w (W.alloc (.cells #[.int .u64 0, .int .i64 0, .slice none 0 0, .bool false] 69)).drew := (HB.out.alloc HB.out.size _).drew
      have HRa : Four (W.alloc (.cells #[.int .u64 0, .int .i64 0, .slice none 0 0, .bool false] 69)).drew (w.heap.size + 1) (.int .u64 0) (.int .i64 0) (.slice none 0 0) (.bool false) := HR.out.alloc _
      have HZa : Four (W.alloc (.cells #[.int .u64 0, .int .i64 0, .slice none 0 0, .bool false] 69)).drew W.heap.size (.int .u64 0) (.int .i64 0) (.slice none 0 0) (.bool false) := Four.new W _ _ _ _ _
      have ka0 : (W.alloc (.cells #[.int .u64 0, .int .i64 0, .slice none 0 0, .bool false] 69)).cell? ⟨w.heap.size, 0, none⟩ = some (.int .i64 k) := (World.cell?_alloc_lt W _ ⟨w.heap.size, 0, none⟩ hlt).trans k0
      have ka : (W.alloc (.cells #[.int .u64 0, .int .i64 0, .slice none 0 0, .bool false] 69)).drew.cell? ⟨w.heap.size, 0, none⟩ = some (.int .i64 k) := ka0
      have lb : w.heap.size + 1 < (W.alloc (.cells #[.int .u64 0, .int .i64 0, .slice none 0 0, .bool false] 69)).drew.heap.size := HRa.lt
      have la : w.heap.size < (W.alloc (.cells #[.int .u64 0, .int .i64 0, .slice none 0 0, .bool false] 69)).drew.heap.size := Nat.lt_of_succ_lt lb
      have lz : W.heap.size < (W.alloc (.cells #[.int .u64 0, .int .i64 0, .slice none 0 0, .bool false] 69)).drew.heap.size := HZa.lt
      go_enter Tryd.func50, Tryd.ntmps50
      go_wp2_with fail
      clear hW
      go_region_held3 (fun w' => w'.cell? ⟨w.heap.size, 0, none⟩ = some (.int .i64 k))
        (first | (with_reducible exact k0) | (with_reducible exact kd) | (with_reducible exact hk2) | (with_reducible exact hk1) | (with_reducible exact (World.cell?_alloc_lt v2 _ ⟨w.heap.size, 0, none⟩ hlt2).trans hk2) | (with_reducible exact (World.cell?_alloc_lt v1 _ ⟨w.heap.size, 0, none⟩ hlt1).trans hk1) | (with_reducible exact ka0) | (with_reducible exact ka) | (rw [cell_set4 _ _ _ _ _ _ _ hneq]; with_reducible exact hk2) | go_keep)
        (first
          | (go_at_call 44; (with_reducible refine (HO.out _ HBd).mono ?_); rintro e v1 ⟨A1, n1, c1, rfl, y1, nc1, h1⟩; have hb1 : Below w.heap.size w v1 := HBd.trans (h1.mono HBs); have hr1 : Four v1 (w.heap.size + 1) (.int .u64 0) (.int .i64 0) (.slice none 0 0) (.bool false) := HRd.below h1 hld; have hk1 : v1.cell? ⟨w.heap.size, 0, none⟩ = some (.int .i64 k) := (h1.cell (p := ⟨w.heap.size, 0, none⟩) hltd).trans kd; have hl1 : w.heap.size + 1 < v1.heap.size := hr1.lt; have hlt1 : w.heap.size < v1.heap.size := Nat.lt_of_succ_lt hl1)
          | (go_at_call 44; (with_reducible refine (HO.out _ HBa).mono ?_); rintro e v1 ⟨A1, n1, c1, rfl, y1, nc1, h1⟩; have hb1 : Below w.heap.size w v1 := HBa.trans (h1.mono (Nat.le_of_lt la)); have hr1 : Four v1 (w.heap.size + 1) (.int .u64 0) (.int .i64 0) (.slice none 0 0) (.bool false) := HRa.below h1 lb; have hk1 : v1.cell? ⟨w.heap.size, 0, none⟩ = some (.int .i64 k) := (h1.cell (p := ⟨w.heap.size, 0, none⟩) la).trans ka; have hl1 : w.heap.size + 1 < v1.heap.size := hr1.lt; have hlt1 : w.heap.size < v1.heap.size := Nat.lt_of_succ_lt hl1; have hz1 : Four v1 W.heap.size (.int .u64 0) (.int .i64 0) (.slice none 0 0) (.bool false) := HZa.below h1 lz)
          | (go_at_call 67; have hz := hz1; (with_reducible refine (HX.out _ A1 n1 c1 hb1 y1 nc1).mono ?_); rintro e v2 ⟨A2, n2, c2, A3, n3, c3, rfl, y2, y3, h2, _, _⟩; have hb2 : Below w.heap.size w v2 := hb1.trans (h2.mono hb1.size); have hr2 : Four v2 (w.heap.size + 1) (.int .u64 0) (.int .i64 0) (.slice none 0 0) (.bool false) := hr1.below h2 hr1.lt; have hk2 : v2.cell? ⟨w.heap.size, 0, none⟩ = some (.int .i64 k) := (h2.cell (p := ⟨w.heap.size, 0, none⟩) hlt1).trans hk1; have hl2 : w.heap.size + 1 < v2.heap.size := hr2.lt; have hlt2 : w.heap.size < v2.heap.size := Nat.lt_of_succ_lt hl2; have hneq : (⟨w.heap.size, 0, none⟩ : Addr).block ≠ W.heap.size := Nat.ne_of_lt hlt; have hz2 : Four v2 W.heap.size (.int .u64 0) (.int .i64 0) (.slice none 0 0) (.bool false) := hz.below h2 hz.lt; have z0 := hz2.c0; have z1 := hz2.c1; have z2 := hz2.c2; have z3 := hz2.c3; have zf := hz2.fz)
          | (go_at_call 67; (with_reducible refine (HX.out _ A1 n1 c1 hb1 y1 nc1).mono ?_); rintro e v2 ⟨A2, n2, c2, A3, n3, c3, rfl, y2, y3, h2, _, _⟩; have hb2 : Below w.heap.size w v2 := hb1.trans (h2.mono hb1.size); have hr2 : Four v2 (w.heap.size + 1) (.int .u64 0) (.int .i64 0) (.slice none 0 0) (.bool false) := hr1.below h2 hr1.lt; have hk2 : v2.cell? ⟨w.heap.size, 0, none⟩ = some (.int .i64 k) := (h2.cell (p := ⟨w.heap.size, 0, none⟩) hlt1).trans hk1; have hl2 : w.heap.size + 1 < v2.heap.size := hr2.lt; have hlt2 : w.heap.size < v2.heap.size := Nat.lt_of_succ_lt hl2)
          | (go_at_call 67; (with_reducible refine (HX.out _ A1 n1 c1 (hb1.alloc hb1.size _) ((y1.alloc (Nat.le_refl _) _).more (by simp)) nc1).mono ?_); rintro e v2 ⟨A2, n2, c2, A3, n3, c3, rfl, y2, y3, h2, _, _⟩; have hsz1 := World.size_alloc v1 (.cells #[.int .u64 0, .int .i64 0, .slice none 0 0, .bool false] 69); have hb2 : Below w.heap.size w v2 := (hb1.alloc hb1.size _).trans (h2.mono (by rw [hsz1]; exact Nat.le_succ_of_le hb1.size)); have hr2 : Four v2 (w.heap.size + 1) (.int .u64 0) (.int .i64 0) (.slice none 0 0) (.bool false) := (hr1.alloc _).below h2 (by rw [hsz1]; exact Nat.lt_succ_of_lt hl1); have hk2 : v2.cell? ⟨w.heap.size, 0, none⟩ = some (.int .i64 k) := (h2.cell (p := ⟨w.heap.size, 0, none⟩) (by rw [hsz1]; exact Nat.lt_succ_of_lt hlt1)).trans ((World.cell?_alloc_lt v1 _ ⟨w.heap.size, 0, none⟩ hlt1).trans hk1); have hl2 : w.heap.size + 1 < v2.heap.size := hr2.lt; have hlt2 : w.heap.size < v2.heap.size := Nat.lt_of_succ_lt hl2; have hneq : (⟨w.heap.size, 0, none⟩ : Addr).block ≠ v1.heap.size := Nat.ne_of_lt hlt1; have hz2 : Four v2 v1.heap.size (.int .u64 0) (.int .i64 0) (.slice none 0 0) (.bool false) := (Four.new v1 _ _ _ _ _).below h2 (by rw [hsz1]; exact Nat.lt_succ_self _); have z0 := hz2.c0; have z1 := hz2.c1; have z2 := hz2.c2; have z3 := hz2.c3; have zf := hz2.fz))
      · have hld' : w.heap.size + 1 < W.heap.size := hld
        generalize hV : v2.alloc (.cells #[.int .u64 (tU k x : Int), .int .i64 (tI k x), .slice A2 n2 c2, .bool (tT k x)] 69) = V
        have hgg : w.heap.size + 1 ≠ v2.heap.size := by omega
        have HR3 := Lib.hid (show Four V (w.heap.size + 1) (.int .u64 0) (.int .i64 0) (.slice none 0 0) (.bool false) from by subst hV; exact hr2.alloc _)
        have B3 := Lib.hid (show Below w.heap.size w V from by subst hV; exact hb2.alloc hb2.size _)
        have hS : Four V v2.heap.size (.int .u64 (tU k x : Int)) (.int .i64 (tI k x)) (.slice A2 n2 c2) (.bool (tT k x)) := by subst hV; exact Four.new _ _ _ _ _ _
        have Y2V := Lib.hid (show Byt V v2.heap.size A2 n2 (tL k x) from by subst hV; exact y2.alloc (Nat.le_refl _) _)
        have Y3V := Lib.hid (show Byt V v2.heap.size A3 n3 (tR k x) from by subst hV; exact y3.alloc (Nat.le_refl _) _)
        have zv : v2.heap.size ≤ V.heap.size := by subst hV; rw [World.size_alloc]; omega
        have n3l : n3 ≤ 1000000 := by have := y3.1; have := HD.out; omega
        have zV : v2.heap.size < V.heap.size := hS.lt
        have s0 := hS.c0
        have s1 := hS.c1
        have s2 := hS.c2
        have s3 := hS.c3
        clear hS hV h1 h2 y1 y2 y3 hk1 hk2 hr1 hr2 hb1 hb2 k0 k1 kd ka ka0 HBa HRa HZa HBd HRd
        go_wp2_with fail
        go_region_held3 (fun w' => w'.cell? ⟨v2.heap.size, 0, none⟩ = some (.int .u64 (tU k x : Int)) ∧ w'.cell? ⟨v2.heap.size, 1, none⟩ = some (.int .i64 (tI k x)) ∧ w'.cell? ⟨v2.heap.size, 2, none⟩ = some (.slice A2 n2 c2) ∧ w'.cell? ⟨v2.heap.size, 3, none⟩ = some (.bool (tT k x)))
          (first | (with_reducible exact ⟨s0, s1, s2, s3⟩) | exact ⟨s0, s1, s2, s3⟩ | (with_reducible exact ⟨t0, t1, t2, t3⟩) | (refine ⟨?_, ?_, ?_, ?_⟩ <;> (rw [cell_set4 _ _ _ _ _ _ _ (Ne.symm hgg)]; assumption)))
          (first
            | (go_at_call 44; refine (oth_any _ _ _ _ (tR k x) _ Y3V.out.drew zv (by omega)).mono ?_; rintro e v4 ⟨A4, n4, c4, rfl, y4, _, h4⟩; have t0 := (h4.cell (p := ⟨v2.heap.size, 0, none⟩) zV).trans s0; have t1 := (h4.cell (p := ⟨v2.heap.size, 1, none⟩) zV).trans s1; have t2 := (h4.cell (p := ⟨v2.heap.size, 2, none⟩) zV).trans s2; have t3 := (h4.cell (p := ⟨v2.heap.size, 3, none⟩) zV).trans s3; have hr4 : Four v4 (w.heap.size + 1) (.int .u64 0) (.int .i64 0) (.slice none 0 0) (.bool false) := (show Four V.drew (w.heap.size + 1) (.int .u64 0) (.int .i64 0) (.slice none 0 0) (.bool false) from HR3.out).below h4 HR3.out.lt; have r0 := hr4.c0; have r1 := hr4.c1; have r2 := hr4.c2; have r3 := hr4.c3; have rf := hr4.fz))
        have HR4 := Lib.hid hr4
        have B4 := Lib.hid (B3.out.drew.trans (h4.mono B3.out.size))
        have Y2W := Lib.hid ((Y2V.out.drew.below (h4.mono zv)).more (Nat.le_trans zv h4.size))
        have Y4 := Lib.hid y4
        clear hr4 h4 y4 t0 t1 t2 t3
        go_wp2
        (try simp only [Exit.inBlock, Exit.then])
        have e := Blk.load Tryd.underlying69 rfl size_v (HR4.out.set4 (.int .u64 (tU k x : Int)) (.int .i64 (tI k x)) (.slice A2 n2 c2) (.bool (tT k x)))
        refine bodyPost_ret (v := .tuple #[.agg #[.int .u64 (tU k x : Int), .int .i64 (tI k x), .slice A2 n2 c2, .bool (tT k x)], .slice A4 n4 c4, .int .i64 0]) (by rw [results_cell3 rfl]; simp [asAddr, Result.andThen, e]) rfl ?_
        exact FTPost.of (by rw [size_set4]; exact HR4.out.keep4 Y2W.out _ _ _ _) (by rw [size_set4]; exact HR4.out.keep4 Y4.out _ _ _ _) rfl rfl rfl rfl rfl rfl (below_set4 B4.out (by omega) _ _ _ _)
      · have hld' : w.heap.size + 1 < W.heap.size := hld
        generalize hV : (((v2.setCell ⟨v1.heap.size, 0, none⟩ (.int .u64 (tU k x : Int))).setCell ⟨v1.heap.size, 1, none⟩ (.int .i64 (tI k x))).setCell ⟨v1.heap.size, 2, none⟩ (.slice A2 n2 c2)).setCell ⟨v1.heap.size, 3, none⟩ (.bool (tT k x)) = V
        have hgg : w.heap.size + 1 ≠ v1.heap.size := by omega
        have HR3 := Lib.hid (show Four V (w.heap.size + 1) (.int .u64 0) (.int .i64 0) (.slice none 0 0) (.bool false) from by subst hV; exact hr2.far4 hgg _ _ _ _)
        have B3 := Lib.hid (show Below w.heap.size w V from by subst hV; exact below_set4 hb2 (by omega) _ _ _ _)
        have hS : Four V v1.heap.size (.int .u64 (tU k x : Int)) (.int .i64 (tI k x)) (.slice A2 n2 c2) (.bool (tT k x)) := by subst hV; exact hz2.set4 _ _ _ _
        have Y2V := Lib.hid (show Byt V v2.heap.size A2 n2 (tL k x) from by subst hV; exact hz2.keep4 y2 _ _ _ _)
        have Y3V := Lib.hid (show Byt V v2.heap.size A3 n3 (tR k x) from by subst hV; exact hz2.keep4 y3 _ _ _ _)
        have zv : v2.heap.size ≤ V.heap.size := by subst hV; rw [size_set4]; exact Nat.le_refl _
        have n3l : n3 ≤ 1000000 := by have := y3.1; have := HD.out; omega
        have zV : v1.heap.size < V.heap.size := hS.lt
        have s0 := hS.c0
        have s1 := hS.c1
        have s2 := hS.c2
        have s3 := hS.c3
        clear hS hV h1 h2 y1 y2 y3 hk1 hk2 hr1 hr2 hb1 hb2 k0 k1 kd ka ka0 HBa HRa HZa HBd HRd hz2 z0 z1 z2 z3 zf
        go_wp2_with fail
        go_region_held3 (fun w' => w'.cell? ⟨v1.heap.size, 0, none⟩ = some (.int .u64 (tU k x : Int)) ∧ w'.cell? ⟨v1.heap.size, 1, none⟩ = some (.int .i64 (tI k x)) ∧ w'.cell? ⟨v1.heap.size, 2, none⟩ = some (.slice A2 n2 c2) ∧ w'.cell? ⟨v1.heap.size, 3, none⟩ = some (.bool (tT k x)))
          (first | (with_reducible exact ⟨s0, s1, s2, s3⟩) | exact ⟨s0, s1, s2, s3⟩ | (with_reducible exact ⟨t0, t1, t2, t3⟩) | (refine ⟨?_, ?_, ?_, ?_⟩ <;> (rw [cell_set4 _ _ _ _ _ _ _ (Ne.symm hgg)]; assumption)))
          (first
            | (go_at_call 44; refine (oth_any _ _ _ _ (tR k x) _ Y3V.out.drew zv (by omega)).mono ?_; rintro e v4 ⟨A4, n4, c4, rfl, y4, _, h4⟩; have t0 := (h4.cell (p := ⟨v1.heap.size, 0, none⟩) zV).trans s0; have t1 := (h4.cell (p := ⟨v1.heap.size, 1, none⟩) zV).trans s1; have t2 := (h4.cell (p := ⟨v1.heap.size, 2, none⟩) zV).trans s2; have t3 := (h4.cell (p := ⟨v1.heap.size, 3, none⟩) zV).trans s3; have hr4 : Four v4 (w.heap.size + 1) (.int .u64 0) (.int .i64 0) (.slice none 0 0) (.bool false) := (show Four V.drew (w.heap.size + 1) (.int .u64 0) (.int .i64 0) (.slice none 0 0) (.bool false) from HR3.out).below h4 HR3.out.lt; have r0 := hr4.c0; have r1 := hr4.c1; have r2 := hr4.c2; have r3 := hr4.c3; have rf := hr4.fz))
        have HR4 := Lib.hid hr4
        have B4 := Lib.hid (B3.out.drew.trans (h4.mono B3.out.size))
        have Y2W := Lib.hid ((Y2V.out.drew.below (h4.mono zv)).more (Nat.le_trans zv h4.size))
        have Y4 := Lib.hid y4
        clear hr4 h4 y4 t0 t1 t2 t3
        go_wp2
        (try simp only [Exit.inBlock, Exit.then])
        have e := Blk.load Tryd.underlying69 rfl size_v (HR4.out.set4 (.int .u64 (tU k x : Int)) (.int .i64 (tI k x)) (.slice A2 n2 c2) (.bool (tT k x)))
        refine bodyPost_ret (v := .tuple #[.agg #[.int .u64 (tU k x : Int), .int .i64 (tI k x), .slice A2 n2 c2, .bool (tT k x)], .slice A4 n4 c4, .int .i64 0]) (by rw [results_cell3 rfl]; simp [asAddr, Result.andThen, e]) rfl ?_
        exact FTPost.of (by rw [size_set4]; exact HR4.out.keep4 Y2W.out _ _ _ _) (by rw [size_set4]; exact HR4.out.keep4 Y4.out _ _ _ _) rfl rfl rfl rfl rfl rfl (below_set4 B4.out (by omega) _ _ _ _)
      · have hld' : w.heap.size + 1 < W.heap.size := hld
        generalize hV : (((v2.setCell ⟨W.heap.size, 0, none⟩ (.int .u64 (tU k x : Int))).setCell ⟨W.heap.size, 1, none⟩ (.int .i64 (tI k x))).setCell ⟨W.heap.size, 2, none⟩ (.slice A2 n2 c2)).setCell ⟨W.heap.size, 3, none⟩ (.bool (tT k x)) = V
        have hgg : w.heap.size + 1 ≠ W.heap.size := by omega
        have HR3 := Lib.hid (show Four V (w.heap.size + 1) (.int .u64 0) (.int .i64 0) (.slice none 0 0) (.bool false) from by subst hV; exact hr2.far4 hgg _ _ _ _)
        have B3 := Lib.hid (show Below w.heap.size w V from by subst hV; exact below_set4 hb2 (by omega) _ _ _ _)
        have hS : Four V W.heap.size (.int .u64 (tU k x : Int)) (.int .i64 (tI k x)) (.slice A2 n2 c2) (.bool (tT k x)) := by subst hV; exact hz2.set4 _ _ _ _
        have Y2V := Lib.hid (show Byt V v2.heap.size A2 n2 (tL k x) from by subst hV; exact hz2.keep4 y2 _ _ _ _)
        have Y3V := Lib.hid (show Byt V v2.heap.size A3 n3 (tR k x) from by subst hV; exact hz2.keep4 y3 _ _ _ _)
        have zv : v2.heap.size ≤ V.heap.size := by subst hV; rw [size_set4]; exact Nat.le_refl _
        have n3l : n3 ≤ 1000000 := by have := y3.1; have := HD.out; omega
        have zV : W.heap.size < V.heap.size := hS.lt
        have s0 := hS.c0
        have s1 := hS.c1
        have s2 := hS.c2
        have s3 := hS.c3
        clear hS hV h1 h2 y1 y2 y3 hk1 hk2 hr1 hr2 hb1 hb2 k0 k1 kd ka ka0 HBa HRa HZa HBd HRd hz2 z0 z1 z2 z3 zf hz1
        go_wp2_with fail
        go_region_held3 (fun w' => w'.cell? ⟨W.heap.size, 0, none⟩ = some (.int .u64 (tU k x : Int)) ∧ w'.cell? ⟨W.heap.size, 1, none⟩ = some (.int .i64 (tI k x)) ∧ w'.cell? ⟨W.heap.size, 2, none⟩ = some (.slice A2 n2 c2) ∧ w'.cell? ⟨W.heap.size, 3, none⟩ = some (.bool (tT k x)))
          (first | (with_reducible exact ⟨s0, s1, s2, s3⟩) | exact ⟨s0, s1, s2, s3⟩ | (with_reducible exact ⟨t0, t1, t2, t3⟩) | (refine ⟨?_, ?_, ?_, ?_⟩ <;> (rw [cell_set4 _ _ _ _ _ _ _ (Ne.symm hgg)]; assumption)))
          (first
            | (go_at_call 44; refine (oth_any _ _ _ _ (tR k x) _ Y3V.out.drew zv (by omega)).mono ?_; rintro e v4 ⟨A4, n4, c4, rfl, y4, _, h4⟩; have t0 := (h4.cell (p := ⟨W.heap.size, 0, none⟩) zV).trans s0; have t1 := (h4.cell (p := ⟨W.heap.size, 1, none⟩) zV).trans s1; have t2 := (h4.cell (p := ⟨W.heap.size, 2, none⟩) zV).trans s2; have t3 := (h4.cell (p := ⟨W.heap.size, 3, none⟩) zV).trans s3; have hr4 : Four v4 (w.heap.size + 1) (.int .u64 0) (.int .i64 0) (.slice none 0 0) (.bool false) := (show Four V.drew (w.heap.size + 1) (.int .u64 0) (.int .i64 0) (.slice none 0 0) (.bool false) from HR3.out).below h4 HR3.out.lt; have r0 := hr4.c0; have r1 := hr4.c1; have r2 := hr4.c2; have r3 := hr4.c3; have rf := hr4.fz))
        have HR4 := Lib.hid hr4
        have B4 := Lib.hid (B3.out.drew.trans (h4.mono B3.out.size))
        have Y2W := Lib.hid ((Y2V.out.drew.below (h4.mono zv)).more (Nat.le_trans zv h4.size))
        have Y4 := Lib.hid y4
        clear hr4 h4 y4 t0 t1 t2 t3
        go_wp2
        (try simp only [Exit.inBlock, Exit.then])
        have e := Blk.load Tryd.underlying69 rfl size_v (HR4.out.set4 (.int .u64 (tU k x : Int)) (.int .i64 (tI k x)) (.slice A2 n2 c2) (.bool (tT k x)))
        refine bodyPost_ret (v := .tuple #[.agg #[.int .u64 (tU k x : Int), .int .i64 (tI k x), .slice A2 n2 c2, .bool (tT k x)], .slice A4 n4 c4, .int .i64 0]) (by rw [results_cell3 rfl]; simp [asAddr, Result.andThen, e]) rfl ?_
        exact FTPost.of (by rw [size_set4]; exact HR4.out.keep4 Y2W.out _ _ _ _) (by rw [size_set4]; exact HR4.out.keep4 Y4.out _ _ _ _) rfl rfl rfl rfl rfl rfl (below_set4 B4.out (by omega) _ _ _ _)
    · have hne : ((tE k x) != 0) = true := by simpa using he
      have HE := Lib.hid (tE_none he)
      have HBd : Below w.heap.size w W.drew := HB.out.drew
      have HBs : w.heap.size ≤ W.drew.heap.size := HB.out.size
      have HRd : Four W.drew (w.heap.size + 1) (.int .u64 0) (.int .i64 0) (.slice none 0 0) (.bool false) := HR.out
      have hltd : w.heap.size < W.drew.heap.size := hlt
      have hld : w.heap.size + 1 < W.drew.heap.size := HR.out.lt
      have kd : W.drew.cell? ⟨w.heap.size, 0, none⟩ = some (.int .i64 k) := k0
      have HBa : Below w.heap.size w (W.alloc (.cells #[.int .u64 0, .int .i64 0, .slice none 0 0, .bool false] 69)).drew := (HB.out.alloc HB.out.size _).drew
      have HRa : Four (W.alloc (.cells #[.int .u64 0, .int .i64 0, .slice none 0 0, .bool false] 69)).drew (w.heap.size + 1) (.int .u64 0) (.int .i64 0) (.slice none 0 0) (.bool false) := HR.out.alloc _
      have HZa : Four (W.alloc (.cells #[.int .u64 0, .int .i64 0, .slice none 0 0, .bool false] 69)).drew W.heap.size (.int .u64 0) (.int .i64 0) (.slice none 0 0) (.bool false) := Four.new W _ _ _ _ _
      have ka0 : (W.alloc (.cells #[.int .u64 0, .int .i64 0, .slice none 0 0, .bool false] 69)).cell? ⟨w.heap.size, 0, none⟩ = some (.int .i64 k) := (World.cell?_alloc_lt W _ ⟨w.heap.size, 0, none⟩ hlt).trans k0
      have ka : (W.alloc (.cells #[.int .u64 0, .int .i64 0, .slice none 0 0, .bool false] 69)).drew.cell? ⟨w.heap.size, 0, none⟩ = some (.int .i64 k) := ka0
      have lb : w.heap.size + 1 < (W.alloc (.cells #[.int .u64 0, .int .i64 0, .slice none 0 0, .bool false] 69)).drew.heap.size := HRa.lt
      have la : w.heap.size < (W.alloc (.cells #[.int .u64 0, .int .i64 0, .slice none 0 0, .bool false] 69)).drew.heap.size := Nat.lt_of_succ_lt lb
      have lz : W.heap.size < (W.alloc (.cells #[.int .u64 0, .int .i64 0, .slice none 0 0, .bool false] 69)).drew.heap.size := HZa.lt
      go_enter Tryd.func50, Tryd.ntmps50
      go_wp2_with fail
      clear hW
      go_region_held3 (fun w' => w'.cell? ⟨w.heap.size, 0, none⟩ = some (.int .i64 k))
        (first | (with_reducible exact k0) | (with_reducible exact kd) | (with_reducible exact hk2) | (with_reducible exact hk1) | (with_reducible exact (World.cell?_alloc_lt v2 _ ⟨w.heap.size, 0, none⟩ hlt2).trans hk2) | (with_reducible exact (World.cell?_alloc_lt v1 _ ⟨w.heap.size, 0, none⟩ hlt1).trans hk1) | (with_reducible exact ka0) | (with_reducible exact ka) | (rw [cell_set4 _ _ _ _ _ _ _ hneq]; with_reducible exact hk2) | go_keep)
        (first
          | (go_at_call 44; (with_reducible refine (HO.out _ HBd).mono ?_); rintro e v1 ⟨A1, n1, c1, rfl, y1, nc1, h1⟩; have hb1 : Below w.heap.size w v1 := HBd.trans (h1.mono HBs); have hr1 : Four v1 (w.heap.size + 1) (.int .u64 0) (.int .i64 0) (.slice none 0 0) (.bool false) := HRd.below h1 hld; have hk1 : v1.cell? ⟨w.heap.size, 0, none⟩ = some (.int .i64 k) := (h1.cell (p := ⟨w.heap.size, 0, none⟩) hltd).trans kd; have hl1 : w.heap.size + 1 < v1.heap.size := hr1.lt; have hlt1 : w.heap.size < v1.heap.size := Nat.lt_of_succ_lt hl1)
          | (go_at_call 44; (with_reducible refine (HO.out _ HBa).mono ?_); rintro e v1 ⟨A1, n1, c1, rfl, y1, nc1, h1⟩; have hb1 : Below w.heap.size w v1 := HBa.trans (h1.mono (Nat.le_of_lt la)); have hr1 : Four v1 (w.heap.size + 1) (.int .u64 0) (.int .i64 0) (.slice none 0 0) (.bool false) := HRa.below h1 lb; have hk1 : v1.cell? ⟨w.heap.size, 0, none⟩ = some (.int .i64 k) := (h1.cell (p := ⟨w.heap.size, 0, none⟩) la).trans ka; have hl1 : w.heap.size + 1 < v1.heap.size := hr1.lt; have hlt1 : w.heap.size < v1.heap.size := Nat.lt_of_succ_lt hl1; have hz1 : Four v1 W.heap.size (.int .u64 0) (.int .i64 0) (.slice none 0 0) (.bool false) := HZa.below h1 lz)
          | (go_at_call 67; have hz := hz1; (with_reducible refine (HX.out _ A1 n1 c1 hb1 y1 nc1).mono ?_); rintro e v2 ⟨A2, n2, c2, A3, n3, c3, rfl, y2, y3, h2, _, _⟩; have hb2 : Below w.heap.size w v2 := hb1.trans (h2.mono hb1.size); have hr2 : Four v2 (w.heap.size + 1) (.int .u64 0) (.int .i64 0) (.slice none 0 0) (.bool false) := hr1.below h2 hr1.lt; have hk2 : v2.cell? ⟨w.heap.size, 0, none⟩ = some (.int .i64 k) := (h2.cell (p := ⟨w.heap.size, 0, none⟩) hlt1).trans hk1; have hl2 : w.heap.size + 1 < v2.heap.size := hr2.lt; have hlt2 : w.heap.size < v2.heap.size := Nat.lt_of_succ_lt hl2; have hneq : (⟨w.heap.size, 0, none⟩ : Addr).block ≠ W.heap.size := Nat.ne_of_lt hlt; have hz2 : Four v2 W.heap.size (.int .u64 0) (.int .i64 0) (.slice none 0 0) (.bool false) := hz.below h2 hz.lt; have z0 := hz2.c0; have z1 := hz2.c1; have z2 := hz2.c2; have z3 := hz2.c3; have zf := hz2.fz)
          | (go_at_call 67; (with_reducible refine (HX.out _ A1 n1 c1 hb1 y1 nc1).mono ?_); rintro e v2 ⟨A2, n2, c2, A3, n3, c3, rfl, y2, y3, h2, _, _⟩; have hb2 : Below w.heap.size w v2 := hb1.trans (h2.mono hb1.size); have hr2 : Four v2 (w.heap.size + 1) (.int .u64 0) (.int .i64 0) (.slice none 0 0) (.bool false) := hr1.below h2 hr1.lt; have hk2 : v2.cell? ⟨w.heap.size, 0, none⟩ = some (.int .i64 k) := (h2.cell (p := ⟨w.heap.size, 0, none⟩) hlt1).trans hk1; have hl2 : w.heap.size + 1 < v2.heap.size := hr2.lt; have hlt2 : w.heap.size < v2.heap.size := Nat.lt_of_succ_lt hl2)
          | (go_at_call 67; (with_reducible refine (HX.out _ A1 n1 c1 (hb1.alloc hb1.size _) ((y1.alloc (Nat.le_refl _) _).more (by simp)) nc1).mono ?_); rintro e v2 ⟨A2, n2, c2, A3, n3, c3, rfl, y2, y3, h2, _, _⟩; have hsz1 := World.size_alloc v1 (.cells #[.int .u64 0, .int .i64 0, .slice none 0 0, .bool false] 69); have hb2 : Below w.heap.size w v2 := (hb1.alloc hb1.size _).trans (h2.mono (by rw [hsz1]; exact Nat.le_succ_of_le hb1.size)); have hr2 : Four v2 (w.heap.size + 1) (.int .u64 0) (.int .i64 0) (.slice none 0 0) (.bool false) := (hr1.alloc _).below h2 (by rw [hsz1]; exact Nat.lt_succ_of_lt hl1); have hk2 : v2.cell? ⟨w.heap.size, 0, none⟩ = some (.int .i64 k) := (h2.cell (p := ⟨w.heap.size, 0, none⟩) (by rw [hsz1]; exact Nat.lt_succ_of_lt hlt1)).trans ((World.cell?_alloc_lt v1 _ ⟨w.heap.size, 0, none⟩ hlt1).trans hk1); have hl2 : w.heap.size + 1 < v2.heap.size := hr2.lt; have hlt2 : w.heap.size < v2.heap.size := Nat.lt_of_succ_lt hl2; have hneq : (⟨w.heap.size, 0, none⟩ : Addr).block ≠ v1.heap.size := Nat.ne_of_lt hlt1; have hz2 : Four v2 v1.heap.size (.int .u64 0) (.int .i64 0) (.slice none 0 0) (.bool false) := (Four.new v1 _ _ _ _ _).below h2 (by rw [hsz1]; exact Nat.lt_succ_self _); have z0 := hz2.c0; have z1 := hz2.c1; have z2 := hz2.c2; have z3 := hz2.c3; have zf := hz2.fz))
      · have hld' : w.heap.size + 1 < W.heap.size := hld
        generalize hV : v2.alloc (.cells #[.int .u64 (tU k x : Int), .int .i64 (tI k x), .slice A2 n2 c2, .bool (tT k x)] 69) = V
        have hgg : w.heap.size + 1 ≠ v2.heap.size := by omega
        have HR3 := Lib.hid (show Four V (w.heap.size + 1) (.int .u64 0) (.int .i64 0) (.slice none 0 0) (.bool false) from by subst hV; exact hr2.alloc _)
        have B3 := Lib.hid (show Below w.heap.size w V from by subst hV; exact hb2.alloc hb2.size _)
        clear hV h1 h2 y1 y2 y3 hk1 hk2 hr1 hr2 hb1 hb2 k0 k1 kd ka ka0 HBa HRa HZa HBd HRd
        have r0 := HR3.out.c0
        have r1 := HR3.out.c1
        have r2 := HR3.out.c2
        have r3 := HR3.out.c3
        have rf := HR3.out.fz
        go_wp2
        (try simp only [Exit.inBlock, Exit.then])
        have e := Blk.load Tryd.underlying69 rfl size_v (HR3.out.set4 (.int .u64 0) (.int .i64 0) (.slice none 0 0) (.bool false))
        refine bodyPost_ret (v := .tuple #[.agg #[.int .u64 0, .int .i64 0, .slice none 0 0, .bool false], .slice none 0 0, .int .i64 (tE k x)]) (by rw [results_cell3 rfl]; simp [asAddr, Result.andThen, e]) rfl ?_
        exact FTPost.of (u := 0) Byt.none_ Byt.none_ HE.out.1.symm HE.out.2.1.symm HE.out.2.2.1.symm HE.out.2.2.2.1.symm (by rw [HE.out.2.2.2.2]; rfl) rfl (below_set4 B3.out (by omega) _ _ _ _)
      · have hld' : w.heap.size + 1 < W.heap.size := hld
        generalize hV : (((v2.setCell ⟨v1.heap.size, 0, none⟩ (.int .u64 (tU k x : Int))).setCell ⟨v1.heap.size, 1, none⟩ (.int .i64 (tI k x))).setCell ⟨v1.heap.size, 2, none⟩ (.slice A2 n2 c2)).setCell ⟨v1.heap.size, 3, none⟩ (.bool (tT k x)) = V
        have hgg : w.heap.size + 1 ≠ v1.heap.size := by omega
        have HR3 := Lib.hid (show Four V (w.heap.size + 1) (.int .u64 0) (.int .i64 0) (.slice none 0 0) (.bool false) from by subst hV; exact hr2.far4 hgg _ _ _ _)
        have B3 := Lib.hid (show Below w.heap.size w V from by subst hV; exact below_set4 hb2 (by omega) _ _ _ _)
        clear hV h1 h2 y1 y2 y3 hk1 hk2 hr1 hr2 hb1 hb2 k0 k1 kd ka ka0 HBa HRa HZa HBd HRd hz2 z0 z1 z2 z3 zf
        have r0 := HR3.out.c0
        have r1 := HR3.out.c1
        have r2 := HR3.out.c2
        have r3 := HR3.out.c3
        have rf := HR3.out.fz
        go_wp2
        (try simp only [Exit.inBlock, Exit.then])
        have e := Blk.load Tryd.underlying69 rfl size_v (HR3.out.set4 (.int .u64 0) (.int .i64 0) (.slice none 0 0) (.bool false))
        refine bodyPost_ret (v := .tuple #[.agg #[.int .u64 0, .int .i64 0, .slice none 0 0, .bool false], .slice none 0 0, .int .i64 (tE k x)]) (by rw [results_cell3 rfl]; simp [asAddr, Result.andThen, e]) rfl ?_
        exact FTPost.of (u := 0) Byt.none_ Byt.none_ HE.out.1.symm HE.out.2.1.symm HE.out.2.2.1.symm HE.out.2.2.2.1.symm (by rw [HE.out.2.2.2.2]; rfl) rfl (below_set4 B3.out (by omega) _ _ _ _)
      · have hld' : w.heap.size + 1 < W.heap.size := hld
        generalize hV : (((v2.setCell ⟨W.heap.size, 0, none⟩ (.int .u64 (tU k x : Int))).setCell ⟨W.heap.size, 1, none⟩ (.int .i64 (tI k x))).setCell ⟨W.heap.size, 2, none⟩ (.slice A2 n2 c2)).setCell ⟨W.heap.size, 3, none⟩ (.bool (tT k x)) = V
        have hgg : w.heap.size + 1 ≠ W.heap.size := by omega
        have HR3 := Lib.hid (show Four V (w.heap.size + 1) (.int .u64 0) (.int .i64 0) (.slice none 0 0) (.bool false) from by subst hV; exact hr2.far4 hgg _ _ _ _)
        have B3 := Lib.hid (show Below w.heap.size w V from by subst hV; exact below_set4 hb2 (by omega) _ _ _ _)
        clear hV h1 h2 y1 y2 y3 hk1 hk2 hr1 hr2 hb1 hb2 k0 k1 kd ka ka0 HBa HRa HZa HBd HRd hz2 z0 z1 z2 z3 zf hz1
        have r0 := HR3.out.c0
        have r1 := HR3.out.c1
        have r2 := HR3.out.c2
        have r3 := HR3.out.c3
        have rf := HR3.out.fz
        go_wp2
        (try simp only [Exit.inBlock, Exit.then])
        have e := Blk.load Tryd.underlying69 rfl size_v (HR3.out.set4 (.int .u64 0) (.int .i64 0) (.slice none 0 0) (.bool false))
        refine bodyPost_ret (v := .tuple #[.agg #[.int .u64 0, .int .i64 0, .slice none 0 0, .bool false], .slice none 0 0, .int .i64 (tE k x)]) (by rw [results_cell3 rfl]; simp [asAddr, Result.andThen, e]) rfl ?_
        exact FTPost.of (u := 0) Byt.none_ Byt.none_ HE.out.1.symm HE.out.2.1.symm HE.out.2.2.1.symm HE.out.2.2.2.1.symm (by rw [HE.out.2.2.2.2]; rfl) rfl (below_set4 B3.out (by omega) _ _ _ _)
end Go.Proofs.YtdpddkpfllioiaaDoor
