/-
  What field.cmpRising, Cmp and the document's up, Cmp answer.
-/
import Derived.Test.YtofccfbiappgaaaDoorField
import Derived.Test.YtofccfbiappgaaaDoorNums
namespace Go.Proofs.YtofccfbiappgaaaDoor
open Go.RowKit

set_option maxRecDepth 100000 in
set_option maxHeartbeats 4000000 in
theorem up_any (k : Int) (u u' : Nat) (i i' : Int) (A A' : Option Addr) (n n' c c' B : Nat) (l l' : List UInt8) (t t' : Bool) (w : World) (ha : Byt w B A n l) (hb : Byt w B A' n' l') (hB : B ≤ w.heap.size) :
    Calls Tryd.prog 50 #[.int .i64 k, .agg #[.int .u64 (u : Int), .int .i64 i, .slice A n c, .bool t], .agg #[.int .u64 (u' : Int), .int .i64 i', .slice A' n' c', .bool t']] w fun e w' => e = .returned (.int .i64 (upC k u i l t u' i' l' t')) ∧ Below w.heap.size w w' := by
  have HA := Lib.hid (fun V (h : Below w.heap.size w V) => And.intro ((ha.more hB).below h) ((hb.more hB).below h))
  clear ha hb
  generalize hW : (w.alloc (.cells #[.int .u64 (u : Int), .int .i64 i, .slice A n c, .bool t] 47)).alloc (.cells #[.int .u64 (u' : Int), .int .i64 i', .slice A' n' c', .bool t'] 47) = W
  have hF : Four W w.heap.size (.int .u64 (u : Int)) (.int .i64 i) (.slice A n c) (.bool t) := by subst hW; exact (Four.new _ _ _ _ _ _).alloc _
  have hG : Four W (w.heap.size + 1) (.int .u64 (u' : Int)) (.int .i64 i') (.slice A' n' c') (.bool t') := by subst hW; have := Four.new (w.alloc (.cells #[.int .u64 (u : Int), .int .i64 i, .slice A n c, .bool t] 47)) 47 (.int .u64 (u' : Int)) (.int .i64 i') (.slice A' n' c') (.bool t'); rwa [World.size_alloc] at this
  have HB := Lib.hid (show Below w.heap.size w W from by subst hW; exact ((Below.refl _ _).alloc (Nat.le_refl _) _).alloc (by simp) _)
  have f0 := hF.c0
  have g0 := hG.c0
  have f1 := hF.c1
  have g1 := hG.c1
  have f2 := hF.c2
  have g2 := hG.c2
  have f3 := hF.c3
  have g3 := hG.c3
  clear hF hG
  rcases kinds k with rfl | rfl | rfl | rfl | rfl | rfl | rfl | rfl | rfl | rfl | ⟨⟨n1, n2, n3, n4⟩, ⟨n5, n6, n7, n8⟩, n9, n10⟩
  · go_enter Tryd.func50, Tryd.ntmps50
    go_wp2_with fail
    clear hW
    (with_reducible refine (rucmp_any _ _ _).mono ?_)
    rintro e w' ⟨rfl, rfl⟩
    go_wp2
    go_ret
    exact ⟨ret_int rfl, HB.out⟩
  · go_enter Tryd.func50, Tryd.ntmps50
    go_wp2_with fail
    clear hW
    (with_reducible refine (rucmp_any _ _ _).mono ?_)
    rintro e w' ⟨rfl, rfl⟩
    go_wp2
    go_ret
    exact ⟨ret_int rfl, HB.out⟩
  · go_enter Tryd.func50, Tryd.ntmps50
    go_wp2_with fail
    clear hW
    (with_reducible refine (rucmp_any _ _ _).mono ?_)
    rintro e w' ⟨rfl, rfl⟩
    go_wp2
    go_ret
    exact ⟨ret_int rfl, HB.out⟩
  · go_enter Tryd.func50, Tryd.ntmps50
    go_wp2_with fail
    clear hW
    (with_reducible refine (rucmp_any _ _ _).mono ?_)
    rintro e w' ⟨rfl, rfl⟩
    go_wp2
    go_ret
    exact ⟨ret_int rfl, HB.out⟩
  · go_enter Tryd.func50, Tryd.ntmps50
    go_wp2_with fail
    clear hW
    (with_reducible refine (ricmp_any _ _ _).mono ?_)
    rintro e w' ⟨rfl, rfl⟩
    go_wp2
    go_ret
    exact ⟨ret_int rfl, HB.out⟩
  · go_enter Tryd.func50, Tryd.ntmps50
    go_wp2_with fail
    clear hW
    (with_reducible refine (ricmp_any _ _ _).mono ?_)
    rintro e w' ⟨rfl, rfl⟩
    go_wp2
    go_ret
    exact ⟨ret_int rfl, HB.out⟩
  · go_enter Tryd.func50, Tryd.ntmps50
    go_wp2_with fail
    clear hW
    (with_reducible refine (ricmp_any _ _ _).mono ?_)
    rintro e w' ⟨rfl, rfl⟩
    go_wp2
    go_ret
    exact ⟨ret_int rfl, HB.out⟩
  · go_enter Tryd.func50, Tryd.ntmps50
    go_wp2_with fail
    clear hW
    (with_reducible refine (ricmp_any _ _ _).mono ?_)
    rintro e w' ⟨rfl, rfl⟩
    go_wp2
    go_ret
    exact ⟨ret_int rfl, HB.out⟩
  · cases t <;> cases t'
    · go_enter Tryd.func50, Tryd.ntmps50
      go_wp2
      go_ret
      exact ⟨ret_int rfl, HB.out⟩
    · go_enter Tryd.func50, Tryd.ntmps50
      go_wp2
      go_ret
      exact ⟨ret_int rfl, HB.out⟩
    · go_enter Tryd.func50, Tryd.ntmps50
      go_wp2
      go_ret
      exact ⟨ret_int rfl, HB.out⟩
    · go_enter Tryd.func50, Tryd.ntmps50
      go_wp2
      go_ret
      exact ⟨ret_int rfl, HB.out⟩
  · go_enter Tryd.func50, Tryd.ntmps50
    go_wp2_with fail
    clear hW
    (with_reducible refine (rcmp_any _ _ _ _ _ _ _ l l' _ (HA.out _ HB.out).1 (HA.out _ HB.out).2).mono ?_)
    rintro e w1 ⟨rfl, h1⟩
    have B1 := Lib.hid (HB.out.trans (h1.below _))
    clear h1
    go_wp2
    go_ret
    exact ⟨ret_int rfl, B1.out⟩
  · have HE := Lib.hid (show 0 = upC k u i l t u' i' l' t' from by unfold upC; rw [if_neg (by omega), if_neg (by omega), if_neg n9, if_neg n10])
    by_cases hlow : k < 1
    · have q1 : ¬ (1 : Int) ≤ k := by omega
      have q5 : ¬ (5 : Int) ≤ k := by omega
      go_enter Tryd.func50, Tryd.ntmps50
      go_wp2
      go_ret
      exact ⟨ret_int HE.out, HB.out⟩
    · have q1 : (1 : Int) ≤ k := by omega
      have q4 : ¬ k ≤ (4 : Int) := by omega
      have q5 : (5 : Int) ≤ k := by omega
      have q8 : ¬ k ≤ (8 : Int) := by omega
      go_enter Tryd.func50, Tryd.ntmps50
      go_wp2
      go_ret
      exact ⟨ret_int HE.out, HB.out⟩
set_option maxRecDepth 100000 in
set_option maxHeartbeats 2000000 in
theorem rfcmp_any (k : Int) (f : Bool) (u u' : Nat) (i i' : Int) (A A' : Option Addr) (n n' c c' B : Nat) (l l' : List UInt8) (t t' : Bool) (w : World) (ha : Byt w B A n l) (hb : Byt w B A' n' l') (hB : B ≤ w.heap.size) :
    Calls Tryd.prog 40 #[.agg #[.int .i64 k, .bool f], .agg #[.int .u64 (u : Int), .int .i64 i, .slice A n c, .bool t], .agg #[.int .u64 (u' : Int), .int .i64 i', .slice A' n' c', .bool t']] w fun e w' => e = .returned (.int .i64 (fC k f u i l t u' i' l' t')) ∧ Below w.heap.size w w' := by
  have HA := Lib.hid (fun V (h : Below w.heap.size w V) => And.intro ((ha.more hB).below h) ((hb.more hB).below h))
  clear ha hb
  generalize hW : ((w.alloc (.cells #[.int .i64 k, .bool f] 77)).alloc (.cells #[.int .u64 (u : Int), .int .i64 i, .slice A n c, .bool t] 47)).alloc (.cells #[.int .u64 (u' : Int), .int .i64 i', .slice A' n' c', .bool t'] 47) = W
  have hK : Two W w.heap.size (.int .i64 k) (.bool f) := by subst hW; exact ((Two.new _ _ _ _).alloc _).alloc _
  have hF : Four W (w.heap.size + 1) (.int .u64 (u : Int)) (.int .i64 i) (.slice A n c) (.bool t) := by subst hW; have := (Four.new (w.alloc (.cells #[.int .i64 k, .bool f] 77)) 47 (.int .u64 (u : Int)) (.int .i64 i) (.slice A n c) (.bool t)).alloc (.cells #[.int .u64 (u' : Int), .int .i64 i', .slice A' n' c', .bool t'] 47); rwa [World.size_alloc] at this
  have hG : Four W (w.heap.size + 2) (.int .u64 (u' : Int)) (.int .i64 i') (.slice A' n' c') (.bool t') := by subst hW; have := Four.new ((w.alloc (.cells #[.int .i64 k, .bool f] 77)).alloc (.cells #[.int .u64 (u : Int), .int .i64 i, .slice A n c, .bool t] 47)) 47 (.int .u64 (u' : Int)) (.int .i64 i') (.slice A' n' c') (.bool t'); simpa only [World.size_alloc, Nat.add_assoc, Nat.reduceAdd] using this
  have HB := Lib.hid (show Below w.heap.size w W from by subst hW; exact (((Below.refl _ _).alloc (Nat.le_refl _) _).alloc (by simp) _).alloc (by simp; omega) _)
  have f0 := hF.c0
  have g0 := hG.c0
  have f1 := hF.c1
  have g1 := hG.c1
  have f2 := hF.c2
  have g2 := hG.c2
  have f3 := hF.c3
  have g3 := hG.c3
  have k0 := hK.k0
  have k1 := hK.k1
  clear hK hF hG
  cases f
  · go_enter Tryd.func40, Tryd.ntmps40
    go_wp2_with fail
    clear hW
    (with_reducible refine (up_any k u u' i i' A A' n n' c c' _ l l' t t' _ (HA.out _ HB.out).1 (HA.out _ HB.out).2 HB.out.size).mono ?_)
    rintro e w1 ⟨rfl, h1⟩
    have B1 := Lib.hid (HB.out.trans (h1.mono HB.out.size))
    clear h1
    go_wp2
    go_ret
    exact ⟨ret_int rfl, B1.out⟩
  · go_enter Tryd.func40, Tryd.ntmps40
    go_wp2_with fail
    clear hW
    (with_reducible refine (up_any k u' u i' i A' A n' n c' c _ l' l t' t _ (HA.out _ HB.out).2 (HA.out _ HB.out).1 HB.out.size).mono ?_)
    rintro e w1 ⟨rfl, h1⟩
    have B1 := Lib.hid (HB.out.trans (h1.mono HB.out.size))
    clear h1
    go_wp2
    go_ret
    exact ⟨ret_int rfl, B1.out⟩
end Go.Proofs.YtofccfbiappgaaaDoor
