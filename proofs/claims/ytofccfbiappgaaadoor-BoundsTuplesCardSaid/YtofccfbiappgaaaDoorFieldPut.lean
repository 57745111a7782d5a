/-
  What field.putRising, Put and the document's put, Put answer: a value's bytes by a field, or an error.
-/
import Derived.Test.YtofccfbiappgaaaDoorField
import Derived.Test.YtofccfbiappgaaaDoorSenc
namespace Go.Proofs.YtofccfbiappgaaaDoor
open Go.RowKit

theorem fR_none {k : Int} {u : Nat} {i : Int} (l : List UInt8) (t : Bool) (h : fE k u i ≠ 0) : fR k u i l t = [] := by
  unfold fE at h
  unfold fR
  by_cases h4 : 1 ≤ k ∧ k ≤ 4
  · rw [if_pos h4] at h
    rw [if_pos h4]
    unfold putL
    unfold putE at h
    by_cases hw : wid (wd k) = true
    · rw [if_pos hw] at h
      have : ¬ (u : Int) ≤ mostI (wd k) := fun q => h (if_pos q)
      simp [this]
    · simp [hw]
  · rw [if_neg h4] at h
    rw [if_neg h4]
    by_cases h5 : 5 ≤ k ∧ k ≤ 8
    · rw [if_pos h5] at h
      rw [if_pos h5]
      unfold iputL
      unfold iputE at h
      by_cases hw : wid (wd k) = true
      · rw [if_pos hw] at h
        have : ¬ (leastI (wd k) ≤ i ∧ i ≤ imostI (wd k)) := fun q => h (if_pos q)
        rw [if_neg (fun q => this q.2)]
      · rw [if_neg (fun q => hw q.1)]
    · rw [if_neg h5] at h
      rw [if_neg h5]
      have : ¬ (k = 9 ∨ k = 10) := fun q => h (if_pos q)
      rw [if_neg (fun q => this (.inl q)), if_neg (fun q => this (.inr q))]
theorem fR_length (k : Int) (u : Nat) (i : Int) (l : List UInt8) (t : Bool) : (fR k u i l t).length ≤ 2 * l.length + 8 := by
  unfold fR
  split
  · unfold putL
    split
    · rename_i h8 h; rw [beL_length]
      have := wid_nat (show wid (wd k) = true from by simp at h; exact h.1)
      obtain ⟨m, hm, hm'⟩ := this
      rw [hm]; simp; omega
    · simp
  · split
    · unfold iputL
      split
      · rename_i h; rw [beL_length]
        obtain ⟨m, hm, hm'⟩ := wid_nat h.1
        rw [hm]; simp; omega
      · simp
    · split
      · simp
      · split
        · rw [sputL_length]; have := escL_length l; omega
        · simp
theorem PutPost.of {w w' : World} {l l' : List UInt8} {er er' : Int} {A : Option Addr} {n c : Nat} (hy : Byt w' w'.heap.size A n l) (hl : l = l') (he : er = er') (hb : Below w.heap.size w w') : PutPost w l' er' (.returned (.tuple #[.slice A n c, .int .i64 er])) w' := by
  subst hl he
  exact ⟨A, n, c, rfl, hy, hb⟩

set_option maxRecDepth 100000 in
set_option maxHeartbeats 2000000 in
theorem putR_u (k : Int) (hk : k = 1 ∨ k = 2 ∨ k = 3 ∨ k = 4) (u : Nat) (i : Int) (A : Option Addr) (n c : Nat) (l : List UInt8) (t : Bool) (w : World) (hu : u ≤ 18446744073709551615) :
    Calls Tryd.prog 52 #[.int .i64 k, .agg #[.int .u64 (u : Int), .int .i64 i, .slice A n c, .bool t]] w (PutPost w (fR k u i l t) (fE k u i)) := by
  have HE := Lib.hid (show fR k u i l t = putL (wd k) u ∧ fE k u i = putE (wd k) u from ⟨if_pos (by omega), if_pos (by omega)⟩)
  rw [HE.out.1, HE.out.2]
  have HW := Lib.hid (width_any k)
  generalize wd k = x at HW
  have HP := Lib.hid (fun V (_ : Below w.heap.size w V) => put_any x u V hu)
  clear HE
  generalize hW : w.alloc (.cells #[.int .u64 (u : Int), .int .i64 i, .slice A n c, .bool t] 66) = W
  have hF : Four W w.heap.size (.int .u64 (u : Int)) (.int .i64 i) (.slice A n c) (.bool t) := by subst hW; exact Four.new _ _ _ _ _ _
  have hBW : Below w.heap.size w W := by subst hW; exact (Below.refl _ _).alloc (Nat.le_refl _) _
  have HB := Lib.hid hBW
  have hlt := hF.lt
  have hx0 := hF.c0
  clear hF hBW
  rcases hk with rfl | rfl | rfl | rfl
  · go_enter Tryd.func52, Tryd.ntmps52
    go_wp2_with fail
    clear hW
    go_region_held3 (fun w' => w'.cell? ⟨w.heap.size, 0, none⟩ = some (.int .u64 (u : Int)))
      (first | go_keep | exact (h1.cell (p := ⟨w.heap.size, 0, none⟩) hlt).trans hx0)
      (first
        | (go_at_call 61; refine (HW.out _).mono ?_; rintro e w' ⟨rfl, rfl⟩)
        | (go_at_call 60; refine (HP.out _ HB.out.drew).mono ?_; rintro e v1 ⟨A1, n1, c1, rfl, y1, h1⟩))
    go_wp2
    go_ret2
    exact ⟨_, _, _, rfl, y1, HB.out.drew.trans (h1.mono HB.out.size)⟩
  · go_enter Tryd.func52, Tryd.ntmps52
    go_wp2_with fail
    clear hW
    go_region_held3 (fun w' => w'.cell? ⟨w.heap.size, 0, none⟩ = some (.int .u64 (u : Int)))
      (first | go_keep | exact (h1.cell (p := ⟨w.heap.size, 0, none⟩) hlt).trans hx0)
      (first
        | (go_at_call 61; refine (HW.out _).mono ?_; rintro e w' ⟨rfl, rfl⟩)
        | (go_at_call 60; refine (HP.out _ HB.out.drew).mono ?_; rintro e v1 ⟨A1, n1, c1, rfl, y1, h1⟩))
    go_wp2
    go_ret2
    exact ⟨_, _, _, rfl, y1, HB.out.drew.trans (h1.mono HB.out.size)⟩
  · go_enter Tryd.func52, Tryd.ntmps52
    go_wp2_with fail
    clear hW
    go_region_held3 (fun w' => w'.cell? ⟨w.heap.size, 0, none⟩ = some (.int .u64 (u : Int)))
      (first | go_keep | exact (h1.cell (p := ⟨w.heap.size, 0, none⟩) hlt).trans hx0)
      (first
        | (go_at_call 61; refine (HW.out _).mono ?_; rintro e w' ⟨rfl, rfl⟩)
        | (go_at_call 60; refine (HP.out _ HB.out.drew).mono ?_; rintro e v1 ⟨A1, n1, c1, rfl, y1, h1⟩))
    go_wp2
    go_ret2
    exact ⟨_, _, _, rfl, y1, HB.out.drew.trans (h1.mono HB.out.size)⟩
  · go_enter Tryd.func52, Tryd.ntmps52
    go_wp2_with fail
    clear hW
    go_region_held3 (fun w' => w'.cell? ⟨w.heap.size, 0, none⟩ = some (.int .u64 (u : Int)))
      (first | go_keep | exact (h1.cell (p := ⟨w.heap.size, 0, none⟩) hlt).trans hx0)
      (first
        | (go_at_call 61; refine (HW.out _).mono ?_; rintro e w' ⟨rfl, rfl⟩)
        | (go_at_call 60; refine (HP.out _ HB.out.drew).mono ?_; rintro e v1 ⟨A1, n1, c1, rfl, y1, h1⟩))
    go_wp2
    go_ret2
    exact ⟨_, _, _, rfl, y1, HB.out.drew.trans (h1.mono HB.out.size)⟩
set_option maxRecDepth 100000 in
set_option maxHeartbeats 2000000 in
theorem putR_i (k : Int) (hk : k = 5 ∨ k = 6 ∨ k = 7 ∨ k = 8) (u : Nat) (i : Int) (A : Option Addr) (n c : Nat) (l : List UInt8) (t : Bool) (w : World) (hi : i ≤ 9223372036854775807) (hT : Tab w) :
    Calls Tryd.prog 52 #[.int .i64 k, .agg #[.int .u64 (u : Int), .int .i64 i, .slice A n c, .bool t]] w (PutPost w (fR k u i l t) (fE k u i)) := by
  have HE := Lib.hid (show fR k u i l t = iputL (wd k) i ∧ fE k u i = iputE (wd k) i from ⟨(if_neg (by omega)).trans (if_pos (by omega)), (if_neg (by omega)).trans (if_pos (by omega))⟩)
  rw [HE.out.1, HE.out.2]
  have HW := Lib.hid (width_any k)
  generalize wd k = x at HW
  have HP := Lib.hid (fun V (h : Below w.heap.size w V) => iput_any x i V (hT.below h) hi)
  clear HE hT
  generalize hW : w.alloc (.cells #[.int .u64 (u : Int), .int .i64 i, .slice A n c, .bool t] 66) = W
  have hF : Four W w.heap.size (.int .u64 (u : Int)) (.int .i64 i) (.slice A n c) (.bool t) := by subst hW; exact Four.new _ _ _ _ _ _
  have hBW : Below w.heap.size w W := by subst hW; exact (Below.refl _ _).alloc (Nat.le_refl _) _
  have HB := Lib.hid hBW
  have hlt := hF.lt
  have hx0 := hF.c1
  clear hF hBW
  rcases hk with rfl | rfl | rfl | rfl
  · go_enter Tryd.func52, Tryd.ntmps52
    go_wp2_with fail
    clear hW
    go_region_held3 (fun w' => w'.cell? ⟨w.heap.size, 1, none⟩ = some (.int .i64 i))
      (first | go_keep | exact (h1.cell (p := ⟨w.heap.size, 1, none⟩) hlt).trans hx0)
      (first
        | (go_at_call 61; refine (HW.out _).mono ?_; rintro e w' ⟨rfl, rfl⟩)
        | (go_at_call 62; refine (HP.out _ HB.out.drew).mono ?_; rintro e v1 ⟨A1, n1, c1, rfl, y1, h1⟩))
    go_wp2
    go_ret2
    exact ⟨_, _, _, rfl, y1, HB.out.drew.trans (h1.mono HB.out.size)⟩
  · go_enter Tryd.func52, Tryd.ntmps52
    go_wp2_with fail
    clear hW
    go_region_held3 (fun w' => w'.cell? ⟨w.heap.size, 1, none⟩ = some (.int .i64 i))
      (first | go_keep | exact (h1.cell (p := ⟨w.heap.size, 1, none⟩) hlt).trans hx0)
      (first
        | (go_at_call 61; refine (HW.out _).mono ?_; rintro e w' ⟨rfl, rfl⟩)
        | (go_at_call 62; refine (HP.out _ HB.out.drew).mono ?_; rintro e v1 ⟨A1, n1, c1, rfl, y1, h1⟩))
    go_wp2
    go_ret2
    exact ⟨_, _, _, rfl, y1, HB.out.drew.trans (h1.mono HB.out.size)⟩
  · go_enter Tryd.func52, Tryd.ntmps52
    go_wp2_with fail
    clear hW
    go_region_held3 (fun w' => w'.cell? ⟨w.heap.size, 1, none⟩ = some (.int .i64 i))
      (first | go_keep | exact (h1.cell (p := ⟨w.heap.size, 1, none⟩) hlt).trans hx0)
      (first
        | (go_at_call 61; refine (HW.out _).mono ?_; rintro e w' ⟨rfl, rfl⟩)
        | (go_at_call 62; refine (HP.out _ HB.out.drew).mono ?_; rintro e v1 ⟨A1, n1, c1, rfl, y1, h1⟩))
    go_wp2
    go_ret2
    exact ⟨_, _, _, rfl, y1, HB.out.drew.trans (h1.mono HB.out.size)⟩
  · go_enter Tryd.func52, Tryd.ntmps52
    go_wp2_with fail
    clear hW
    go_region_held3 (fun w' => w'.cell? ⟨w.heap.size, 1, none⟩ = some (.int .i64 i))
      (first | go_keep | exact (h1.cell (p := ⟨w.heap.size, 1, none⟩) hlt).trans hx0)
      (first
        | (go_at_call 61; refine (HW.out _).mono ?_; rintro e w' ⟨rfl, rfl⟩)
        | (go_at_call 62; refine (HP.out _ HB.out.drew).mono ?_; rintro e v1 ⟨A1, n1, c1, rfl, y1, h1⟩))
    go_wp2
    go_ret2
    exact ⟨_, _, _, rfl, y1, HB.out.drew.trans (h1.mono HB.out.size)⟩
set_option maxRecDepth 100000 in
set_option maxHeartbeats 2000000 in
theorem putR_any (k : Int)  (u : Nat) (i : Int) (A : Option Addr) (n c B : Nat) (l : List UInt8) (t : Bool) (w : World) (hu : u ≤ 18446744073709551615) (hi : i ≤ 9223372036854775807) (hT : Tab w) (ha : Byt w B A n l) (hB : B ≤ w.heap.size) (hn : n ≤ 1000000) :
    Calls Tryd.prog 52 #[.int .i64 k, .agg #[.int .u64 (u : Int), .int .i64 i, .slice A n c, .bool t]] w (PutPost w (fR k u i l t) (fE k u i)) := by
  have HA := Lib.hid (fun V (h : Below w.heap.size w V) => (ha.more hB).below h)
  rcases kinds k with h | h | h | h | h | h | h | h | rfl | rfl | ⟨⟨n1, n2, n3, n4⟩, ⟨n5, n6, n7, n8⟩, n9, n10⟩
  · exact putR_u k (by omega) u i A n c l t w hu
  · exact putR_u k (by omega) u i A n c l t w hu
  · exact putR_u k (by omega) u i A n c l t w hu
  · exact putR_u k (by omega) u i A n c l t w hu
  · exact putR_i k (by omega) u i A n c l t w hi hT
  · exact putR_i k (by omega) u i A n c l t w hi hT
  · exact putR_i k (by omega) u i A n c l t w hi hT
  · exact putR_i k (by omega) u i A n c l t w hi hT
  · clear ha hT
    generalize hW : w.alloc (.cells #[.int .u64 (u : Int), .int .i64 i, .slice A n c, .bool t] 66) = W
    have hF : Four W w.heap.size (.int .u64 (u : Int)) (.int .i64 i) (.slice A n c) (.bool t) := by subst hW; exact Four.new _ _ _ _ _ _
    have hBW : Below w.heap.size w W := by subst hW; exact (Below.refl _ _).alloc (Nat.le_refl _) _
    have HB := Lib.hid hBW
    have hlt := hF.lt
    have hx3 := hF.c3
    clear hF hBW
    go_enter Tryd.func52, Tryd.ntmps52
    go_wp2_with fail
    clear hW
    (with_reducible refine (putbool_any t _).mono ?_)
    rintro e v1 ⟨A1, c1, rfl, y1, _, h1⟩
    have H1 := Lib.hid h1
    have Y1 := Lib.hid y1
    clear h1 y1
    go_wp2
    go_ret2
    exact PutPost.of Y1.out rfl rfl (HB.out.trans (H1.out.mono HB.out.size))
  · clear ha hT
    generalize hW : w.alloc (.cells #[.int .u64 (u : Int), .int .i64 i, .slice A n c, .bool t] 66) = W
    have hF : Four W w.heap.size (.int .u64 (u : Int)) (.int .i64 i) (.slice A n c) (.bool t) := by subst hW; exact Four.new _ _ _ _ _ _
    have hBW : Below w.heap.size w W := by subst hW; exact (Below.refl _ _).alloc (Nat.le_refl _) _
    have HB := Lib.hid hBW
    have hlt := hF.lt
    have hx2 := hF.c2
    clear hF hBW
    go_enter Tryd.func52, Tryd.ntmps52
    go_wp2_with fail
    clear hW
    (with_reducible refine (sput_any _ _ _ _ l _ (HA.out _ HB.out) HB.out.size (by omega)).mono ?_)
    rintro e v1 ⟨A1, m1, c1, rfl, y1, _, h1⟩
    have H1 := Lib.hid h1
    have Y1 := Lib.hid y1
    clear h1 y1
    go_wp2
    go_ret2
    exact PutPost.of Y1.out rfl rfl (HB.out.trans (H1.out.mono HB.out.size))
  · have HE := Lib.hid (show fR k u i l t = [] ∧ fE k u i = 9 from ⟨by unfold fR; rw [if_neg (by omega), if_neg (by omega), if_neg n9, if_neg n10], by unfold fE; rw [if_neg (by omega), if_neg (by omega), if_neg (by omega)]⟩)
    rw [HE.out.1, HE.out.2]
    clear ha HE hT
    go_enter Tryd.func52, Tryd.ntmps52
    go_wp2
    go_ret2
    exact PutPost.of Byt.none_ rfl rfl ((Below.refl _ _).alloc (Nat.le_refl _) _)
set_option maxRecDepth 100000 in
set_option maxHeartbeats 2000000 in
theorem rputR_u (k : Int) (hk : k = 1 ∨ k = 2 ∨ k = 3 ∨ k = 4) (u : Nat) (i : Int) (A : Option Addr) (n c : Nat) (l : List UInt8) (t : Bool) (w : World) (hu : u ≤ 18446744073709551615) :
    Calls Tryd.prog 48 #[.int .i64 k, .agg #[.int .u64 (u : Int), .int .i64 i, .slice A n c, .bool t]] w (PutPost w (fR k u i l t) (fE k u i)) := by
  have HE := Lib.hid (show fR k u i l t = putL (wd k) u ∧ fE k u i = putE (wd k) u from ⟨if_pos (by omega), if_pos (by omega)⟩)
  rw [HE.out.1, HE.out.2]
  have HW := Lib.hid (fun V => rwidth_any k V (by omega))
  generalize wd k = x at HW
  have HP := Lib.hid (fun V (_ : Below w.heap.size w V) => rput_any x u V hu)
  clear HE
  generalize hW : w.alloc (.cells #[.int .u64 (u : Int), .int .i64 i, .slice A n c, .bool t] 47) = W
  have hF : Four W w.heap.size (.int .u64 (u : Int)) (.int .i64 i) (.slice A n c) (.bool t) := by subst hW; exact Four.new _ _ _ _ _ _
  have hBW : Below w.heap.size w W := by subst hW; exact (Below.refl _ _).alloc (Nat.le_refl _) _
  have HB := Lib.hid hBW
  have hlt := hF.lt
  have hx0 := hF.c0
  clear hF hBW
  rcases hk with rfl | rfl | rfl | rfl
  · go_enter Tryd.func48, Tryd.ntmps48
    go_wp2_with fail
    clear hW
    go_region_held3 (fun w' => w'.cell? ⟨w.heap.size, 0, none⟩ = some (.int .u64 (u : Int)))
      (first | go_keep | exact (h1.cell (p := ⟨w.heap.size, 0, none⟩) (Nat.lt_of_lt_of_le hlt h0.size)).trans ((h0.cell (p := ⟨w.heap.size, 0, none⟩) hlt).trans hx0) | exact (h0.cell (p := ⟨w.heap.size, 0, none⟩) hlt).trans hx0)
      (first
        | (go_at_call 55; refine (HW.out _).mono ?_; rintro e v0 ⟨rfl, h0⟩)
        | (go_at_call 54; refine (HP.out _ (HB.out.drew.trans (h0.mono HB.out.size))).mono ?_; rintro e v1 ⟨A1, n1, c1, rfl, y1, h1⟩))
    go_wp2
    go_ret2
    exact ⟨_, _, _, rfl, y1, (HB.out.drew.trans (h0.mono HB.out.size)).trans (h1.mono (Nat.le_trans HB.out.size h0.size))⟩
  · go_enter Tryd.func48, Tryd.ntmps48
    go_wp2_with fail
    clear hW
    go_region_held3 (fun w' => w'.cell? ⟨w.heap.size, 0, none⟩ = some (.int .u64 (u : Int)))
      (first | go_keep | exact (h1.cell (p := ⟨w.heap.size, 0, none⟩) (Nat.lt_of_lt_of_le hlt h0.size)).trans ((h0.cell (p := ⟨w.heap.size, 0, none⟩) hlt).trans hx0) | exact (h0.cell (p := ⟨w.heap.size, 0, none⟩) hlt).trans hx0)
      (first
        | (go_at_call 55; refine (HW.out _).mono ?_; rintro e v0 ⟨rfl, h0⟩)
        | (go_at_call 54; refine (HP.out _ (HB.out.drew.trans (h0.mono HB.out.size))).mono ?_; rintro e v1 ⟨A1, n1, c1, rfl, y1, h1⟩))
    go_wp2
    go_ret2
    exact ⟨_, _, _, rfl, y1, (HB.out.drew.trans (h0.mono HB.out.size)).trans (h1.mono (Nat.le_trans HB.out.size h0.size))⟩
  · go_enter Tryd.func48, Tryd.ntmps48
    go_wp2_with fail
    clear hW
    go_region_held3 (fun w' => w'.cell? ⟨w.heap.size, 0, none⟩ = some (.int .u64 (u : Int)))
      (first | go_keep | exact (h1.cell (p := ⟨w.heap.size, 0, none⟩) (Nat.lt_of_lt_of_le hlt h0.size)).trans ((h0.cell (p := ⟨w.heap.size, 0, none⟩) hlt).trans hx0) | exact (h0.cell (p := ⟨w.heap.size, 0, none⟩) hlt).trans hx0)
      (first
        | (go_at_call 55; refine (HW.out _).mono ?_; rintro e v0 ⟨rfl, h0⟩)
        | (go_at_call 54; refine (HP.out _ (HB.out.drew.trans (h0.mono HB.out.size))).mono ?_; rintro e v1 ⟨A1, n1, c1, rfl, y1, h1⟩))
    go_wp2
    go_ret2
    exact ⟨_, _, _, rfl, y1, (HB.out.drew.trans (h0.mono HB.out.size)).trans (h1.mono (Nat.le_trans HB.out.size h0.size))⟩
  · go_enter Tryd.func48, Tryd.ntmps48
    go_wp2_with fail
    clear hW
    go_region_held3 (fun w' => w'.cell? ⟨w.heap.size, 0, none⟩ = some (.int .u64 (u : Int)))
      (first | go_keep | exact (h1.cell (p := ⟨w.heap.size, 0, none⟩) (Nat.lt_of_lt_of_le hlt h0.size)).trans ((h0.cell (p := ⟨w.heap.size, 0, none⟩) hlt).trans hx0) | exact (h0.cell (p := ⟨w.heap.size, 0, none⟩) hlt).trans hx0)
      (first
        | (go_at_call 55; refine (HW.out _).mono ?_; rintro e v0 ⟨rfl, h0⟩)
        | (go_at_call 54; refine (HP.out _ (HB.out.drew.trans (h0.mono HB.out.size))).mono ?_; rintro e v1 ⟨A1, n1, c1, rfl, y1, h1⟩))
    go_wp2
    go_ret2
    exact ⟨_, _, _, rfl, y1, (HB.out.drew.trans (h0.mono HB.out.size)).trans (h1.mono (Nat.le_trans HB.out.size h0.size))⟩
set_option maxRecDepth 100000 in
set_option maxHeartbeats 2000000 in
theorem rputR_i (k : Int) (hk : k = 5 ∨ k = 6 ∨ k = 7 ∨ k = 8) (u : Nat) (i : Int) (A : Option Addr) (n c : Nat) (l : List UInt8) (t : Bool) (w : World) (hi : i ≤ 9223372036854775807) :
    Calls Tryd.prog 48 #[.int .i64 k, .agg #[.int .u64 (u : Int), .int .i64 i, .slice A n c, .bool t]] w (PutPost w (fR k u i l t) (fE k u i)) := by
  have HE := Lib.hid (show fR k u i l t = iputL (wd k) i ∧ fE k u i = iputE (wd k) i from ⟨(if_neg (by omega)).trans (if_pos (by omega)), (if_neg (by omega)).trans (if_pos (by omega))⟩)
  rw [HE.out.1, HE.out.2]
  have HW := Lib.hid (fun V => rwidth_any k V (by omega))
  generalize wd k = x at HW
  have HP := Lib.hid (fun V (_ : Below w.heap.size w V) => riput_any x i V hi)
  clear HE
  generalize hW : w.alloc (.cells #[.int .u64 (u : Int), .int .i64 i, .slice A n c, .bool t] 47) = W
  have hF : Four W w.heap.size (.int .u64 (u : Int)) (.int .i64 i) (.slice A n c) (.bool t) := by subst hW; exact Four.new _ _ _ _ _ _
  have hBW : Below w.heap.size w W := by subst hW; exact (Below.refl _ _).alloc (Nat.le_refl _) _
  have HB := Lib.hid hBW
  have hlt := hF.lt
  have hx0 := hF.c1
  clear hF hBW
  rcases hk with rfl | rfl | rfl | rfl
  · go_enter Tryd.func48, Tryd.ntmps48
    go_wp2_with fail
    clear hW
    go_region_held3 (fun w' => w'.cell? ⟨w.heap.size, 1, none⟩ = some (.int .i64 i))
      (first | go_keep | exact (h1.cell (p := ⟨w.heap.size, 1, none⟩) (Nat.lt_of_lt_of_le hlt h0.size)).trans ((h0.cell (p := ⟨w.heap.size, 1, none⟩) hlt).trans hx0) | exact (h0.cell (p := ⟨w.heap.size, 1, none⟩) hlt).trans hx0)
      (first
        | (go_at_call 55; refine (HW.out _).mono ?_; rintro e v0 ⟨rfl, h0⟩)
        | (go_at_call 56; refine (HP.out _ (HB.out.drew.trans (h0.mono HB.out.size))).mono ?_; rintro e v1 ⟨A1, n1, c1, rfl, y1, h1⟩))
    go_wp2
    go_ret2
    exact ⟨_, _, _, rfl, y1, (HB.out.drew.trans (h0.mono HB.out.size)).trans (h1.mono (Nat.le_trans HB.out.size h0.size))⟩
  · go_enter Tryd.func48, Tryd.ntmps48
    go_wp2_with fail
    clear hW
    go_region_held3 (fun w' => w'.cell? ⟨w.heap.size, 1, none⟩ = some (.int .i64 i))
      (first | go_keep | exact (h1.cell (p := ⟨w.heap.size, 1, none⟩) (Nat.lt_of_lt_of_le hlt h0.size)).trans ((h0.cell (p := ⟨w.heap.size, 1, none⟩) hlt).trans hx0) | exact (h0.cell (p := ⟨w.heap.size, 1, none⟩) hlt).trans hx0)
      (first
        | (go_at_call 55; refine (HW.out _).mono ?_; rintro e v0 ⟨rfl, h0⟩)
        | (go_at_call 56; refine (HP.out _ (HB.out.drew.trans (h0.mono HB.out.size))).mono ?_; rintro e v1 ⟨A1, n1, c1, rfl, y1, h1⟩))
    go_wp2
    go_ret2
    exact ⟨_, _, _, rfl, y1, (HB.out.drew.trans (h0.mono HB.out.size)).trans (h1.mono (Nat.le_trans HB.out.size h0.size))⟩
  · go_enter Tryd.func48, Tryd.ntmps48
    go_wp2_with fail
    clear hW
    go_region_held3 (fun w' => w'.cell? ⟨w.heap.size, 1, none⟩ = some (.int .i64 i))
      (first | go_keep | exact (h1.cell (p := ⟨w.heap.size, 1, none⟩) (Nat.lt_of_lt_of_le hlt h0.size)).trans ((h0.cell (p := ⟨w.heap.size, 1, none⟩) hlt).trans hx0) | exact (h0.cell (p := ⟨w.heap.size, 1, none⟩) hlt).trans hx0)
      (first
        | (go_at_call 55; refine (HW.out _).mono ?_; rintro e v0 ⟨rfl, h0⟩)
        | (go_at_call 56; refine (HP.out _ (HB.out.drew.trans (h0.mono HB.out.size))).mono ?_; rintro e v1 ⟨A1, n1, c1, rfl, y1, h1⟩))
    go_wp2
    go_ret2
    exact ⟨_, _, _, rfl, y1, (HB.out.drew.trans (h0.mono HB.out.size)).trans (h1.mono (Nat.le_trans HB.out.size h0.size))⟩
  · go_enter Tryd.func48, Tryd.ntmps48
    go_wp2_with fail
    clear hW
    go_region_held3 (fun w' => w'.cell? ⟨w.heap.size, 1, none⟩ = some (.int .i64 i))
      (first | go_keep | exact (h1.cell (p := ⟨w.heap.size, 1, none⟩) (Nat.lt_of_lt_of_le hlt h0.size)).trans ((h0.cell (p := ⟨w.heap.size, 1, none⟩) hlt).trans hx0) | exact (h0.cell (p := ⟨w.heap.size, 1, none⟩) hlt).trans hx0)
      (first
        | (go_at_call 55; refine (HW.out _).mono ?_; rintro e v0 ⟨rfl, h0⟩)
        | (go_at_call 56; refine (HP.out _ (HB.out.drew.trans (h0.mono HB.out.size))).mono ?_; rintro e v1 ⟨A1, n1, c1, rfl, y1, h1⟩))
    go_wp2
    go_ret2
    exact ⟨_, _, _, rfl, y1, (HB.out.drew.trans (h0.mono HB.out.size)).trans (h1.mono (Nat.le_trans HB.out.size h0.size))⟩
set_option maxRecDepth 100000 in
set_option maxHeartbeats 2000000 in
theorem rputR_any (k : Int)  (u : Nat) (i : Int) (A : Option Addr) (n c B : Nat) (l : List UInt8) (t : Bool) (w : World) (hu : u ≤ 18446744073709551615) (hi : i ≤ 9223372036854775807) (ha : Byt w B A n l) (hB : B ≤ w.heap.size) (hn : n ≤ 1000000) :
    Calls Tryd.prog 48 #[.int .i64 k, .agg #[.int .u64 (u : Int), .int .i64 i, .slice A n c, .bool t]] w (PutPost w (fR k u i l t) (fE k u i)) := by
  have HA := Lib.hid (fun V (h : Below w.heap.size w V) => (ha.more hB).below h)
  rcases kinds k with h | h | h | h | h | h | h | h | rfl | rfl | ⟨⟨n1, n2, n3, n4⟩, ⟨n5, n6, n7, n8⟩, n9, n10⟩
  · exact rputR_u k (by omega) u i A n c l t w hu
  · exact rputR_u k (by omega) u i A n c l t w hu
  · exact rputR_u k (by omega) u i A n c l t w hu
  · exact rputR_u k (by omega) u i A n c l t w hu
  · exact rputR_i k (by omega) u i A n c l t w hi
  · exact rputR_i k (by omega) u i A n c l t w hi
  · exact rputR_i k (by omega) u i A n c l t w hi
  · exact rputR_i k (by omega) u i A n c l t w hi
  · clear ha
    cases t
    · go_enter Tryd.func48, Tryd.ntmps48
      go_wp2
      go_ret2
      exact PutPost.of (l := [0]) (by have e := byt_one (w.alloc (.cells #[.int .u64 (u : Int), .int .i64 i, .slice A n c, .bool false] 47)) 5 (u := 0) (z := 0) rfl; rw [World.size_alloc] at e; rw [World.size_alloc, World.size_alloc]; exact e) rfl rfl (((Below.refl _ _).alloc (Nat.le_refl _) _).alloc (by simp) _)
    · go_enter Tryd.func48, Tryd.ntmps48
      go_wp2
      go_ret2
      exact PutPost.of (l := [1]) (by have e := byt_one (w.alloc (.cells #[.int .u64 (u : Int), .int .i64 i, .slice A n c, .bool true] 47)) 5 (u := 1) (z := 1) rfl; rw [World.size_alloc] at e; rw [World.size_alloc, World.size_alloc]; exact e) rfl rfl (((Below.refl _ _).alloc (Nat.le_refl _) _).alloc (by simp) _)
  · clear ha
    generalize hW : w.alloc (.cells #[.int .u64 (u : Int), .int .i64 i, .slice A n c, .bool t] 47) = W
    have hF : Four W w.heap.size (.int .u64 (u : Int)) (.int .i64 i) (.slice A n c) (.bool t) := by subst hW; exact Four.new _ _ _ _ _ _
    have hBW : Below w.heap.size w W := by subst hW; exact (Below.refl _ _).alloc (Nat.le_refl _) _
    have HB := Lib.hid hBW
    have hlt := hF.lt
    have hx2 := hF.c2
    clear hF hBW
    go_enter Tryd.func48, Tryd.ntmps48
    go_wp2_with fail
    clear hW
    (with_reducible refine (rsput_any _ _ _ _ l _ (HA.out _ HB.out) HB.out.size (by omega)).mono ?_)
    rintro e v1 ⟨A1, m1, c1, rfl, y1, _, h1⟩
    have H1 := Lib.hid h1
    have Y1 := Lib.hid y1
    clear h1 y1
    go_wp2
    go_ret2
    exact PutPost.of Y1.out rfl rfl (HB.out.trans (H1.out.mono HB.out.size))
  · have HE := Lib.hid (show fR k u i l t = [] ∧ fE k u i = 9 from ⟨by unfold fR; rw [if_neg (by omega), if_neg (by omega), if_neg n9, if_neg n10], by unfold fE; rw [if_neg (by omega), if_neg (by omega), if_neg (by omega)]⟩)
    rw [HE.out.1, HE.out.2]
    clear ha HE
    by_cases hlow : k < 1
    · have g1 : ¬ (1 : Int) ≤ k := by omega
      have g5 : ¬ (5 : Int) ≤ k := by omega
      go_enter Tryd.func48, Tryd.ntmps48
      go_wp2
      go_ret2
      exact PutPost.of Byt.none_ rfl rfl ((Below.refl _ _).alloc (Nat.le_refl _) _)
    · have g1 : (1 : Int) ≤ k := by omega
      have g4 : ¬ k ≤ (4 : Int) := by omega
      have g5 : (5 : Int) ≤ k := by omega
      have g8 : ¬ k ≤ (8 : Int) := by omega
      go_enter Tryd.func48, Tryd.ntmps48
      go_wp2
      go_ret2
      exact PutPost.of Byt.none_ rfl rfl ((Below.refl _ _).alloc (Nat.le_refl _) _)
set_option maxRecDepth 100000 in
set_option maxHeartbeats 2000000 in
theorem fput_any (k : Int) (f : Bool) (u : Nat) (i : Int) (A : Option Addr) (n c B : Nat) (l : List UInt8) (t : Bool) (w : World) (hu : u ≤ 18446744073709551615) (hi : i ≤ 9223372036854775807) (hT : Tab w) (ha : Byt w B A n l) (hB : B ≤ w.heap.size) (hn : n ≤ 1000000) :
    Calls Tryd.prog 47 #[.agg #[.int .i64 k, .bool f], .agg #[.int .u64 (u : Int), .int .i64 i, .slice A n c, .bool t]] w (PutPost w (turn f (fR k u i l t)) (fE k u i)) := by
  have HP := Lib.hid (fun V (h : Below w.heap.size w V) => putR_any k u i A n c B l t V hu hi (hT.below h) (ha.below (h.mono hB)) (Nat.le_trans hB h.size) hn)
  have HL := Lib.hid (show (fR k u i l t).length ≤ 2000008 from by have := fR_length k u i l t; have := ha.1; omega)
  clear ha hT
  generalize hW : (w.alloc (.cells #[.int .i64 k, .bool f] 65)).alloc (.cells #[.int .u64 (u : Int), .int .i64 i, .slice A n c, .bool t] 66) = W
  have hG : Two W w.heap.size (.int .i64 k) (.bool f) := by subst hW; exact (Two.new _ _ _ _).alloc _
  have hF : Four W (w.heap.size + 1) (.int .u64 (u : Int)) (.int .i64 i) (.slice A n c) (.bool t) := by subst hW; have := Four.new (w.alloc (.cells #[.int .i64 k, .bool f] 65)) 66 (.int .u64 (u : Int)) (.int .i64 i) (.slice A n c) (.bool t); rwa [World.size_alloc] at this
  have HB := Lib.hid (show Below w.heap.size w W from by subst hW; exact ((Below.refl _ _).alloc (Nat.le_refl _) _).alloc (by simp) _)
  have HG := Lib.hid hG
  have gk := hG.k0
  have gf := hG.k1
  have v0 := hF.c0
  have v1 := hF.c1
  have v2 := hF.c2
  have v3 := hF.c3
  clear hG hF
  by_cases he : fE k u i = 0
  · rw [he] at HP
    rw [he]
    cases f
    · go_enter Tryd.func47, Tryd.ntmps47
      go_wp2_with fail
      clear hW
      (with_reducible refine (HP.out _ HB.out).mono ?_)
      rintro e w1 ⟨A1, n1, c1, rfl, y1, h1⟩
      clear gk gf v0 v1 v2 v3
      have gf := (HG.out.below h1 HG.out.lt).k1
      have B1 := Lib.hid (HB.out.trans (h1.mono HB.out.size))
      have Y1 := Lib.hid y1
      clear h1 y1
      go_wp2
      go_ret2
      exact PutPost.of Y1.out rfl rfl B1.out
    · go_enter Tryd.func47, Tryd.ntmps47
      go_wp2_with fail
      clear hW
      (with_reducible refine (HP.out _ HB.out).mono ?_)
      rintro e w1 ⟨A1, n1, c1, rfl, y1, h1⟩
      clear gk gf v0 v1 v2 v3
      have gf := (HG.out.below h1 HG.out.lt).k1
      have B1 := Lib.hid (HB.out.trans (h1.mono HB.out.size))
      have Y1 := Lib.hid y1
      clear h1 y1
      have hl1 : n1 ≤ 2000008 := by have := Y1.out.1; have := HL.out; omega
      go_wp2_with fail
      (with_reducible refine (oth_any _ _ _ _ _ _ Y1.out (Nat.le_refl _) (by omega)).mono ?_)
      rintro e w2 ⟨A2, n2, c2, rfl, y2, _, h2⟩
      have B2 := Lib.hid (B1.out.trans (h2.mono B1.out.size))
      have Y2 := Lib.hid y2
      clear h2 y2
      go_wp2
      go_ret2
      exact PutPost.of Y2.out rfl rfl B2.out
  · have hne : ((fE k u i) != 0) = true := by simpa using he
    have HN := Lib.hid (fR_none l t he)
    go_enter Tryd.func47, Tryd.ntmps47
    go_wp2_with fail
    clear hW
    (with_reducible refine (HP.out _ HB.out).mono ?_)
    rintro e w1 ⟨A1, n1, c1, rfl, y1, h1⟩
    have B1 := Lib.hid (HB.out.trans (h1.mono HB.out.size))
    clear h1 y1
    go_wp2
    go_ret2
    exact PutPost.of Byt.none_ (by rw [HN.out, turn_nil]) rfl B1.out
set_option maxRecDepth 100000 in
set_option maxHeartbeats 2000000 in
theorem rfput_any (k : Int) (f : Bool) (u : Nat) (i : Int) (A : Option Addr) (n c B : Nat) (l : List UInt8) (t : Bool) (w : World) (hu : u ≤ 18446744073709551615) (hi : i ≤ 9223372036854775807) (ha : Byt w B A n l) (hB : B ≤ w.heap.size) (hn : n ≤ 1000000) :
    Calls Tryd.prog 39 #[.agg #[.int .i64 k, .bool f], .agg #[.int .u64 (u : Int), .int .i64 i, .slice A n c, .bool t]] w (PutPost w (turn f (fR k u i l t)) (fE k u i)) := by
  have HP := Lib.hid (fun V (h : Below w.heap.size w V) => rputR_any k u i A n c B l t V hu hi  (ha.below (h.mono hB)) (Nat.le_trans hB h.size) hn)
  have HL := Lib.hid (show (fR k u i l t).length ≤ 2000008 from by have := fR_length k u i l t; have := ha.1; omega)
  clear ha
  generalize hW : (w.alloc (.cells #[.int .i64 k, .bool f] 77)).alloc (.cells #[.int .u64 (u : Int), .int .i64 i, .slice A n c, .bool t] 47) = W
  have hG : Two W w.heap.size (.int .i64 k) (.bool f) := by subst hW; exact (Two.new _ _ _ _).alloc _
  have hF : Four W (w.heap.size + 1) (.int .u64 (u : Int)) (.int .i64 i) (.slice A n c) (.bool t) := by subst hW; have := Four.new (w.alloc (.cells #[.int .i64 k, .bool f] 77)) 47 (.int .u64 (u : Int)) (.int .i64 i) (.slice A n c) (.bool t); rwa [World.size_alloc] at this
  have HB := Lib.hid (show Below w.heap.size w W from by subst hW; exact ((Below.refl _ _).alloc (Nat.le_refl _) _).alloc (by simp) _)
  have HG := Lib.hid hG
  have gk := hG.k0
  have gf := hG.k1
  have v0 := hF.c0
  have v1 := hF.c1
  have v2 := hF.c2
  have v3 := hF.c3
  clear hG hF
  by_cases he : fE k u i = 0
  · rw [he] at HP
    rw [he]
    cases f
    · go_enter Tryd.func39, Tryd.ntmps39
      go_wp2_with fail
      clear hW
      (with_reducible refine (HP.out _ HB.out).mono ?_)
      rintro e w1 ⟨A1, n1, c1, rfl, y1, h1⟩
      clear gk gf v0 v1 v2 v3
      have gf := (HG.out.below h1 HG.out.lt).k1
      have B1 := Lib.hid (HB.out.trans (h1.mono HB.out.size))
      have Y1 := Lib.hid y1
      clear h1 y1
      go_wp2
      go_ret2
      exact PutPost.of Y1.out rfl rfl B1.out
    · go_enter Tryd.func39, Tryd.ntmps39
      go_wp2_with fail
      clear hW
      (with_reducible refine (HP.out _ HB.out).mono ?_)
      rintro e w1 ⟨A1, n1, c1, rfl, y1, h1⟩
      clear gk gf v0 v1 v2 v3
      have gf := (HG.out.below h1 HG.out.lt).k1
      have B1 := Lib.hid (HB.out.trans (h1.mono HB.out.size))
      have Y1 := Lib.hid y1
      clear h1 y1
      have hl1 : n1 ≤ 2000008 := by have := Y1.out.1; have := HL.out; omega
      go_wp2_with fail
      (with_reducible refine (roth_any _ _ _ _ _ _ Y1.out (Nat.le_refl _) (by omega)).mono ?_)
      rintro e w2 ⟨A2, n2, c2, rfl, y2, _, h2⟩
      have B2 := Lib.hid (B1.out.trans (h2.mono B1.out.size))
      have Y2 := Lib.hid y2
      clear h2 y2
      go_wp2
      go_ret2
      exact PutPost.of Y2.out rfl rfl B2.out
  · have hne : ((fE k u i) != 0) = true := by simpa using he
    have HN := Lib.hid (fR_none l t he)
    go_enter Tryd.func39, Tryd.ntmps39
    go_wp2_with fail
    clear hW
    (with_reducible refine (HP.out _ HB.out).mono ?_)
    rintro e w1 ⟨A1, n1, c1, rfl, y1, h1⟩
    have B1 := Lib.hid (HB.out.trans (h1.mono HB.out.size))
    clear h1 y1
    go_wp2
    go_ret2
    exact PutPost.of Byt.none_ (by rw [HN.out, turn_nil]) rfl B1.out
end Go.Proofs.YtofccfbiappgaaaDoor
