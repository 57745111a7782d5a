/-
  find.Get, find.Has, find.Steps.
-/
import Derived.Test.YtfmkhafpbfmadaaGreatFnLook
namespace Go.Proofs.YtfmkhafpbfmadaaGreat
open Go.RowKit

/-- What Get has heard: three boxes from block b on. -/
def getJ (b : Nat) (A : Option Addr) (n c : Nat) (l : List (Nat × Int)) (V : World) : Prop :=
  Blk V b #[.slice A n c] ∧ Blk V (b + 1) #[.int .u64 (getF l n).1] ∧ Blk V (b + 2) #[.bool (getF l n).2]
theorem getF_snoc (l : List (Nat × Int)) (a : Nat) (v : Int) (n : Nat) : getF (l ++ [(a, v)]) n = if a = n then (v, true) else getF l n := by
  unfold getF
  rw [List.foldl_append]
  rfl
theorem getJ.kept {b : Nat} {A : Option Addr} {n c : Nat} {l : List (Nat × Int)} {V V' : World} (h : getJ b A n c l V) (hb : Below V.heap.size V V') : getJ b A n c l V' :=
  ⟨h.1.below hb h.1.lt, h.2.1.below hb h.2.1.lt, h.2.2.below hb h.2.2.lt⟩
set_option maxRecDepth 100000 in
theorem fget1_any {b : Nat} {A : Option Addr} {n c : Nat} {l : List (Nat × Int)} {V : World} (h : getJ b A n c l V) (a : Nat) (v : Int) :
    Calls Tryz.prog 31 #[.int .i64 (a : Int), .int .u64 v, .pointer (some ⟨b, 0, none⟩), .pointer (some ⟨b + 1, 0, none⟩), .pointer (some ⟨b + 2, 0, none⟩)] V fun e V' => e = .returned (.tuple #[]) ∧ getJ b A n c (l ++ [(a, v)]) V' ∧ Below b V V' := by
  obtain ⟨h1, h2, h3⟩ := h
  have c1 := h1.cell 0
  have HV := Lib.hid (And.intro h1 (And.intro h2 h3))
  obtain ⟨g1, hg1⟩ : ∃ x, (getF l n).1 = x := ⟨_, rfl⟩
  obtain ⟨g2, hg2⟩ : ∃ x, (getF l n).2 = x := ⟨_, rfl⟩
  rw [hg1, hg2] at HV
  rw [hg1] at h2
  rw [hg2] at h3
  have c2 := h2.cell 0
  have c3 := h3.cell 0
  have z2 := h2.fz 0
  have z3 := h3.fz 0
  have HG := Lib.hid (And.intro hg1 hg2)
  clear h1 h2 h3 hg1 hg2
  go_enter Tryz.func31, Tryz.ntmps31
  by_cases ha : a = n
  · have he : ((a : Int) == (n : Int)) = true := by rw [ha]; exact beq_self_eq_true _
    have hn3 : (⟨b + 1, 0, none⟩ : Addr) ≠ ⟨b + 2, 0, none⟩ := fun e => by injection e with e; omega
    have HA := Lib.hid ha
    clear ha
    go_wp2
    go_end0
    obtain ⟨q1, q2, q3⟩ := HV.out
    have k1 : Kept (· = b + 1) V _ := Kept.set_ V ⟨b + 1, 0, none⟩ (.int .u64 v) rfl
    have p2 := q2.set_ 0 (.int .u64 v)
    have p1 := k1.blk q1 (fun e => by omega)
    have p3 := k1.blk q3 (fun e => by omega)
    have k2 : Kept (· = b + 2) _ _ := Kept.set_ (V.setCell ⟨b + 1, 0, none⟩ (.int .u64 v)) ⟨b + 2, 0, none⟩ (.bool true) rfl
    have r3 := p3.set_ 0 (.bool true)
    have r1 := k2.blk p1 (fun e => by omega)
    have r2 := k2.blk p2 (fun e => by omega)
    refine ⟨rfl, ?_, (k1.below (by have := q1.lt; omega) (fun i e => by omega)).trans (k2.below (by have := p1.lt; omega) (fun i e => by omega))⟩
    unfold getJ
    rw [getF_snoc, if_pos HA.out]
    exact ⟨r1, by simpa using r2, by simpa using r3⟩
  · have he : ((a : Int) == (n : Int)) = false := by rw [beq_eq_false_iff_ne]; omega
    have HA := Lib.hid ha
    clear ha
    go_wp2
    go_end0
    refine ⟨rfl, ?_, Below.refl _ _⟩
    unfold getJ
    rw [getF_snoc, if_neg HA.out, HG.out.1, HG.out.2]
    exact HV.out
set_option maxRecDepth 100000 in
set_option maxHeartbeats 1000000 in
theorem fget_any (t : Option (Nn × Fo)) (p A : Option Addr) (n c : Nat) (key : List UInt8) (w : World) (ht : OTre w (· < w.heap.size) t p) (hk : Byt w w.heap.size A n key) (hnc : n ≤ c) (hn : n ≤ 1000000) :
    Calls Tryz.prog 11 #[.pointer p, .slice A n c] w fun e w' => e = .returned (.tuple #[.int .u64 (getF ((ogo t key 0).filterMap id) n).1, .bool (getF ((ogo t key 0).filterMap id) n).2]) ∧ Below w.heap.size w w' := by
  obtain ⟨W, hW⟩ : ∃ W, ((w.alloc (.cells #[.slice A n c] 23)).alloc (.cells #[.int .u64 0] 29)).alloc (.cells #[.bool false] 4) = W := ⟨_, rfl⟩
  have hb : Below w.heap.size w W := by rw [← hW]; exact (((Below.refl _ _).alloc (Nat.le_refl _) _).alloc (by simp) _).alloc (by simp; omega) _
  have hj : getJ w.heap.size A n c [] W := by
    rw [← hW]
    refine ⟨((Blk.new w _ _).alloc _).alloc _, ?_, ?_⟩
    · have := Blk.new (w.alloc (.cells #[.slice A n c] 23)) 29 #[.int .u64 0]
      rw [World.size_alloc] at this
      exact this.alloc _
    · have := Blk.new ((w.alloc (.cells #[.slice A n c] 23)).alloc (.cells #[.int .u64 0] 29)) 4 #[.bool false]
      simp only [World.size_alloc] at this
      exact this
  have hsz : W.heap.size = w.heap.size + 3 := by rw [← hW]; simp
  have hears : Hears w.heap.size W 31 #[.pointer (some ⟨w.heap.size, 0, none⟩), .pointer (some ⟨w.heap.size + 1, 0, none⟩), .pointer (some ⟨w.heap.size + 2, 0, none⟩)] (ogo t key 0) (getJ w.heap.size A n c) :=
    ⟨fun xs V => Tryz.call31 xs V, fun l V V' h _ hV => h.kept hV, fun pre post a v V _ h _ _ => by
      rw [List.filterMap_append]
      exact fget1_any h a v⟩
  have hlook := flook_any w.heap.size _ _ t p A n c key (getJ w.heap.size A n c) W (by omega) (otre_on ht hb) (hk.below hb) hnc hn hears hj
  obtain ⟨L, hL⟩ : ∃ L, (ogo t key 0).filterMap id = L := ⟨_, rfl⟩
  rw [hL] at hlook ⊢
  have HL := Lib.hid hlook
  have HW := Lib.hid hW
  have HB := Lib.hid hb
  clear hears hj hb ht hk hW hlook hL
  go_enter Tryz.func11, Tryz.ntmps11
  go_wp2_with fail
  rw [HW.out]
  (with_reducible refine HL.out.mono ?_)
  rintro e w1 ⟨rfl, ⟨_, j2, j3⟩, b1⟩
  have c2 := j2.cell 0
  have c3 := j3.cell 0
  have B1 := Lib.hid (HB.out.trans b1)
  clear j2 j3 b1 HL
  go_wp2_with fail
  go_quiet (fail)
  go_wp2
  go_ret2
  exact ⟨rfl, B1.out.trans (Still.below (Still.drewN _ _) _)⟩
set_option maxRecDepth 100000 in
theorem fhas_any (t : Option (Nn × Fo)) (p A : Option Addr) (n c : Nat) (key : List UInt8) (w : World) (ht : OTre w (· < w.heap.size) t p) (hk : Byt w w.heap.size A n key) (hnc : n ≤ c) (hn : n ≤ 1000000) :
    Calls Tryz.prog 17 #[.pointer p, .slice A n c] w fun e w' => e = .returned (.bool (getF ((ogo t key 0).filterMap id) n).2) ∧ Below w.heap.size w w' := by
  have HG := Lib.hid (fget_any t p A n c key w ht hk hnc hn)
  clear ht hk
  go_enter Tryz.func17, Tryz.ntmps17
  go_wp2_with fail
  (with_reducible refine HG.out.mono ?_)
  rintro e w1 ⟨rfl, b1⟩
  have B1 := Lib.hid b1
  clear b1 HG
  go_wp2
  go_ret
  exact ⟨rfl, B1.out⟩
set_option maxRecDepth 100000 in
theorem fsteps1_any (a : Nat) (v : Int) (V : World) : Calls Tryz.prog 36 #[.int .i64 (a : Int), .int .u64 v] V fun e V' => e = .returned (.tuple #[]) ∧ V' = V := by
  go_enter Tryz.func36, Tryz.ntmps36
  go_wp2
  go_end0
  exact ⟨rfl, rfl⟩
set_option maxRecDepth 100000 in
theorem fsteps_any (t : Option (Nn × Fo)) (p A : Option Addr) (n c : Nat) (key : List UInt8) (w : World) (ht : OTre w (· < w.heap.size) t p) (hk : Byt w w.heap.size A n key) (hnc : n ≤ c) (hn : n ≤ 1000000) :
    Calls Tryz.prog 19 #[.pointer p, .slice A n c] w fun e w' => e = .returned (.int .i64 ((ogo t key 0).length : Int)) ∧ Below w.heap.size w w' := by
  have hears : Hears w.heap.size w 36 #[] (ogo t key 0) (fun _ _ => True) :=
    ⟨fun xs V => Tryz.call36 xs V, fun l V V' h _ hV => trivial, fun pre post a v V _ h _ _ => by
      refine (fsteps1_any a v V).mono ?_
      rintro e V' ⟨rfl, rfl⟩
      exact ⟨rfl, trivial, Below.refl _ _⟩⟩
  have HL := Lib.hid (flook_any w.heap.size _ _ t p A n c key (fun _ _ => True) w (Nat.le_refl _) ht hk hnc hn hears trivial)
  clear hears ht hk
  go_enter Tryz.func19, Tryz.ntmps19
  go_wp2_with fail
  (with_reducible refine HL.out.mono ?_)
  rintro e w1 ⟨rfl, _, b1⟩
  have B1 := Lib.hid b1
  clear b1 HL
  go_wp2
  go_ret
  exact ⟨rfl, B1.out⟩
end Go.Proofs.YtfmkhafpbfmadaaGreat
