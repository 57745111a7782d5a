/-
  One was made, one owner was given, one thing was told: the call at each law's end.
-/
import Derived.Test.YtmjdfppdjdjmcaaOncGet
namespace Go.Proofs.Ytmjdfppdjdjmcaa
open Go.RowKit

set_option maxRecDepth 100000 in
set_option maxHeartbeats 1600000 in
theorem seven (W : World) : Tells 22 #[] 7 (fun _ => False) (fun _ => True) W := by
  refine ⟨fun _ => by kernel_rfl, ?_⟩
  go_enter Try.func22, Try.ntmps22
  go_wp2
  go_ret
  exact ⟨rfl, Kept.refl _ _, trivial⟩

set_option maxRecDepth 100000 in
set_option maxHeartbeats 1600000 in
theorem alive_any (w : World) : Calls Try.prog 11 #[] w fun e w' => e = .returned (.bool true) ∧ Below w.heap.size w w' := by
  generalize hW : ((w.alloc (.cells #[.int .i64 0] 29)).alloc (.cells #[.int .u64 0] 45)).alloc (.cells #[.int .u32 0, .int .i32 0, .int .u32 0, .int .i32 0, .int .i64 0] 62) = W
  have BW := Lib.hid (show Below w.heap.size w W by subst hW; exact (((Below.refl _ _).alloc (Nat.le_refl _) _).alloc (by simp) _).alloc (by simp; omega) _)
  have HA := Lib.hid (show Blk W w.heap.size #[.int .i64 0] by subst hW; exact ((Blk.new w _ _).alloc _).alloc _)
  have HO := Lib.hid (show Blk W (w.heap.size + 1) #[.int .u64 0] by
    subst hW
    have := (Blk.new (w.alloc (.cells #[.int .i64 0] 29)) 45 #[.int .u64 0]).alloc (.cells #[.int .u32 0, .int .i32 0, .int .u32 0, .int .i32 0, .int .i64 0] 62)
    rwa [World.size_alloc] at this)
  have HX := Lib.hid (show Blk W (w.heap.size + 1 + 1) #[.int .u32 0, .int .i32 0, .int .u32 0, .int .i32 0, .int .i64 0] by
    subst hW
    have := Blk.new ((w.alloc (.cells #[.int .i64 0] 29)).alloc (.cells #[.int .u64 0] 45)) 62 #[.int .u32 0, .int .i32 0, .int .u32 0, .int .i32 0, .int .i64 0]
    rwa [World.size_alloc, World.size_alloc] at this)
  go_enter Try.func11, Try.ntmps11
  go_wp2_with fail
  clear hW
  (with_reducible refine (made_any w.heap.size 0 2 W HA.out (by omega) (by omega)).mono ?_)
  rintro e w1 ⟨rfl, h1, k1⟩
  have A1 := Lib.hid (show Blk w1 w.heap.size #[.int .i64 2] from h1)
  have O1 := Lib.hid (k1.blk HO.out (by omega))
  have X1 := Lib.hid (k1.blk HX.out (by omega))
  have Z1 := Lib.hid (BW.out.trans (k1.below (B := w.heap.size) BW.out.size (fun g q => by omega)))
  clear h1 k1
  have C0 := Lib.hid (count_any w.heap.size 2 w1 (A1.out.cell 0))
  go_wp2_with fail
  (with_reducible refine C0.out.mono ?_)
  rintro e w' ⟨rfl, rfl⟩
  go_wp2_with fail
  (with_reducible refine (next_any (w.heap.size + 1) 0 w' O1.out (by omega) (by omega)).mono ?_)
  rintro e w2 ⟨rfl, h2, k2⟩
  have O2 := Lib.hid (show Blk w2 (w.heap.size + 1) #[.int .u64 1] from h2)
  have X2 := Lib.hid (k2.blk X1.out (by omega))
  have Z2 := Lib.hid (Z1.out.trans (k2.below (B := w.heap.size) Z1.out.size (fun g q => by omega)))
  clear h2 k2
  have C1 := Lib.hid (last_any (w.heap.size + 1) 1 w2 (O2.out.cell 0))
  go_wp2_with fail
  (with_reducible refine C1.out.mono ?_)
  rintro e w' ⟨rfl, rfl⟩
  go_wp2_with fail
  (with_reducible refine (get_first (w.heap.size + 1 + 1) 22 #[] 7 (fun _ => False) (fun _ => True) _ 0 w' (fun _ q => q.elim) X2.out (fun V _ => seven V) (fun _ _ _ _ => trivial)).mono ?_)
  rintro e w3 ⟨rfl, h3, k3, _⟩
  have X3 := Lib.hid h3
  have Z3 := Lib.hid (Z2.out.trans (k3.below (B := w.heap.size) Z2.out.size (fun g q => by rcases q with q | q; omega; exact q.elim)))
  clear h3 k3
  have C2 := Lib.hid (told_any (w.heap.size + 1 + 1) 2 w3 (X3.out.cell 3))
  go_wp2_with fail
  (with_reducible refine C2.out.mono ?_)
  rintro e w' ⟨rfl, rfl⟩
  go_wp2
  go_ret
  exact ⟨rfl, Z3.out⟩
end Go.Proofs.Ytmjdfppdjdjmcaa
