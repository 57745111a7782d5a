/-
  The calls at each statement's end of layer 5 (alive): a number that falls.
-/
import Derived.Test.YtknkpmkpcfiefaaDoorFieldPut
import Derived.Test.YtknkpmkpcfiefaaDoorFieldCmp
import Derived.Test.YtknkpmkpcfiefaaDoorFieldTakeB
namespace Go.Proofs.YtknkpmkpcfiefaaDoor
open Go.RowKit

theorem put_5 (w : World) (hT : Tab w) : Calls Tryd.prog 7 #[.agg #[.int .i64 1, .bool true], .agg #[.int .u64 5, .int .i64 0, .slice none 0 0, .bool false]] w (PutPost w [250] 0) :=
  fput_any 1 true 5 0 none 0 0 0 [] false w (by omega) (by omega) hT Byt.none_ (Nat.zero_le _) (by omega)
theorem ftake_5 (A : Option Addr) (c B : Nat) (w : World) (hT : Tab w) (ha : Byt w B A 2 [250, 1]) (hnc : 2 ≤ c) (hB : B ≤ w.heap.size) :
    Calls Tryd.prog 15 #[.agg #[.int .i64 1, .bool true], .slice A 2 c] w fun e w' => ∃ A1 c1 A2 c2, e = .returned (.tuple #[.agg #[.int .u64 5, .int .i64 0, .slice A1 0 c1, .bool false], .slice A2 1 c2, .int .i64 0]) ∧ Below w.heap.size w w' := by
  refine (ftake_any 1 true A 2 c B [250, 1] w hT ha hnc hB (by omega)).mono ?_
  rintro e w' ⟨A1, n1, c1, A2, n2, c2, rfl, y1, y2, hb⟩
  obtain rfl : n1 = 0 := y1.1.symm
  obtain rfl : n2 = 1 := y2.1.symm
  exact ⟨A1, c1, A2, c2, rfl, hb⟩
theorem fcmp_12 (w : World) : Calls Tryd.prog 17 #[.agg #[.int .i64 1, .bool true], .agg #[.int .u64 1, .int .i64 0, .slice none 0 0, .bool false], .agg #[.int .u64 2, .int .i64 0, .slice none 0 0, .bool false]] w fun e w' => e = .returned (.int .i64 1) ∧ Below w.heap.size w w' :=
  fcmp_any 1 true 1 2 0 0 none none 0 0 0 0 0 [] [] false false w Byt.none_ Byt.none_ (Nat.zero_le _)
theorem check_0 (w : World) : Calls Tryd.prog 12 #[.agg #[.int .i64 0, .bool false]] w fun e w' => e = .returned (.int .i64 9) ∧ Below w.heap.size w w' := check_any 0 false w
theorem fsame_5 (A : Option Addr) (c : Nat) (w : World) : Calls Tryd.prog 19 #[.agg #[.int .i64 1, .bool true], .agg #[.int .u64 5, .int .i64 0, .slice A 0 c, .bool false], .agg #[.int .u64 5, .int .i64 0, .slice A 0 c, .bool false]] w fun e w' => e = .returned (.bool true) ∧ Below w.heap.size w w' :=
  fsame_any 1 true 5 5 0 0 A A 0 0 c c 0 [] [] false false w Byt.none_ Byt.none_ (Nat.zero_le _)
theorem bare_5 (A : Option Addr) (c : Nat) (w : World) : Calls Tryd.prog 10 #[.agg #[.int .i64 1, .bool true], .agg #[.int .u64 5, .int .i64 0, .slice A 0 c, .bool false]] w fun e w' => ∃ A1 c1, e = .returned (.agg #[.int .u64 5, .int .i64 0, .slice A1 0 c1, .bool false]) ∧ Below w.heap.size w w' := by
  refine (bare_any 1 true 5 0 A 0 c 0 [] false w Byt.none_ (Nat.zero_le _) (by omega)).mono ?_
  rintro e w' ⟨A1, n1, c1, rfl, y1, _, hb⟩
  obtain rfl : n1 = 0 := y1.1.symm
  exact ⟨A1, c1, rfl, hb⟩

set_option maxRecDepth 100000 in
theorem field_0 (A : Option Addr) (c : Nat) (W : World) : (Instr.field 33 (.agg #[.int .u64 5, .int .i64 0, .slice A 0 c, .bool false]) 0).run Tryd.prog W = .ok (.int .u64 5) W := by kernel_rfl

set_option maxRecDepth 100000 in
set_option maxHeartbeats 4000000 in
theorem alive_any (w : World) (hT : Tab w) : Calls Tryd.prog 6 #[] w fun e w' => e = .returned (.bool true) ∧ Below w.heap.size w w' := by
  have HT := Lib.hid (fun V (h : Below w.heap.size w V) => hT.below h)
  clear hT
  generalize hW : w.alloc (.cells #[.int .i64 1, .bool true] 32) = W
  have HK := Lib.hid (show Two W w.heap.size (.int .i64 1) (.bool true) from by subst hW; exact Two.new _ _ _ _)
  have HB := Lib.hid (show Below w.heap.size w W from by subst hW; exact (Below.refl _ _).alloc (Nat.le_refl _) _)
  have k0 := HK.out.k0
  have k1 := HK.out.k1
  go_enter Tryd.func6, Tryd.ntmps6
  go_wp2_with fail
  clear hW
  (with_reducible refine (put_5 _ (HT.out _ HB.out)).mono ?_)
  rintro e w1 ⟨A1, n1, c1, rfl, y1, h1⟩
  obtain rfl : n1 = 1 := y1.1.symm
  have K1 := Lib.hid (HK.out.below h1 HK.out.lt)
  have B1 := Lib.hid (HB.out.trans (h1.mono HB.out.size))
  have Y1 := Lib.hid y1
  clear h1 y1 k0 k1
  have k0 := K1.out.k0
  have k1 := K1.out.k1
  go_wp2_with fail
  (with_reducible refine (ftake_5 _ _ _ _ (HT.out _ (B1.out.alloc B1.out.size _)) (byt_two w1 5 250 1 (x := 250) (y := 1) rfl rfl) (by omega) (by simp)).mono ?_)
  rintro e w2 ⟨A2, c2, A3, c3, rfl, h2⟩
  have h2' := ((Below.refl w1.heap.size w1).alloc (Nat.le_refl _) (.cells #[.int .u8 250, .int .u8 1] 5)).trans (h2.mono (by simp))
  have K2 := Lib.hid (K1.out.below h2' K1.out.lt)
  have B2 := Lib.hid (B1.out.trans (h2'.mono B1.out.size))
  have Y2 := Lib.hid ((Y1.out.below h2').more h2'.size)
  clear h2 h2' k0 k1
  have k0 : ∀ ob, (w2.alloc ob).cell? ⟨w.heap.size, 0, none⟩ = some (.int .i64 1) := fun ob => (K2.out.alloc ob).k0
  have k1 : ∀ ob, (w2.alloc ob).cell? ⟨w.heap.size, 1, none⟩ = some (.bool true) := fun ob => (K2.out.alloc ob).k1
  obtain ⟨ad, u, rfl, had, hu, hc0⟩ := Y2.out.at_ (k := 0) (by omega)
  obtain rfl : 250 = u := by simpa using hu
  have hd0 : ∀ ob, (w2.alloc ob).cell? ad = some (.int .u8 250) := fun ob => (World.cell?_alloc_lt w2 ob ad had).trans (by simpa [Addr.add] using hc0)
  clear hc0 hu had
  go_wp2_with fail
  generalize hV : w2.alloc (.cells #[.int .u64 5, .int .i64 0, .slice A2 0 c2, .bool false] 33) = V
  have K3 := Lib.hid (show Two V w.heap.size (.int .i64 1) (.bool true) from by subst hV; exact K2.out.alloc _)
  have F3 := Lib.hid (show Four V w2.heap.size (.int .u64 5) (.int .i64 0) (.slice A2 0 c2) (.bool false) from by subst hV; exact Four.new _ _ _ _ _ _)
  have B3 := Lib.hid (show Below w.heap.size w V from by subst hV; exact B2.out.alloc B2.out.size _)
  clear hV
  (with_reducible refine (fcmp_12 _).mono ?_)
  rintro e w4 ⟨rfl, h4⟩
  have K4 := Lib.hid (K3.out.below h4 K3.out.lt)
  have F4 := Lib.hid (F3.out.below h4 F3.out.lt)
  have B4 := Lib.hid (B3.out.trans (h4.mono B3.out.size))
  clear h4 k0 k1 hd0
  go_wp2_with fail
  (with_reducible refine (check_0 _).mono ?_)
  rintro e w5 ⟨rfl, h5⟩
  have K5 := Lib.hid (K4.out.below h5 K4.out.lt)
  have F5 := Lib.hid (F4.out.below h5 F4.out.lt)
  have B5 := Lib.hid (B4.out.trans (h5.mono B4.out.size))
  clear h5
  have k0 := K5.out.k0
  have k1 := K5.out.k1
  have f0 := F5.out.c0
  have f1 := F5.out.c1
  have f2 := F5.out.c2
  have f3 := F5.out.c3
  go_wp2_with fail
  (with_reducible refine (fsame_5 _ _ _).mono ?_)
  rintro e w6 ⟨rfl, h6⟩
  have K6 := Lib.hid (K5.out.below h6 K5.out.lt)
  have F6 := Lib.hid (F5.out.below h6 F5.out.lt)
  have B6 := Lib.hid (B5.out.trans (h6.mono B5.out.size))
  clear h6 k0 k1 f0 f1 f2 f3
  have k0 := K6.out.k0
  have k1 := K6.out.k1
  have f0 := F6.out.c0
  have f1 := F6.out.c1
  have f2 := F6.out.c2
  have f3 := F6.out.c3
  go_wp2_with fail
  (with_reducible refine (bare_5 _ _ _).mono ?_)
  rintro e w7 ⟨A7, c7, rfl, h7⟩
  have hfd := field_0 A7 c7
  have B7 := Lib.hid (B6.out.trans (h7.mono B6.out.size))
  clear h7
  go_wp2
  go_ret
  exact ⟨rfl, B7.out⟩
end Go.Proofs.YtknkpmkpcfiefaaDoor
