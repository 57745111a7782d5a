/-
  Package small: New, Set, Drop, Copy.
-/
import Derived.Test.YtgelmhldicmmdaaGreatSmRead
import Derived.Test.YtgelmhldicmmdaaGreatSlIns
import Derived.Laws.MakeOwn
namespace Go.Proofs.YtgelmhldicmmdaaGreat
open Go.RowKit

section
variable (w : World)
set_option maxRecDepth 100000 in
theorem sset_nil (b : Int) (x : Th) : Calls Tryz.prog 102 #[.pointer none, .int .u8 b, .pointer x] w fun e w' => e = .returned (.int .i64 2) ∧ w' = w := by
  go_enter Tryz.func102, Tryz.ntmps102
  go_wp2_with (go_at_call 76; refine (nobodys_nil _).mono ?_; rintro e w' ⟨rfl, rfl⟩)
  go_ret
  exact ⟨rfl, rfl⟩
set_option maxRecDepth 100000 in
theorem sdrop_nil (b : Int) : Calls Tryz.prog 96 #[.pointer none, .int .u8 b] w fun e w' => e = .returned (.int .i64 2) ∧ w' = w := by
  go_enter Tryz.func96, Tryz.ntmps96
  go_wp2_with (go_at_call 76; refine (nobodys_nil _).mono ?_; rintro e w' ⟨rfl, rfl⟩)
  go_ret
  exact ⟨rfl, rfl⟩
set_option maxRecDepth 100000 in
theorem scopy_nil : Calls Tryz.prog 67 #[.pointer none] w fun e w' => e = .returned (.pointer none) ∧ w' = w := by
  go_enter Tryz.func67, Tryz.ntmps67
  go_wp2_with (go_at_call 76; refine (nobodys_nil _).mono ?_; rintro e w' ⟨rfl, rfl⟩)
  go_ret
  exact ⟨rfl, rfl⟩
set_option maxRecDepth 100000 in
theorem sget_nil (b : Int) : Calls Tryz.prog 97 #[.pointer none, .int .u8 b] w fun e w' => e = .returned (.tuple #[ev none, .bool false]) ∧ w' = w := by
  go_enter Tryz.func97, Tryz.ntmps97
  go_wp2_with (go_at_call 103; refine (place_nil _ _).mono ?_; rintro e w' ⟨rfl, rfl⟩)
  go_ret2
  exact ⟨rfl, rfl⟩
set_option maxRecDepth 100000 in
theorem snext_nil (a : Int) : Calls Tryz.prog 99 #[.pointer none, .int .i64 a] w fun e w' => e = .returned (entV none) ∧ w' = w := by
  by_cases h1 : 255 < a
  all_goals
    go_enter Tryz.func99, Tryz.ntmps99
    go_wp2_with (first | (go_at_call 103; refine (place_nil _ _).mono ?_; rintro e w' ⟨rfl, rfl⟩) | (go_at_call 105; refine (at_nil _ _).mono ?_; rintro e w' ⟨rfl, rfl⟩))
  all_goals
    go_ret3
    exact ⟨rfl, rfl⟩
set_option maxRecDepth 100000 in
theorem sprev_nil (a : Int) : Calls Tryz.prog 100 #[.pointer none, .int .i64 a] w fun e w' => e = .returned (entV none) ∧ w' = w := by
  by_cases h1 : a < 0
  all_goals
    go_enter Tryz.func100, Tryz.ntmps100
    go_wp2_with (first | (go_at_call 103; refine (place_nil _ _).mono ?_; rintro e w' ⟨rfl, rfl⟩) | (go_at_call 105; refine (at_nil _ _).mono ?_; rintro e w' ⟨rfl, rfl⟩))
  all_goals
    go_ret3
    exact ⟨rfl, rfl⟩
end

section
variable {w : World} {g c : Nat} {es : List Ent} {A : Option Addr}
set_option maxRecDepth 100000 in
/-- One that New did not give. -/
theorem sset_zero (h : Rd w g 0 es A c) (b : Int) (x : Th) : Calls Tryz.prog 102 #[.pointer (some ⟨g, 0, none⟩), .int .u8 b, .pointer x] w fun e w' => e = .returned (.int .i64 2) ∧ w' = w := by
  have C := Lib.hid (nobodys_any h)
  clear h
  go_enter Tryz.func102, Tryz.ntmps102
  go_wp2_with fail
  (with_reducible refine C.out.mono ?_)
  rintro e w' ⟨rfl, rfl⟩
  go_wp2
  go_ret
  exact ⟨rfl, rfl⟩
set_option maxRecDepth 100000 in
theorem sdrop_zero (h : Rd w g 0 es A c) (b : Int) : Calls Tryz.prog 96 #[.pointer (some ⟨g, 0, none⟩), .int .u8 b] w fun e w' => e = .returned (.int .i64 2) ∧ w' = w := by
  have C := Lib.hid (nobodys_any h)
  clear h
  go_enter Tryz.func96, Tryz.ntmps96
  go_wp2_with fail
  (with_reducible refine C.out.mono ?_)
  rintro e w' ⟨rfl, rfl⟩
  go_wp2
  go_ret
  exact ⟨rfl, rfl⟩
set_option maxRecDepth 100000 in
theorem scopy_zero (h : Rd w g 0 es A c) : Calls Tryz.prog 67 #[.pointer (some ⟨g, 0, none⟩)] w fun e w' => e = .returned (.pointer none) ∧ w' = w := by
  have C := Lib.hid (nobodys_any h)
  clear h
  go_enter Tryz.func67, Tryz.ntmps67
  go_wp2_with fail
  (with_reducible refine C.out.mono ?_)
  rintro e w' ⟨rfl, rfl⟩
  go_wp2
  go_ret
  exact ⟨rfl, rfl⟩
end

set_option maxRecDepth 100000 in
theorem int_info : (Tryz.prog.info? 46).map (fun i => (i.zero, i.size, i.bytes)) = some (some (.pointer none), 1, 8) := by kernel_rfl
set_option maxRecDepth 100000 in
/-- make([]int, 0, k). -/
theorem make_things (k : Nat) (hk : k ≤ 16) (w : World) :
    (Instr.makeSlice 33 (.int .i64 0) (.int .i64 (k : Int))).run Tryz.prog w = .ok (.slice (some ⟨w.heap.size, 0, none⟩) 0 k) (w.alloc (.cells ((List.replicate k (none : Th)).map ev).toArray 46)) := by
  obtain ⟨i0, hi0, hz0, hz1, hz2⟩ := info_parts int_info
  have h := run_make (P := Tryz.prog) w 33 46 i0 (.pointer none) Tryz.underlying33 hi0 hz0 .i64 .i64 (0 : Int) (k : Int) (by omega) (by omega) (by rw [hz2]; omega) (by omega)
  rw [Int.toNat_natCast] at h
  have e1 : madeCells (.pointer none : Value).cells (k * i0.size) = ((List.replicate k (none : Th)).map ev).toArray := by
    rw [hz1, Nat.mul_one]
    apply Array.ext'
    simp [madeCells, Value.cells, Nat.mod_one, List.map_const']
  rw [e1] at h
  exact h

theorem Sm.first (w : World) (room : Nat) (h1 : 1 ≤ room) (h2 : room ≤ 16) :
    Sm ((w.alloc (.cells ((List.replicate room (none : Th)).map ev).toArray 46)).alloc (.cells #[.int .i64 (room : Int), .int .u8 0, .int .u8 0, .int .u8 0, .int .u8 0, .int .u8 0, .int .u8 0, .int .u8 0, .int .u8 0, .int .u8 0, .int .u8 0, .int .u8 0, .int .u8 0, .int .u8 0, .int .u8 0, .int .u8 0, .int .u8 0, .slice (some ⟨w.heap.size, 0, none⟩) 0 room] 122)) (w.heap.size + 1) w.heap.size room [] := by
  refine ⟨Up.nil, Nat.zero_le _, h1, h2, by omega, ⟨List.replicate 16 0, rfl, rfl, ?_⟩, ⟨List.replicate room (none : Th), by simp, rfl, ?_⟩⟩
  · have := Blk.new (w.alloc (.cells ((List.replicate room (none : Th)).map ev).toArray 46)) 122 #[.int .i64 (room : Int), .int .u8 0, .int .u8 0, .int .u8 0, .int .u8 0, .int .u8 0, .int .u8 0, .int .u8 0, .int .u8 0, .int .u8 0, .int .u8 0, .int .u8 0, .int .u8 0, .int .u8 0, .int .u8 0, .int .u8 0, .int .u8 0, .slice (some ⟨w.heap.size, 0, none⟩) 0 room]
    rw [World.size_alloc] at this
    exact this
  · exact (Blk.new w _ _).alloc _

set_option maxRecDepth 100000 in
theorem snew_no (w : World) (room : Int) (h : room < 1 ∨ 16 < room) : Calls Tryz.prog 73 #[.int .i64 room] w fun e w' => e = .returned (.tuple #[.pointer none, .int .i64 1]) ∧ w' = w := by
  by_cases h1 : room < 1
  · go_enter Tryz.func73, Tryz.ntmps73
    go_wp2
    go_ret2
    exact ⟨rfl, rfl⟩
  · have h2 : 16 < room := by omega
    go_enter Tryz.func73, Tryz.ntmps73
    go_wp2
    go_ret2
    exact ⟨rfl, rfl⟩
set_option maxRecDepth 100000 in
theorem snew_yes (w : World) (room : Nat) (h1 : 1 ≤ room) (h2 : room ≤ 16) : Calls Tryz.prog 73 #[.int .i64 (room : Int)] w fun e w' =>
    e = .returned (.tuple #[.pointer (some ⟨w.heap.size + 1, 0, none⟩), .int .i64 0]) ∧ Sm w' (w.heap.size + 1) w.heap.size room [] ∧ Below w.heap.size w w' := by
  have HE := Lib.hid (Sm.first w room h1 h2)
  have hm := make_things room h2 w
  generalize hcs : ((List.replicate room (none : Th)).map ev).toArray = cs at hm HE
  clear hcs
  have q1 : ¬ ((room : Int) < 1) := by omega
  have q2 : ¬ ((16 : Int) < (room : Int)) := by omega
  go_enter Tryz.func73, Tryz.ntmps73
  go_wp2
  go_ret2
  exact ⟨rfl, HE.out, ((Below.refl _ _).alloc (Nat.le_refl _) _).alloc (by simp) _⟩
end Go.Proofs.YtgelmhldicmmdaaGreat
