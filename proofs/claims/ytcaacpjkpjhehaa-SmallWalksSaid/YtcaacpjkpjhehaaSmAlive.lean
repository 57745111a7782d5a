/-
  A row of room 1 takes one, and no other: the call at each law's end.
-/
import Derived.Test.YtcaacpjkpjhehaaSmCopy
namespace Go.Proofs.Ytcaacpjkpjhehaa
open Go.RowKit

set_option maxHeartbeats 1000000 in
set_option maxRecDepth 100000 in
theorem salive_any (w : World) : Calls Try.prog 8 #[] w fun e w' => e = .returned (.bool true) ∧ Below w.heap.size w w' := by
  have C1 := Lib.hid (show Calls Try.prog 6 #[.int .i64 1] w fun e w' =>
    e = .returned (.tuple #[.pointer (some ⟨w.heap.size + 1, 0, none⟩), .int .i64 0]) ∧ Sm w' (w.heap.size + 1) w.heap.size 1 [] ∧ Below w.heap.size w w' from snew_yes w 1 (by omega) (by omega))
  have C2 := Lib.hid (fun (V : World) (h : Sm V (w.heap.size + 1) w.heap.size 1 []) => (show Calls Try.prog 11 #[.pointer (some ⟨w.heap.size + 1, 0, none⟩), .int .u8 7, .int .i64 5] V fun e w' =>
    e = .returned (.int .i64 0) ∧ Sm w' (w.heap.size + 1) w.heap.size 1 [(7, 5)] ∧ Kept (fun k => k = w.heap.size + 1 ∨ k = w.heap.size) V w' from sset_any h 7 5 7 rfl))
  have C3 := Lib.hid (fun (V : World) (h : Sm V (w.heap.size + 1) w.heap.size 1 [(7, 5)]) => (show Calls Try.prog 11 #[.pointer (some ⟨w.heap.size + 1, 0, none⟩), .int .u8 8, .int .i64 1] V fun e w' =>
    e = .returned (.int .i64 10) ∧ Sm w' (w.heap.size + 1) w.heap.size 1 [(7, 5)] ∧ Kept (fun k => k = w.heap.size + 1 ∨ k = w.heap.size) V w' from sset_any h 8 1 8 rfl))
  have C4 := Lib.hid (fun (V : World) (h : Sm V (w.heap.size + 1) w.heap.size 1 [(7, 5)]) => (show Calls Try.prog 16 #[.pointer (some ⟨w.heap.size + 1, 0, none⟩), .int .u8 7] V fun e w' => e = .returned (.tuple #[.int .i64 5, .bool true]) ∧ Still V w' from sget_z h 7 7 rfl))
  have C5 := Lib.hid (fun (V : World) (h : Sm V (w.heap.size + 1) w.heap.size 1 [(7, 5)]) => (show Calls Try.prog 15 #[.pointer (some ⟨w.heap.size + 1, 0, none⟩), .int .i64 0] V fun e w' => e = .returned (.tuple #[.int .u8 7, .int .i64 5, .bool true]) ∧ Still V w' from snext_any h.rd 0 (by omega)))
  have C6 := Lib.hid (fun (V : World) (h : Sm V (w.heap.size + 1) w.heap.size 1 [(7, 5)]) => (show Calls Try.prog 18 #[.pointer (some ⟨w.heap.size + 1, 0, none⟩)] V fun e w' => e = .returned (.int .i64 1) ∧ w' = V from len_any h.rd))
  have C7 := Lib.hid (fun (V : World) (h : Sm V (w.heap.size + 1) w.heap.size 1 [(7, 5)]) => (show Calls Try.prog 19 #[.pointer (some ⟨w.heap.size + 1, 0, none⟩)] V fun e w' => e = .returned (.int .i64 1) ∧ w' = V from room_any h.rd))
  have C8 := Lib.hid (fun (V : World) (h : Sm V (w.heap.size + 1) w.heap.size 1 [(7, 5)]) => scopy_any h)
  have C9 := Lib.hid (fun (V : World) (g t : Nat) (h : Sm V g t 1 [(7, 5)]) => (show Calls Try.prog 18 #[.pointer (some ⟨g, 0, none⟩)] V fun e w' => e = .returned (.int .i64 1) ∧ w' = V from len_any h.rd))
  go_enter Try.func8, Try.ntmps8
  go_wp2_with fail
  (with_reducible refine C1.out.mono ?_)
  rintro e w1 ⟨rfl, h1, b1⟩
  have H1 := Lib.hid h1
  have B1 := Lib.hid b1
  clear h1 b1
  go_wp2_with fail
  (with_reducible refine (C2.out _ H1.out).mono ?_)
  rintro e w2 ⟨rfl, h2, k2⟩
  have H2 := Lib.hid h2
  have B2 := Lib.hid (B1.out.trans (k2.below (B := w.heap.size) B1.out.size (fun q hq => by omega)))
  clear h2 k2
  go_wp2_with fail
  (with_reducible refine (C3.out _ H2.out).mono ?_)
  rintro e w3 ⟨rfl, h3, k3⟩
  have H3 := Lib.hid h3
  have B3 := Lib.hid (B2.out.trans (k3.below (B := w.heap.size) B2.out.size (fun q hq => by omega)))
  clear h3 k3
  go_wp2_with fail
  (with_reducible refine (C4.out _ H3.out).mono ?_)
  rintro e w4 ⟨rfl, s4⟩
  have H4 := Lib.hid (H3.out.still s4)
  have B4 := Lib.hid (B3.out.trans (s4.below w.heap.size))
  clear s4
  go_wp2_with fail
  (with_reducible refine (C5.out _ H4.out).mono ?_)
  rintro e w5 ⟨rfl, s5⟩
  have H5 := Lib.hid (H4.out.still s5)
  have B5 := Lib.hid (B4.out.trans (s5.below w.heap.size))
  clear s5
  go_wp2_with fail
  (with_reducible refine (C6.out _ H5.out).mono ?_)
  rintro e w' ⟨rfl, rfl⟩
  go_wp2_with fail
  (with_reducible refine (C7.out _ H5.out).mono ?_)
  rintro e w' ⟨rfl, rfl⟩
  go_wp2_with fail
  (with_reducible refine (C8.out _ H5.out).mono ?_)
  rintro e w6 ⟨rfl, h6, b6⟩
  have H6 := Lib.hid h6
  have B6 := Lib.hid (B5.out.trans (b6.mono B5.out.size))
  clear h6 b6
  go_wp2_with fail
  (with_reducible refine (C9.out _ _ _ H6.out).mono ?_)
  rintro e w' ⟨rfl, rfl⟩
  go_wp2
  go_ret
  exact ⟨rfl, B6.out⟩
end Go.Proofs.Ytcaacpjkpjhehaa
