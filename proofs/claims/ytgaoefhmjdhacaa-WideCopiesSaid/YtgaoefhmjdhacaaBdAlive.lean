/-
  A board of 48 takes one thing: the call at each law's end.
-/
import Derived.Test.YtgaoefhmjdhacaaBdCopy
namespace Go.Proofs.Ytgaoefhmjdhacaa
open Go.RowKit

/-- A board is in blocks from B on. -/
theorem BdPost.on {w w' : World} {g B : Nat} {v : Value} {room : Nat} {es : List Ent} {u : Nat} (h : BdPost w w' g v room es u) (hg : B ≤ g) (hv : ∀ i, v.ownBlock = some i → B ≤ i) (hB : B ≤ w.heap.size) :
    ∃ v' u', Bd w' g v' room es u' ∧ (∀ i, v'.ownBlock = some i → B ≤ i) ∧ Below B w w' ∧ u' ≤ max u es.length := by
  obtain ⟨v', u', h1, h2, h3, h4⟩ := h
  refine ⟨v', u', h1, fun i hi => ?_, h2.below hB (fun i hi => ?_), h4⟩
  · rcases h3 i hi with q | q
    · exact hv i q
    · omega
  · rcases hi with q | q
    · omega
    · exact hv i q

set_option maxHeartbeats 1000000 in
set_option maxRecDepth 100000 in
theorem walive_any (w : World) : Calls Try.prog 8 #[] w fun e w' => e = .returned (.bool true) ∧ Below w.heap.size w w' := by
  have C1 := Lib.hid (show Calls Try.prog 6 #[.int .i64 48] w fun e w' =>
    e = .returned (.tuple #[.pointer (some ⟨w.heap.size, 0, none⟩), .int .i64 0]) ∧ Bd w' w.heap.size (.slice none 0 0) 48 [] 0 ∧ Below w.heap.size w w' from wnew_yes w 48 (Or.inl rfl))
  have C2 := Lib.hid (fun (V : World) (h : Bd V w.heap.size (.slice none 0 0) 48 [] 0) => (show Calls Try.prog 11 #[.pointer (some ⟨w.heap.size, 0, none⟩), .int .u8 7, .int .i64 5] V fun e w' =>
    e = .returned (.int .i64 0) ∧ BdPost V w' w.heap.size (.slice none 0 0) 48 [(7, 5)] 0 from wset_any h (by omega) 7 5 7 rfl))
  have C4 := Lib.hid (fun (V : World) (v : Value) (u : Nat) (h : Bd V w.heap.size v 48 [(7, 5)] u) => (show Calls Try.prog 14 #[.pointer (some ⟨w.heap.size, 0, none⟩), .int .u8 7] V fun e w' => e = .returned (.tuple #[.int .i64 5, .bool true]) ∧ Still V w' from wget_z h 7 7 rfl))
  have C5 := Lib.hid (fun (V : World) (v : Value) (u : Nat) (h : Bd V w.heap.size v 48 [(7, 5)] u) => (show Calls Try.prog 19 #[.pointer (some ⟨w.heap.size, 0, none⟩), .int .i64 255] V fun e w' => e = .returned (.tuple #[.int .u8 7, .int .i64 5, .bool true]) ∧ Still V w' from wprev_any h 255 (by omega)))
  have C6 := Lib.hid (fun (V : World) (g : Nat) (v : Value) (u : Nat) (h : Bd V g v 48 [(7, 5)] u) => (show Calls Try.prog 13 #[.pointer (some ⟨g, 0, none⟩)] V fun e w' => e = .returned (.int .i64 1) ∧ Still V w' from wlen_any h))
  have C7 := Lib.hid (fun (V : World) (v : Value) (u : Nat) (h : Bd V w.heap.size v 48 [(7, 5)] u) => (show Calls Try.prog 20 #[.pointer (some ⟨w.heap.size, 0, none⟩)] V fun e w' => e = .returned (.int .i64 48) ∧ w' = V from wroom_any h))
  have C7' := Lib.hid (fun (V : World) (v : Value) (h : Bd V w.heap.size v 48 [(7, 5)] 1) => (show Calls Try.prog 15 #[.pointer (some ⟨w.heap.size, 0, none⟩)] V fun e w' => e = .returned (.int .i64 1) ∧ w' = V from wused_any h))
  have C8 := Lib.hid (fun (V : World) (v : Value) (u : Nat) (h : Bd V w.heap.size v 48 [(7, 5)] u) => wcopy_any h (by omega))
  go_enter Try.func8, Try.ntmps8
  go_wp2_with fail
  (with_reducible refine C1.out.mono ?_)
  rintro e w1 ⟨rfl, h1, b1⟩
  have H1 := Lib.hid h1
  have B1 := Lib.hid b1
  clear h1 b1
  go_wp2_with fail
  (with_reducible refine (C2.out _ H1.out).mono ?_)
  rintro e w2 ⟨rfl, h2⟩
  obtain ⟨v, u, h2, _, b2, hu⟩ := h2.on (B := w.heap.size) (Nat.le_refl _) (fun i hi => by simp [Value.ownBlock] at hi) B1.out.size
  obtain rfl : u = 1 := by have := h2.few; simp at this hu; omega
  have H2 := Lib.hid h2
  have B2 := Lib.hid (B1.out.trans b2)
  clear h2 b2 hu
  go_wp2_with fail
  (with_reducible refine (C4.out _ _ _ H2.out).mono ?_)
  rintro e w4 ⟨rfl, s4⟩
  have H4 := Lib.hid (H2.out.still s4)
  have B4 := Lib.hid (B2.out.trans (s4.below w.heap.size))
  clear s4
  go_wp2_with fail
  (with_reducible refine (C5.out _ _ _ H4.out).mono ?_)
  rintro e w5 ⟨rfl, s5⟩
  have H5 := Lib.hid (H4.out.still s5)
  have B5 := Lib.hid (B4.out.trans (s5.below w.heap.size))
  clear s5
  go_wp2_with fail
  (with_reducible refine (C6.out _ _ _ _ H5.out).mono ?_)
  rintro e w6 ⟨rfl, s6⟩
  have H6 := Lib.hid (H5.out.still s6)
  have B6 := Lib.hid (B5.out.trans (s6.below w.heap.size))
  clear s6
  go_wp2_with fail
  (with_reducible refine (C7.out _ _ _ H6.out).mono ?_)
  rintro e w' ⟨rfl, rfl⟩
  go_wp2_with fail
  (with_reducible refine (C7'.out _ _ H6.out).mono ?_)
  rintro e w' ⟨rfl, rfl⟩
  go_wp2_with fail
  (with_reducible refine (C8.out _ _ _ H6.out).mono ?_)
  rintro e w7 ⟨v', rfl, h7, b7, _⟩
  have H7 := Lib.hid h7
  have B7 := Lib.hid (B6.out.trans (b7.mono B6.out.size))
  clear h7 b7
  go_wp2_with fail
  (with_reducible refine (C6.out _ _ _ _ H7.out).mono ?_)
  rintro e w8 ⟨rfl, s8⟩
  have B8 := Lib.hid (B7.out.trans (s8.below w.heap.size))
  clear s8
  go_wp2
  go_ret
  exact ⟨rfl, B8.out⟩
end Go.Proofs.Ytgaoefhmjdhacaa
