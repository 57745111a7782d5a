/-
  Proved here: the kind of any many is the document's; it is enough for them, and the one below it is not; nothing that came in is turned. No condition.
-/
import Derived.Test.YtahmalmpbdfnhaaRow
import Derived.Test.YtahmalmpbdfnhaaKdOwn
namespace Go.Proofs.Ytahmalmpbdfnhaa.kidsKind
open Go.ChangeShapes Go.WideShapes Go.ChangeAt Go.RowKit

set_option maxRecDepth 100000 in
set_option maxHeartbeats 2000000 in
theorem walk_neg (n : Int) (w : World) (hn : n < 0) :
    Calls Try.prog 4 #[.int .i64 n] w fun e w' => e = .returned (.bool true) ∧ Below w.heap.size w w' := by
  have Kz : kindZ n = 0 := by
    unfold kindZ
    repeat' split
    all_goals omega
  have C1 := Lib.hid (kindof_any w n)
  have C2 := Lib.hid (rkindof_any w n)
  rw [Kz] at C1 C2
  have x0 : ¬ (0 ≤ n) := by omega
  have P1 := Blk.new w 3 #[.int .i64 4, .int .i64 16, .int .i64 48]
  have B1 := Lib.hid ((Below.refl w.heap.size w).alloc (Nat.le_refl _) (.cells #[.int .i64 4, .int .i64 16, .int .i64 48] 3))
  generalize hW1 : w.alloc (.cells #[.int .i64 4, .int .i64 16, .int .i64 48] 3) = W1 at P1 B1
  have c0 : W1.cell? ⟨w.heap.size, 0, none⟩ = some (.int .i64 4) := P1.cell 0
  have c1 : W1.cell? ⟨w.heap.size, 1, none⟩ = some (.int .i64 16) := P1.cell 1
  have c2 : W1.cell? ⟨w.heap.size, 2, none⟩ = some (.int .i64 48) := P1.cell 2
  clear P1 Kz
  go_enter Try.func4, Try.ntmps4
  go_wp2_with fail
  (with_reducible refine C1.out.mono ?_)
  rintro e w2 ⟨rfl, rfl⟩
  go_wp2_with fail
  (with_reducible refine C2.out.mono ?_)
  rintro e w3 ⟨rfl, rfl⟩
  go_wp2_with fail
  try rw [hW1]
  clear hW1
  go_loopw [14] (fun i wr => ∃ k : Nat, k ≤ 3 ∧ i = .int .i64 k ∧ wr = W1) (fun i _ => 3 - (intOf i).toNat)
  case atStart => exact ⟨0, by omega, rfl, rfl⟩
  case round =>
    obtain ⟨k, hk, rfl, rfl⟩ := hrel
    rcases (show k = 0 ∨ k = 1 ∨ k = 2 ∨ k = 3 by omega) with rfl | rfl | rfl | rfl
    · go_wp2
      exact ⟨⟨1, by omega, rfl, by trivial⟩, by simp [intOf]⟩
    · go_wp2
      exact ⟨⟨2, by omega, rfl, by trivial⟩, by simp [intOf]⟩
    · go_wp2
      exact ⟨⟨3, by omega, rfl, by trivial⟩, by simp [intOf]⟩
    · go_wp2_with (first
        | (go_at_call 18; refine (kalive_any _).mono ?_; rintro e w2 ⟨rfl, hbel⟩; have HB2 := Lib.hid (B1.out.trans (hbel.mono (by have := B1.out.size; simpa using this))); clear hbel))
      go_ret
      exact ⟨rfl, HB2.out⟩
set_option maxRecDepth 100000 in
set_option maxHeartbeats 2000000 in
theorem walk_four (n : Int) (w : World) (h0 : 0 ≤ n) (h1 : n ≤ 4) :
    Calls Try.prog 4 #[.int .i64 n] w fun e w' => e = .returned (.bool true) ∧ Below w.heap.size w w' := by
  have Kz : kindZ n = 4 := by
    unfold kindZ
    repeat' split
    all_goals omega
  have C1 := Lib.hid (kindof_any w n)
  have C2 := Lib.hid (rkindof_any w n)
  rw [Kz] at C1 C2
  have C3 := Lib.hid (fun (W : World) => show Calls Try.prog 19 #[.int .i64 4] W fun e w' => e = .returned (.int .i64 4) ∧ w' = W from kindof_any W 4)
  have x0 : ¬ (n < 0) := by omega
  have x1 : n ≤ 4 := by omega
  have x2 : n ≤ 16 := by omega
  have x3 : n ≤ 48 := by omega
  have x4 : n ≤ 4 := by omega
  have P1 := Blk.new w 3 #[.int .i64 4, .int .i64 16, .int .i64 48]
  have B1 := Lib.hid ((Below.refl w.heap.size w).alloc (Nat.le_refl _) (.cells #[.int .i64 4, .int .i64 16, .int .i64 48] 3))
  generalize hW1 : w.alloc (.cells #[.int .i64 4, .int .i64 16, .int .i64 48] 3) = W1 at P1 B1
  have c0 : W1.cell? ⟨w.heap.size, 0, none⟩ = some (.int .i64 4) := P1.cell 0
  have c1 : W1.cell? ⟨w.heap.size, 1, none⟩ = some (.int .i64 16) := P1.cell 1
  have c2 : W1.cell? ⟨w.heap.size, 2, none⟩ = some (.int .i64 48) := P1.cell 2
  clear P1 Kz
  go_enter Try.func4, Try.ntmps4
  go_wp2_with fail
  (with_reducible refine C1.out.mono ?_)
  rintro e w2 ⟨rfl, rfl⟩
  go_wp2_with fail
  (with_reducible refine C2.out.mono ?_)
  rintro e w3 ⟨rfl, rfl⟩
  go_wp2_with fail
  try rw [hW1]
  clear hW1
  go_loopw [14] (fun i wr => ∃ k : Nat, k ≤ 3 ∧ i = .int .i64 k ∧ wr = W1) (fun i _ => 3 - (intOf i).toNat)
  case atStart => exact ⟨0, by omega, rfl, rfl⟩
  case round =>
    obtain ⟨k, hk, rfl, rfl⟩ := hrel
    rcases (show k = 0 ∨ k = 1 ∨ k = 2 ∨ k = 3 by omega) with rfl | rfl | rfl | rfl
    · go_wp2
      exact ⟨⟨1, by omega, rfl, by trivial⟩, by simp [intOf]⟩
    · go_wp2
      exact ⟨⟨2, by omega, rfl, by trivial⟩, by simp [intOf]⟩
    · go_wp2
      exact ⟨⟨3, by omega, rfl, by trivial⟩, by simp [intOf]⟩
    · go_wp2_with (first
        | (go_at_call 19; refine (C3.out _).mono ?_; rintro e w' ⟨rfl, rfl⟩)
        | (go_at_call 18; refine (kalive_any _).mono ?_; rintro e w2 ⟨rfl, hbel⟩; have HB2 := Lib.hid (B1.out.trans (hbel.mono (by have := B1.out.size; simpa using this))); clear hbel))
      go_ret
      exact ⟨rfl, HB2.out⟩
set_option maxRecDepth 100000 in
set_option maxHeartbeats 2000000 in
theorem walk_ten (n : Int) (w : World) (h0 : 0 ≤ n) (h1 : 4 < n) (h2 : n ≤ 16) :
    Calls Try.prog 4 #[.int .i64 n] w fun e w' => e = .returned (.bool true) ∧ Below w.heap.size w w' := by
  have Kz : kindZ n = 16 := by
    unfold kindZ
    repeat' split
    all_goals omega
  have C1 := Lib.hid (kindof_any w n)
  have C2 := Lib.hid (rkindof_any w n)
  rw [Kz] at C1 C2
  have C3 := Lib.hid (fun (W : World) => show Calls Try.prog 19 #[.int .i64 16] W fun e w' => e = .returned (.int .i64 16) ∧ w' = W from kindof_any W 16)
  have x0 : ¬ (n < 0) := by omega
  have x1 : ¬ (n ≤ 4) := by omega
  have x2 : n ≤ 16 := by omega
  have x3 : n ≤ 48 := by omega
  have x4 : n ≤ 16 := by omega
  have P1 := Blk.new w 3 #[.int .i64 4, .int .i64 16, .int .i64 48]
  have B1 := Lib.hid ((Below.refl w.heap.size w).alloc (Nat.le_refl _) (.cells #[.int .i64 4, .int .i64 16, .int .i64 48] 3))
  generalize hW1 : w.alloc (.cells #[.int .i64 4, .int .i64 16, .int .i64 48] 3) = W1 at P1 B1
  have c0 : W1.cell? ⟨w.heap.size, 0, none⟩ = some (.int .i64 4) := P1.cell 0
  have c1 : W1.cell? ⟨w.heap.size, 1, none⟩ = some (.int .i64 16) := P1.cell 1
  have c2 : W1.cell? ⟨w.heap.size, 2, none⟩ = some (.int .i64 48) := P1.cell 2
  clear P1 Kz
  go_enter Try.func4, Try.ntmps4
  go_wp2_with fail
  (with_reducible refine C1.out.mono ?_)
  rintro e w2 ⟨rfl, rfl⟩
  go_wp2_with fail
  (with_reducible refine C2.out.mono ?_)
  rintro e w3 ⟨rfl, rfl⟩
  go_wp2_with fail
  try rw [hW1]
  clear hW1
  go_loopw [14] (fun i wr => ∃ k : Nat, k ≤ 3 ∧ i = .int .i64 k ∧ wr = W1) (fun i _ => 3 - (intOf i).toNat)
  case atStart => exact ⟨0, by omega, rfl, rfl⟩
  case round =>
    obtain ⟨k, hk, rfl, rfl⟩ := hrel
    rcases (show k = 0 ∨ k = 1 ∨ k = 2 ∨ k = 3 by omega) with rfl | rfl | rfl | rfl
    · go_wp2
      exact ⟨⟨1, by omega, rfl, by trivial⟩, by simp [intOf]⟩
    · go_wp2
      exact ⟨⟨2, by omega, rfl, by trivial⟩, by simp [intOf]⟩
    · go_wp2
      exact ⟨⟨3, by omega, rfl, by trivial⟩, by simp [intOf]⟩
    · go_wp2_with (first
        | (go_at_call 19; refine (C3.out _).mono ?_; rintro e w' ⟨rfl, rfl⟩)
        | (go_at_call 18; refine (kalive_any _).mono ?_; rintro e w2 ⟨rfl, hbel⟩; have HB2 := Lib.hid (B1.out.trans (hbel.mono (by have := B1.out.size; simpa using this))); clear hbel))
      go_ret
      exact ⟨rfl, HB2.out⟩
set_option maxRecDepth 100000 in
set_option maxHeartbeats 2000000 in
theorem walk_more (n : Int) (w : World) (h0 : 0 ≤ n) (h1 : 16 < n) (h2 : n ≤ 48) :
    Calls Try.prog 4 #[.int .i64 n] w fun e w' => e = .returned (.bool true) ∧ Below w.heap.size w w' := by
  have Kz : kindZ n = 48 := by
    unfold kindZ
    repeat' split
    all_goals omega
  have C1 := Lib.hid (kindof_any w n)
  have C2 := Lib.hid (rkindof_any w n)
  rw [Kz] at C1 C2
  have C3 := Lib.hid (fun (W : World) => show Calls Try.prog 19 #[.int .i64 48] W fun e w' => e = .returned (.int .i64 48) ∧ w' = W from kindof_any W 48)
  have x0 : ¬ (n < 0) := by omega
  have x1 : ¬ (n ≤ 4) := by omega
  have x2 : ¬ (n ≤ 16) := by omega
  have x3 : n ≤ 48 := by omega
  have x4 : n ≤ 48 := by omega
  have P1 := Blk.new w 3 #[.int .i64 4, .int .i64 16, .int .i64 48]
  have B1 := Lib.hid ((Below.refl w.heap.size w).alloc (Nat.le_refl _) (.cells #[.int .i64 4, .int .i64 16, .int .i64 48] 3))
  generalize hW1 : w.alloc (.cells #[.int .i64 4, .int .i64 16, .int .i64 48] 3) = W1 at P1 B1
  have c0 : W1.cell? ⟨w.heap.size, 0, none⟩ = some (.int .i64 4) := P1.cell 0
  have c1 : W1.cell? ⟨w.heap.size, 1, none⟩ = some (.int .i64 16) := P1.cell 1
  have c2 : W1.cell? ⟨w.heap.size, 2, none⟩ = some (.int .i64 48) := P1.cell 2
  clear P1 Kz
  go_enter Try.func4, Try.ntmps4
  go_wp2_with fail
  (with_reducible refine C1.out.mono ?_)
  rintro e w2 ⟨rfl, rfl⟩
  go_wp2_with fail
  (with_reducible refine C2.out.mono ?_)
  rintro e w3 ⟨rfl, rfl⟩
  go_wp2_with fail
  try rw [hW1]
  clear hW1
  go_loopw [14] (fun i wr => ∃ k : Nat, k ≤ 3 ∧ i = .int .i64 k ∧ wr = W1) (fun i _ => 3 - (intOf i).toNat)
  case atStart => exact ⟨0, by omega, rfl, rfl⟩
  case round =>
    obtain ⟨k, hk, rfl, rfl⟩ := hrel
    rcases (show k = 0 ∨ k = 1 ∨ k = 2 ∨ k = 3 by omega) with rfl | rfl | rfl | rfl
    · go_wp2
      exact ⟨⟨1, by omega, rfl, by trivial⟩, by simp [intOf]⟩
    · go_wp2
      exact ⟨⟨2, by omega, rfl, by trivial⟩, by simp [intOf]⟩
    · go_wp2
      exact ⟨⟨3, by omega, rfl, by trivial⟩, by simp [intOf]⟩
    · go_wp2_with (first
        | (go_at_call 19; refine (C3.out _).mono ?_; rintro e w' ⟨rfl, rfl⟩)
        | (go_at_call 18; refine (kalive_any _).mono ?_; rintro e w2 ⟨rfl, hbel⟩; have HB2 := Lib.hid (B1.out.trans (hbel.mono (by have := B1.out.size; simpa using this))); clear hbel))
      go_ret
      exact ⟨rfl, HB2.out⟩
set_option maxRecDepth 100000 in
set_option maxHeartbeats 2000000 in
theorem walk_all (n : Int) (w : World) (h0 : 0 ≤ n) (h1 : 48 < n) (h2 : n ≤ 256) :
    Calls Try.prog 4 #[.int .i64 n] w fun e w' => e = .returned (.bool true) ∧ Below w.heap.size w w' := by
  have Kz : kindZ n = 256 := by
    unfold kindZ
    repeat' split
    all_goals omega
  have C1 := Lib.hid (kindof_any w n)
  have C2 := Lib.hid (rkindof_any w n)
  rw [Kz] at C1 C2
  have C3 := Lib.hid (fun (W : World) => show Calls Try.prog 19 #[.int .i64 256] W fun e w' => e = .returned (.int .i64 256) ∧ w' = W from kindof_any W 256)
  have x0 : ¬ (n < 0) := by omega
  have x1 : ¬ (n ≤ 4) := by omega
  have x2 : ¬ (n ≤ 16) := by omega
  have x3 : ¬ (n ≤ 48) := by omega
  have x4 : n ≤ 256 := by omega
  have P1 := Blk.new w 3 #[.int .i64 4, .int .i64 16, .int .i64 48]
  have B1 := Lib.hid ((Below.refl w.heap.size w).alloc (Nat.le_refl _) (.cells #[.int .i64 4, .int .i64 16, .int .i64 48] 3))
  generalize hW1 : w.alloc (.cells #[.int .i64 4, .int .i64 16, .int .i64 48] 3) = W1 at P1 B1
  have c0 : W1.cell? ⟨w.heap.size, 0, none⟩ = some (.int .i64 4) := P1.cell 0
  have c1 : W1.cell? ⟨w.heap.size, 1, none⟩ = some (.int .i64 16) := P1.cell 1
  have c2 : W1.cell? ⟨w.heap.size, 2, none⟩ = some (.int .i64 48) := P1.cell 2
  clear P1 Kz
  go_enter Try.func4, Try.ntmps4
  go_wp2_with fail
  (with_reducible refine C1.out.mono ?_)
  rintro e w2 ⟨rfl, rfl⟩
  go_wp2_with fail
  (with_reducible refine C2.out.mono ?_)
  rintro e w3 ⟨rfl, rfl⟩
  go_wp2_with fail
  try rw [hW1]
  clear hW1
  go_loopw [14] (fun i wr => ∃ k : Nat, k ≤ 3 ∧ i = .int .i64 k ∧ wr = W1) (fun i _ => 3 - (intOf i).toNat)
  case atStart => exact ⟨0, by omega, rfl, rfl⟩
  case round =>
    obtain ⟨k, hk, rfl, rfl⟩ := hrel
    rcases (show k = 0 ∨ k = 1 ∨ k = 2 ∨ k = 3 by omega) with rfl | rfl | rfl | rfl
    · go_wp2
      exact ⟨⟨1, by omega, rfl, by trivial⟩, by simp [intOf]⟩
    · go_wp2
      exact ⟨⟨2, by omega, rfl, by trivial⟩, by simp [intOf]⟩
    · go_wp2
      exact ⟨⟨3, by omega, rfl, by trivial⟩, by simp [intOf]⟩
    · go_wp2_with (first
        | (go_at_call 19; refine (C3.out _).mono ?_; rintro e w' ⟨rfl, rfl⟩)
        | (go_at_call 18; refine (kalive_any _).mono ?_; rintro e w2 ⟨rfl, hbel⟩; have HB2 := Lib.hid (B1.out.trans (hbel.mono (by have := B1.out.size; simpa using this))); clear hbel))
      go_ret
      exact ⟨rfl, HB2.out⟩
set_option maxRecDepth 100000 in
set_option maxHeartbeats 2000000 in
theorem walk_none (n : Int) (w : World) (h0 : 256 < n) :
    Calls Try.prog 4 #[.int .i64 n] w fun e w' => e = .returned (.bool true) ∧ Below w.heap.size w w' := by
  have Kz : kindZ n = 0 := by
    unfold kindZ
    repeat' split
    all_goals omega
  have C1 := Lib.hid (kindof_any w n)
  have C2 := Lib.hid (rkindof_any w n)
  rw [Kz] at C1 C2
  have x0 : 0 ≤ n := by omega
  have x1 : ¬ (n < 0) := by omega
  have x2 : ¬ (n ≤ 4) := by omega
  have x3 : ¬ (n ≤ 16) := by omega
  have x4 : ¬ (n ≤ 48) := by omega
  have P1 := Blk.new w 3 #[.int .i64 4, .int .i64 16, .int .i64 48]
  have B1 := Lib.hid ((Below.refl w.heap.size w).alloc (Nat.le_refl _) (.cells #[.int .i64 4, .int .i64 16, .int .i64 48] 3))
  generalize hW1 : w.alloc (.cells #[.int .i64 4, .int .i64 16, .int .i64 48] 3) = W1 at P1 B1
  have c0 : W1.cell? ⟨w.heap.size, 0, none⟩ = some (.int .i64 4) := P1.cell 0
  have c1 : W1.cell? ⟨w.heap.size, 1, none⟩ = some (.int .i64 16) := P1.cell 1
  have c2 : W1.cell? ⟨w.heap.size, 2, none⟩ = some (.int .i64 48) := P1.cell 2
  clear P1 Kz
  go_enter Try.func4, Try.ntmps4
  go_wp2_with fail
  (with_reducible refine C1.out.mono ?_)
  rintro e w2 ⟨rfl, rfl⟩
  go_wp2_with fail
  (with_reducible refine C2.out.mono ?_)
  rintro e w3 ⟨rfl, rfl⟩
  go_wp2_with fail
  try rw [hW1]
  clear hW1
  go_loopw [14] (fun i wr => ∃ k : Nat, k ≤ 3 ∧ i = .int .i64 k ∧ wr = W1) (fun i _ => 3 - (intOf i).toNat)
  case atStart => exact ⟨0, by omega, rfl, rfl⟩
  case round =>
    obtain ⟨k, hk, rfl, rfl⟩ := hrel
    rcases (show k = 0 ∨ k = 1 ∨ k = 2 ∨ k = 3 by omega) with rfl | rfl | rfl | rfl
    · go_wp2
      exact ⟨⟨1, by omega, rfl, by trivial⟩, by simp [intOf]⟩
    · go_wp2
      exact ⟨⟨2, by omega, rfl, by trivial⟩, by simp [intOf]⟩
    · go_wp2
      exact ⟨⟨3, by omega, rfl, by trivial⟩, by simp [intOf]⟩
    · go_wp2_with (first
        | (go_at_call 18; refine (kalive_any _).mono ?_; rintro e w2 ⟨rfl, hbel⟩; have HB2 := Lib.hid (B1.out.trans (hbel.mono (by have := B1.out.size; simpa using this))); clear hbel))
      go_ret
      exact ⟨rfl, HB2.out⟩
set_option maxRecDepth 100000 in
theorem walk (n : Int) (w : World) : Calls Try.prog 4 #[.int .i64 n] w fun e w' => e = .returned (.bool true) ∧ Below w.heap.size w w' := by
  by_cases h0 : n < 0
  · exact walk_neg n w h0
  by_cases h1 : n ≤ 4
  · exact walk_four n w (by omega) h1
  by_cases h2 : n ≤ 16
  · exact walk_ten n w (by omega) (by omega) h2
  by_cases h3 : n ≤ 48
  · exact walk_more n w (by omega) (by omega) h3
  by_cases h4 : n ≤ 256
  · exact walk_all n w (by omega) (by omega) h4
  · exact walk_none n w (by omega)

set_option maxRecDepth 100000 in
theorem lifted (os : Os) (started : os.Started) (H : Type) (enc : TypeId × Value → H) :
    ReturnsInHanded {} Try.checked os 4 .any (Rows.kidsKindSpec.pre6 enc Try.prog Try.f4 Rows.kidsKindRow.domain false) (Rows.kidsKindSpec.post enc Try.prog Try.f4 false true false false) := by
  refine returnsInHanded_of_change (C := Try.checked) own started (by kernel_rfl) Try.func4
    (ChangeSpec.witness6 (enc := enc) (C := Try.checked) false ⟨#[], #[.int .i64 0], []⟩ 8 (by kernel_rfl) (by kernel_rfl) (by kernel_rfl) (by kernel_rfl)) ?_
  intro W base args ds gs before hval0 hW hcnd _
  have hval : ∀ (j : Nat) t v, Try.f4.params[j]? = some t → args[j]? = some v → Value.okWide Try.prog W .any base t v := hval0
  have hW' := hW
  obtain ⟨p, q, hA0, hV, rfl, hfz, hnd⟩ := hW
  have hA : DataW.TrodAll enc Try.prog W 0 (fun _ => true) true Try.f4.params.toList args.toList ds p := hA0
  rw [Try.params4] at hA hval
  obtain ⟨v0, vs0, d0, ds0, p0, q0, hargs, rfl, rfl, h0, r0⟩ := trodAll_cons hA
  obtain ⟨rfl, rfl, rfl⟩ := trodAll_nil r0
  obtain rfl : args = #[v0] := by cases args; simp_all
  obtain ⟨rfl, rfl⟩ := trodVars_none hV
  have k0 := h0
  have lt0 : ∀ x ∈ p0, x.block < W.heap.size := by obtain ⟨m, hm⟩ := k0; exact DataW.trod_lt m _ _ _ hm
  obtain ⟨x0, rfl, _, _, _⟩ := open_int Try.underlying3 (hval 0 3 v0 rfl rfl) h0
  clear hA0 hval0
  refine (walk x0 W).mono fun e W' ⟨he, bel⟩ => ?_
  subst he
  exact ⟨_, rfl, _, _, _, [], _, [], hW', trodAll_mk1 (shut_bool Try.underlying4 _), (trodAll_cons_mk (Below.trod laidOut (by kernel_rfl) (of_decide_eq_true (by kernel_rfl)) k0 bel lt0) trodAll_mk0), rfl, bel.frame _, fun h => by cases h⟩

set_option maxRecDepth 100000 in
theorem proved : Rows.KidsKindSaid :=
  OpenClaim.holds_of_wide 4 Try.f4 rfl rfl rfl rfl rfl rfl rfl ⟨rfl, rfl, rfl, rfl, rfl⟩ rfl rfl rfl rfl rfl (by kernel_rfl) Try.func4 (by kernel_rfl)
    (of_decide_eq_true (by kernel_rfl)) (by unfold Func.isWrapper; first | (rw [if_pos (by decide +kernel)]; kernel_rfl) | (rw [if_neg (by decide +kernel)]; exact ⟨rfl, rfl⟩))
    (fun os started H enc _ => lifted os started H enc)
end Go.Proofs.Ytahmalmpbdfnhaa.kidsKind
