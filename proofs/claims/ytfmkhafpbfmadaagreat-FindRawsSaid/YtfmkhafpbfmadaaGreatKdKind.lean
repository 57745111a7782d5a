/-
  Package kids: KindOf; and the document's.
-/
import Derived.Test.YtfmkhafpbfmadaaGreatKdMem
namespace Go.Proofs.YtfmkhafpbfmadaaGreat
open Go.RowKit

/-- The kind of so many, of any number. -/
def kindZ (n : Int) : Int := if n < 0 then 0 else if n ≤ 4 then 4 else if n ≤ 16 then 16 else if n ≤ 48 then 48 else if n ≤ 256 then 256 else 0
theorem kindZ_nat {n : Nat} (h : n ≤ 256) : kindZ (n : Int) = (kindN n : Int) := by
  unfold kindZ kindN
  repeat' split
  all_goals omega
theorem kindN_is (n : Nat) : kindN n = 4 ∨ kindN n = 16 ∨ kindN n = 48 ∨ kindN n = 256 := by
  unfold kindN
  repeat' split
  all_goals omega
theorem kindN_le {n : Nat} (h : n ≤ 256) : n ≤ kindN n := by
  unfold kindN
  repeat' split
  all_goals omega
/-- A row if at most 16, a board else. -/
theorem kindN_two (n : Nat) : (kindN n = 4 ∨ kindN n = 16) ∨ (kindN n = 48 ∨ kindN n = 256) := by
  rcases kindN_is n with h | h | h | h <;> omega

section
variable (w : World)
set_option maxRecDepth 100000 in
theorem kindof_any (n : Int) : Calls Tryz.prog 62 #[.int .i64 n] w fun e w' => e = .returned (.int .i64 (kindZ n)) ∧ w' = w := by
  have E := Lib.hid (show kindZ n = kindZ n from rfl)
  obtain ⟨z, hz⟩ : ∃ z, z = kindZ n := ⟨_, rfl⟩
  rw [← hz]
  have HZ := Lib.hid hz
  clear hz E
  by_cases h0 : n < 0
  · have hz : z = 0 := by rw [HZ.out]; unfold kindZ; rw [if_pos h0]
    subst hz
    clear HZ
    go_enter Tryz.func62, Tryz.ntmps62
    go_wp2
    go_ret
    exact ⟨rfl, rfl⟩
  · have i0 : ∀ w, (Instr.index 126 (.agg #[.int .i64 4, .int .i64 16, .int .i64 48, .int .i64 256]) (.int .i64 0)).run Tryz.prog w = .ok (.int .i64 4) w := fun _ => by kernel_rfl
    have i1 : ∀ w, (Instr.index 126 (.agg #[.int .i64 4, .int .i64 16, .int .i64 48, .int .i64 256]) (.int .i64 1)).run Tryz.prog w = .ok (.int .i64 16) w := fun _ => by kernel_rfl
    have i2 : ∀ w, (Instr.index 126 (.agg #[.int .i64 4, .int .i64 16, .int .i64 48, .int .i64 256]) (.int .i64 2)).run Tryz.prog w = .ok (.int .i64 48) w := fun _ => by kernel_rfl
    have i3 : ∀ w, (Instr.index 126 (.agg #[.int .i64 4, .int .i64 16, .int .i64 48, .int .i64 256]) (.int .i64 3)).run Tryz.prog w = .ok (.int .i64 256) w := fun _ => by kernel_rfl
    go_enter Tryz.func62, Tryz.ntmps62
    go_wp2_with fail
    go_loopw [8] (fun s8 wr => ∃ k : Nat, k ≤ 4 ∧ s8 = .int .i64 (k : Int) ∧ wr = w ∧ Hid ((k = 0 ∨ 4 < n) ∧ (k ≤ 1 ∨ 16 < n) ∧ (k ≤ 2 ∨ 48 < n) ∧ (k ≤ 3 ∨ 256 < n))) (fun s8 _ => 4 - (intOf s8).toNat)
    case atStart => exact ⟨0, by omega, rfl, rfl, Lib.hid (by omega)⟩
    case round =>
      obtain ⟨k, hk, rfl, rfl, HK⟩ := hrel
      rcases (show k = 0 ∨ k = 1 ∨ k = 2 ∨ k = 3 ∨ k = 4 by omega) with rfl | rfl | rfl | rfl | rfl
      case inl =>
        by_cases h1 : n ≤ 4
        · have hz : z = 4 := by rw [HZ.out]; unfold kindZ; rw [if_neg (by omega), if_pos h1]
          subst hz
          go_wp2
          go_ret
          exact ⟨rfl, rfl⟩
        · go_wp2
          exact ⟨⟨1, by omega, by first | rfl | go_num, by trivial, Lib.hid (by omega)⟩, by simp [intOf]⟩
      case inr.inl =>
        by_cases h1 : n ≤ 16
        · have hz : z = 16 := by rw [HZ.out]; unfold kindZ; have := HK.out; rw [if_neg (by omega), if_neg (by omega), if_pos h1]
          subst hz
          go_wp2
          go_ret
          exact ⟨rfl, rfl⟩
        · go_wp2
          exact ⟨⟨2, by omega, by first | rfl | go_num, by trivial, Lib.hid (by have := HK.out; omega)⟩, by simp [intOf]⟩
      case inr.inr.inl =>
        by_cases h1 : n ≤ 48
        · have hz : z = 48 := by rw [HZ.out]; unfold kindZ; have := HK.out; rw [if_neg (by omega), if_neg (by omega), if_neg (by omega), if_pos h1]
          subst hz
          go_wp2
          go_ret
          exact ⟨rfl, rfl⟩
        · go_wp2
          exact ⟨⟨3, by omega, by first | rfl | go_num, by trivial, Lib.hid (by have := HK.out; omega)⟩, by simp [intOf]⟩
      case inr.inr.inr.inl =>
        by_cases h1 : n ≤ 256
        · have hz : z = 256 := by rw [HZ.out]; unfold kindZ; have := HK.out; rw [if_neg (by omega), if_neg (by omega), if_neg (by omega), if_neg (by omega), if_pos h1]
          subst hz
          go_wp2
          go_ret
          exact ⟨rfl, rfl⟩
        · go_wp2
          exact ⟨⟨4, by omega, by first | rfl | go_num, by trivial, Lib.hid (by have := HK.out; omega)⟩, by simp [intOf]⟩
      case inr.inr.inr.inr =>
        have hz : z = 0 := by rw [HZ.out]; unfold kindZ; have := HK.out; rw [if_neg (by omega), if_neg (by omega), if_neg (by omega), if_neg (by omega), if_neg (by omega)]
        subst hz
        go_wp2
        go_ret
        exact ⟨rfl, rfl⟩
set_option maxRecDepth 100000 in
theorem rkindof_any (n : Int) : Calls Tryz.prog 55 #[.int .i64 n] w fun e w' => e = .returned (.int .i64 (kindZ n)) ∧ w' = w := by
  by_cases h0 : n < 0
  · have hz : kindZ n = 0 := by unfold kindZ; rw [if_pos h0]
    rw [hz]
    go_enter Tryz.func55, Tryz.ntmps55
    go_wp2
    go_ret
    exact ⟨rfl, rfl⟩
  by_cases h5 : 256 < n
  · have hz : kindZ n = 0 := by unfold kindZ; rw [if_neg (by omega), if_neg (by omega), if_neg (by omega), if_neg (by omega), if_neg (by omega)]
    rw [hz]
    go_enter Tryz.func55, Tryz.ntmps55
    go_wp2
    go_ret
    exact ⟨rfl, rfl⟩
  by_cases h1 : n ≤ 4
  · have hz : kindZ n = 4 := by unfold kindZ; rw [if_neg h0, if_pos h1]
    rw [hz]
    go_enter Tryz.func55, Tryz.ntmps55
    go_wp2
    go_ret
    exact ⟨rfl, rfl⟩
  by_cases h2 : n ≤ 16
  · have hz : kindZ n = 16 := by unfold kindZ; rw [if_neg h0, if_neg h1, if_pos h2]
    rw [hz]
    go_enter Tryz.func55, Tryz.ntmps55
    go_wp2
    go_ret
    exact ⟨rfl, rfl⟩
  by_cases h3 : n ≤ 48
  · have hz : kindZ n = 48 := by unfold kindZ; rw [if_neg h0, if_neg h1, if_neg h2, if_pos h3]
    rw [hz]
    go_enter Tryz.func55, Tryz.ntmps55
    go_wp2
    go_ret
    exact ⟨rfl, rfl⟩
  · have hz : kindZ n = 256 := by unfold kindZ; rw [if_neg h0, if_neg h1, if_neg h2, if_neg h3, if_pos (by omega)]
    rw [hz]
    go_enter Tryz.func55, Tryz.ntmps55
    go_wp2
    go_ret
    exact ⟨rfl, rfl⟩
end
end Go.Proofs.YtfmkhafpbfmadaaGreat
