/-
  What keys.Common and the document's Common answer: with how many bytes both begin.
-/
import Derived.Test.YtdllgcaeenldaaaChecked
import Derived.Test.YtdllgcaeenldaaaMem
import Derived.Test.YtdllgcaeenldaaaPure
namespace Go.Proofs.Ytdllgcaeenldaaa
open Go.RowKit

theorem u8_ne {a b : UInt8} (h : ((a.toNat : Int) != (b.toNat : Int)) = true) : a ≠ b := fun e => by subst e; simp at h
theorem u8_eq {a b : UInt8} (h : ((a.toNat : Int) != (b.toNat : Int)) = false) : a = b := UInt8.toNat_inj.1 (by simp at h; omega)
theorem u8_eq' {a b : UInt8} (h : ((a.toNat : Int) == (b.toNat : Int)) = true) : a = b := UInt8.toNat_inj.1 (by simp at h; omega)
theorem u8_ne' {a b : UInt8} (h : ((a.toNat : Int) == (b.toNat : Int)) = false) : a ≠ b := fun e => by subst e; simp at h

theorem part_at {l m : List UInt8} {k : Nat} {a b : UInt8} (hg : Agree l m k) (ha : l[k]? = some a) (hb : m[k]? = some b) (h : a ≠ b) : (k : Int) = lcp l m := by
  rw [lcp_of hg (.inr (.inr (by rw [ha, hb]; simpa using h)))]
theorem end_at {l m : List UInt8} {k n n' : Nat} (hg : Agree l m k) (h1 : l.length = n) (h2 : m.length = n') (hk : k = n ∨ k = n') : (k : Int) = lcp l m := by
  rw [lcp_of hg (by rcases hk with e | e; exact .inl (by omega); exact .inr (.inl (by omega)))]

set_option maxHeartbeats 400000 in
theorem common_any (A A' : Option Addr) (n n' c c' B : Nat) (l m : List UInt8) (w : World) (ha : Byt w B A n l) (hb : Byt w B A' n' m) :
    Calls Try.prog 13 #[.slice A n c, .slice A' n' c'] w fun e w' => e = .returned (.int .i64 (lcp l m : Int)) ∧ Still w w' := by
  have na : n ≤ 9223372036854775807 := by have := ha.2.1; unfold maxLen at this; omega
  have nb : n' ≤ 9223372036854775807 := by have := hb.2.1; unfold maxLen at this; omega
  have HN := Lib.hid ha.1
  have HN' := Lib.hid hb.1
  go_enter Try.func13, Try.ntmps13
  go_wp2
  all_goals
    rename_i hmin
    go_loopw [13] (fun i wr => ∃ k : Nat, k ≤ n ∧ k ≤ n' ∧ i = .int .i64 k ∧ Agree l m k ∧ Still w wr) (fun i _ => n + n' - (intOf i).toNat)
    case atStart => exact ⟨0, Nat.zero_le _, Nat.zero_le _, rfl, Agree.zero _ _, Still.refl _⟩
    case round =>
      obtain ⟨k, hk, hk', rfl, hag, q, rfl⟩ := hrel
      by_cases hlt : k < n ∧ k < n'
      · obtain ⟨h1, h2⟩ := hlt
        obtain ⟨ad, u, rfl, hu1, hu2, hu3⟩ := ha.at_ h1
        obtain ⟨ad', u', rfl, hv1, hv2, hv3⟩ := hb.at_ h2
        have HU := Lib.hid hu2
        have HV := Lib.hid hv2
        clear hu2 hv2
        go_wp2
        go_quiet (fail)
        go_wp2
        · go_ret
          exact ⟨ret_int (part_at hag HU.out HV.out (u8_ne (by assumption))), (by repeat (first | exact Still.refl _ | apply Still.step))⟩
        · exact ⟨⟨k + 1, by omega, by omega, by go_num, hag.succ HU.out HV.out (u8_eq (by assumption)), (by repeat (first | exact Still.refl _ | apply Still.step))⟩, by simp [intOf]; omega⟩
      · go_wp2
        go_ret
        exact ⟨ret_int (by rw [← end_at hag HN.out HN'.out (by omega)]; omega), (by repeat (first | exact Still.refl _ | apply Still.step))⟩

set_option maxHeartbeats 400000 in
theorem rcommon_any (A A' : Option Addr) (n n' c c' B : Nat) (l m : List UInt8) (w : World) (ha : Byt w B A n l) (hb : Byt w B A' n' m) :
    Calls Try.prog 14 #[.slice A n c, .slice A' n' c'] w fun e w' => e = .returned (.int .i64 (lcp l m : Int)) ∧ Still w w' := by
  have na : n ≤ 9223372036854775807 := by have := ha.2.1; unfold maxLen at this; omega
  have nb : n' ≤ 9223372036854775807 := by have := hb.2.1; unfold maxLen at this; omega
  have HN := Lib.hid ha.1
  have HN' := Lib.hid hb.1
  go_enter Try.func14, Try.ntmps14
  go_wp2
  go_loopw [5] (fun i wr => ∃ k : Nat, k ≤ n ∧ k ≤ n' ∧ i = .int .i64 k ∧ Agree l m k ∧ Still w wr) (fun i _ => n + n' - (intOf i).toNat)
  case atStart => exact ⟨0, Nat.zero_le _, Nat.zero_le _, rfl, Agree.zero _ _, Still.refl _⟩
  case round =>
    obtain ⟨k, hk, hk', rfl, hag, q, rfl⟩ := hrel
    by_cases h1 : k < n
    · have d1 : decide (k < n) = true := by simpa using h1
      by_cases h2 : k < n'
      · have d2 : decide (k < n') = true := by simpa using h2
        obtain ⟨ad, u, rfl, hu1, hu2, hu3⟩ := ha.at_ h1
        obtain ⟨ad', u', rfl, hv1, hv2, hv3⟩ := hb.at_ h2
        have HU := Lib.hid hu2
        have HV := Lib.hid hv2
        clear hu2 hv2
        go_wp2
        go_quiet (fail)
        go_wp2
        · exact ⟨⟨k + 1, by omega, by omega, by go_num, hag.succ HU.out HV.out (u8_eq' (by assumption)), (by repeat (first | exact Still.refl _ | apply Still.step))⟩, by simp [intOf]; omega⟩
        · go_ret
          exact ⟨ret_int (part_at hag HU.out HV.out (u8_ne' (by assumption))), (by repeat (first | exact Still.refl _ | apply Still.step))⟩
      · have d2 : decide (k < n') = false := by simpa using h2
        go_wp2
        go_quiet (fail)
        go_wp2
        go_ret
        exact ⟨ret_int (by rw [← end_at hag HN.out HN'.out (by omega)]), (by repeat (first | exact Still.refl _ | apply Still.step))⟩
    · have d1 : decide (k < n) = false := by simpa using h1
      go_wp2
      go_quiet (fail)
      go_wp2
      go_ret
      exact ⟨ret_int (by rw [← end_at hag HN.out HN'.out (by omega)]), (by repeat (first | exact Still.refl _ | apply Still.step))⟩
end Go.Proofs.Ytdllgcaeenldaaa
