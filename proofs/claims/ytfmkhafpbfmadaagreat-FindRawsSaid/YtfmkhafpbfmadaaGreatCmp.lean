/-
  What keys.Common and the document's Common answer: with how many bytes both begin.
  What keys.Cmp, Same, Begins, Within and the document's answer.
-/
import Derived.Test.YtfmkhafpbfmadaaGreatR1
namespace Go.Proofs.YtfmkhafpbfmadaaGreat
open Go.RowKit

set_option maxRecDepth 100000 in
set_option maxHeartbeats 400000 in
theorem common_any (A A' : Option Addr) (n n' c c' B : Nat) (l m : List UInt8) (w : World) (ha : Byt w B A n l) (hb : Byt w B A' n' m) :
    Calls Tryz.prog 68 #[.slice A n c, .slice A' n' c'] w fun e w' => e = .returned (.int .i64 (lcp l m : Int)) ∧ Still w w' := by
  have na : n ≤ 9223372036854775807 := by have := ha.2.1; unfold maxLen at this; omega
  have nb : n' ≤ 9223372036854775807 := by have := hb.2.1; unfold maxLen at this; omega
  have HN := Lib.hid ha.1
  have HN' := Lib.hid hb.1
  go_enter Tryz.func68, Tryz.ntmps68
  go_wp2
  all_goals
    rename_i hmin
    go_loopw [13] (fun i wr => ∃ k : Nat, k ≤ n ∧ k ≤ n' ∧ i = .int .i64 k ∧ Agree l m k ∧ Still w wr) (fun i _ => n + n' - (intOf i).toNat)
    case atStart => exact ⟨0, Nat.zero_le _, Nat.zero_le _, rfl, Agree.zero _ _, Still.refl _⟩
    case round =>
      obtain ⟨k, hk, hk', rfl, hag, q, rfl⟩ := hrel
      by_cases hlt : k < n ∧ k < n'
      · obtain ⟨h1, h2⟩ := hlt
        obtain ⟨ad, u, rfl, hu1, hu2, hu3⟩ := ha.at_ h1
        obtain ⟨ad', u', rfl, hv1, hv2, hv3⟩ := hb.at_ h2
        have HU := Lib.hid hu2
        have HV := Lib.hid hv2
        clear hu2 hv2
        go_wp2
        go_quiet (fail)
        go_wp2
        · go_ret
          exact ⟨ret_int (part_at hag HU.out HV.out (u8_ne (by assumption))), (by repeat (first | exact Still.refl _ | apply Still.step))⟩
        · exact ⟨⟨k + 1, by omega, by omega, by go_num, hag.succ HU.out HV.out (u8_eq (by assumption)), (by repeat (first | exact Still.refl _ | apply Still.step))⟩, by simp [intOf]; omega⟩
      · go_wp2
        go_ret
        exact ⟨ret_int (by rw [← end_at hag HN.out HN'.out (by omega)]; omega), (by repeat (first | exact Still.refl _ | apply Still.step))⟩

end Go.Proofs.YtfmkhafpbfmadaaGreat

namespace Go.Proofs.YtfmkhafpbfmadaaGreat
open Go.RowKit

set_option maxRecDepth 100000 in
set_option maxHeartbeats 400000 in
theorem cmp_any (A A' : Option Addr) (n n' c c' B : Nat) (l m : List UInt8) (w : World) (ha : Byt w B A n l) (hb : Byt w B A' n' m) :
    Calls Tryz.prog 67 #[.slice A n c, .slice A' n' c'] w fun e w' => e = .returned (.int .i64 (cmpL l m)) ∧ Still w w' := by
  have na : n ≤ 9223372036854775807 := by have := ha.2.1; unfold maxLen at this; omega
  have nb : n' ≤ 9223372036854775807 := by have := hb.2.1; unfold maxLen at this; omega
  have HN := Lib.hid ha.1
  have HN' := Lib.hid hb.1
  have le1 : lcp l m ≤ n := by have := lcp_le_left l m; have := ha.1; omega
  have le2 : lcp l m ≤ n' := by have := lcp_le_right l m; have := hb.1; omega
  by_cases hp : lcp l m < n ∧ lcp l m < n'
  · obtain ⟨h1, h2⟩ := hp
    obtain ⟨ad, u, rfl, hu1, hu2, hu3⟩ := ha.at_ h1
    obtain ⟨ad', u', rfl, hv1, hv2, hv3⟩ := hb.at_ h2
    have HU := Lib.hid hu2
    have HV := Lib.hid hv2
    clear hu2 hv2
    go_enter Tryz.func67, Tryz.ntmps67
    go_wp2_with (go_at_call 68; refine (common_any _ _ _ _ _ _ _ l m _ ha hb).mono ?_; rintro e w' ⟨rfl, q, rfl⟩)
    go_quiet (fail)
    go_wp2
    · go_ret
      exact ⟨ret_int (cmp_lt HU.out HV.out (by omega)), (by repeat (first | exact Still.refl _ | apply Still.step))⟩
    · go_ret
      exact ⟨ret_int (cmp_ge HU.out HV.out (by omega)), (by repeat (first | exact Still.refl _ | apply Still.step))⟩
  · have hx : lcp l m = n ∨ lcp l m = n' := by omega
    have HX := Lib.hid hx
    clear hx hp
    go_enter Tryz.func67, Tryz.ntmps67
    go_wp2_with (go_at_call 68; refine (common_any _ _ _ _ _ _ _ l m _ ha hb).mono ?_; rintro e w' ⟨rfl, q, rfl⟩)
    · go_ret
      exact ⟨ret_int (cmp_0 HN.out HN'.out (by assumption) (by assumption)), (by repeat (first | exact Still.refl _ | apply Still.step))⟩
    · go_ret
      exact ⟨ret_int (cmp_m HN.out HN'.out (by assumption) (by assumption)), (by repeat (first | exact Still.refl _ | apply Still.step))⟩
    · go_ret
      exact ⟨ret_int (cmp_1 HN.out HN'.out (by assumption) (by assumption)), (by repeat (first | exact Still.refl _ | apply Still.step))⟩
    · exfalso
      have e1 : ¬ (lcp l m : Int) = n := by assumption
      have e3 : ((lcp l m : Int) == n') = false := by assumption
      have := HX.out
      rw [beq_eq_false_iff_ne] at e3
      omega

set_option maxRecDepth 100000 in
set_option maxHeartbeats 400000 in
theorem begins_any (A A' : Option Addr) (n n' c c' B : Nat) (l m : List UInt8) (w : World) (ha : Byt w B A n l) (hb : Byt w B A' n' m) :
    Calls Tryz.prog 52 #[.slice A n c, .slice A' n' c'] w fun e w' => e = .returned (.bool (begB l m)) ∧ Still w w' := by
  have HN' := Lib.hid hb.1
  go_enter Tryz.func52, Tryz.ntmps52
  go_wp2_with (go_at_call 68; refine (common_any _ _ _ _ _ _ _ l m _ ha hb).mono ?_; rintro e w' ⟨rfl, q, rfl⟩)
  go_ret
  exact ⟨ret_bool (by unfold begB; rw [HN'.out, Bool.eq_iff_iff]; simp; omega), (by repeat (first | exact Still.refl _ | apply Still.step))⟩

theorem same_iff {l m : List UInt8} {n : Nat} (h : l.length = n) (h' : m.length = n) : ((lcp l m : Int) == (n : Int)) = sameB l m := by
  unfold sameB
  rw [Bool.eq_iff_iff]
  simp only [beq_iff_eq, decide_eq_true_eq]
  constructor
  · intro e
    exact cmpL_zero.1 (cmpL_both (by omega) (by omega))
  · intro e
    subst e
    have := cmpL_self l
    rcases lcp_stop l l with e | e | e
    · omega
    · omega
    · exact absurd rfl e
theorem same_no {l m : List UInt8} {n n' : Nat} (h : l.length = n) (h' : m.length = n') (e : ((n : Int) == (n' : Int)) = false) : false = sameB l m := by
  unfold sameB
  have : l ≠ m := fun q => by subst q; simp at e; omega
  simp [this]

/-- Does it stand between two? -/
def withinB (k a b : List UInt8) (o : Bool) : Bool := decide (0 ≤ cmpL k a) && (o || decide (cmpL k b < 0))

end Go.Proofs.YtfmkhafpbfmadaaGreat
