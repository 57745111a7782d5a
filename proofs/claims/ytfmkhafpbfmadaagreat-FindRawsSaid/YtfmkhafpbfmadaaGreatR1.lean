/-
  What the document's Common, Cmp and Same (layer 1) answer: with how many bytes both begin, their order, whether they are the same.
  What the document's Begins (layer 1) answers: whether bytes begin with others.
-/
import Derived.Test.YtfmkhafpbfmadaaGreatChecked
import Derived.Test.YtfmkhafpbfmadaaGreatMem
import Derived.Test.YtfmkhafpbfmadaaGreatPure
namespace Go.Proofs.YtfmkhafpbfmadaaGreat
open Go.RowKit

theorem u8_ne {a b : UInt8} (h : ((a.toNat : Int) != (b.toNat : Int)) = true) : a ≠ b := fun e => by subst e; simp at h
theorem u8_eq {a b : UInt8} (h : ((a.toNat : Int) != (b.toNat : Int)) = false) : a = b := UInt8.toNat_inj.1 (by simp at h; omega)
theorem u8_eq' {a b : UInt8} (h : ((a.toNat : Int) == (b.toNat : Int)) = true) : a = b := UInt8.toNat_inj.1 (by simp at h; omega)
theorem u8_ne' {a b : UInt8} (h : ((a.toNat : Int) == (b.toNat : Int)) = false) : a ≠ b := fun e => by subst e; simp at h

theorem part_at {l m : List UInt8} {k : Nat} {a b : UInt8} (hg : Agree l m k) (ha : l[k]? = some a) (hb : m[k]? = some b) (h : a ≠ b) : (k : Int) = lcp l m := by
  rw [lcp_of hg (.inr (.inr (by rw [ha, hb]; simpa using h)))]
theorem end_at {l m : List UInt8} {k n n' : Nat} (hg : Agree l m k) (h1 : l.length = n) (h2 : m.length = n') (hk : k = n ∨ k = n') : (k : Int) = lcp l m := by
  rw [lcp_of hg (by rcases hk with e | e; exact .inl (by omega); exact .inr (.inl (by omega)))]

set_option maxRecDepth 100000 in
set_option maxHeartbeats 400000 in
theorem rcommon_any (A A' : Option Addr) (n n' c c' B : Nat) (l m : List UInt8) (w : World) (ha : Byt w B A n l) (hb : Byt w B A' n' m) :
    Calls Tryz.prog 46 #[.slice A n c, .slice A' n' c'] w fun e w' => e = .returned (.int .i64 (lcp l m : Int)) ∧ Still w w' := by
  have na : n ≤ 9223372036854775807 := by have := ha.2.1; unfold maxLen at this; omega
  have nb : n' ≤ 9223372036854775807 := by have := hb.2.1; unfold maxLen at this; omega
  have HN := Lib.hid ha.1
  have HN' := Lib.hid hb.1
  go_enter Tryz.func46, Tryz.ntmps46
  go_wp2
  go_loopw [5] (fun i wr => ∃ k : Nat, k ≤ n ∧ k ≤ n' ∧ i = .int .i64 k ∧ Agree l m k ∧ Still w wr) (fun i _ => n + n' - (intOf i).toNat)
  case atStart => exact ⟨0, Nat.zero_le _, Nat.zero_le _, rfl, Agree.zero _ _, Still.refl _⟩
  case round =>
    obtain ⟨k, hk, hk', rfl, hag, q, rfl⟩ := hrel
    by_cases h1 : k < n
    · have d1 : decide (k < n) = true := by simpa using h1
      by_cases h2 : k < n'
      · have d2 : decide (k < n') = true := by simpa using h2
        obtain ⟨ad, u, rfl, hu1, hu2, hu3⟩ := ha.at_ h1
        obtain ⟨ad', u', rfl, hv1, hv2, hv3⟩ := hb.at_ h2
        have HU := Lib.hid hu2
        have HV := Lib.hid hv2
        clear hu2 hv2
        go_wp2
        go_quiet (fail)
        go_wp2
        · exact ⟨⟨k + 1, by omega, by omega, by go_num, hag.succ HU.out HV.out (u8_eq' (by assumption)), (by repeat (first | exact Still.refl _ | apply Still.step))⟩, by simp [intOf]; omega⟩
        · go_ret
          exact ⟨ret_int (part_at hag HU.out HV.out (u8_ne' (by assumption))), (by repeat (first | exact Still.refl _ | apply Still.step))⟩
      · have d2 : decide (k < n') = false := by simpa using h2
        go_wp2
        go_quiet (fail)
        go_wp2
        go_ret
        exact ⟨ret_int (by rw [← end_at hag HN.out HN'.out (by omega)]), (by repeat (first | exact Still.refl _ | apply Still.step))⟩
    · have d1 : decide (k < n) = false := by simpa using h1
      go_wp2
      go_quiet (fail)
      go_wp2
      go_ret
      exact ⟨ret_int (by rw [← end_at hag HN.out HN'.out (by omega)]), (by repeat (first | exact Still.refl _ | apply Still.step))⟩
theorem cmp_0 {l m : List UInt8} {n n' : Nat} (h : l.length = n) (h' : m.length = n') (e : (lcp l m : Int) = n) (e' : ((n : Int) == n') = true) : (0 : Int) = cmpL l m := by
  simp at e'; exact (cmpL_both (by omega) (by omega)).symm
theorem cmp_m {l m : List UInt8} {n n' : Nat} (h : l.length = n) (h' : m.length = n') (e : (lcp l m : Int) = n) (e' : ((n : Int) == n') = false) : (-1 : Int) = cmpL l m := by
  simp at e'; exact (cmpL_left (by omega) (by omega)).symm
theorem cmp_1 {l m : List UInt8} {n n' : Nat} (h : l.length = n) (h' : m.length = n') (e : ¬ (lcp l m : Int) = n) (e' : ((lcp l m : Int) == n') = true) : (1 : Int) = cmpL l m := by
  simp at e'; exact (cmpL_right (by omega) (by omega)).symm
theorem cmp_lt {l m : List UInt8} {a b : UInt8} (h1 : l[lcp l m]? = some a) (h2 : m[lcp l m]? = some b) (h : (a.toNat : Int) < b.toNat) : (-1 : Int) = cmpL l m := by
  rw [cmpL_part h1 h2, if_pos (by omega)]
theorem cmp_ge {l m : List UInt8} {a b : UInt8} (h1 : l[lcp l m]? = some a) (h2 : m[lcp l m]? = some b) (h : ¬ (a.toNat : Int) < b.toNat) : (1 : Int) = cmpL l m := by
  rw [cmpL_part h1 h2, if_neg (by omega)]

set_option maxRecDepth 100000 in
set_option maxHeartbeats 400000 in
theorem rcmp_any (A A' : Option Addr) (n n' c c' B : Nat) (l m : List UInt8) (w : World) (ha : Byt w B A n l) (hb : Byt w B A' n' m) :
    Calls Tryz.prog 28 #[.slice A n c, .slice A' n' c'] w fun e w' => e = .returned (.int .i64 (cmpL l m)) ∧ Still w w' := by
  have na : n ≤ 9223372036854775807 := by have := ha.2.1; unfold maxLen at this; omega
  have nb : n' ≤ 9223372036854775807 := by have := hb.2.1; unfold maxLen at this; omega
  have HN := Lib.hid ha.1
  have HN' := Lib.hid hb.1
  have le1 : lcp l m ≤ n := by have := lcp_le_left l m; have := ha.1; omega
  have le2 : lcp l m ≤ n' := by have := lcp_le_right l m; have := hb.1; omega
  by_cases hp : lcp l m < n ∧ lcp l m < n'
  · obtain ⟨h1, h2⟩ := hp
    obtain ⟨ad, u, rfl, hu1, hu2, hu3⟩ := ha.at_ h1
    obtain ⟨ad', u', rfl, hv1, hv2, hv3⟩ := hb.at_ h2
    have HU := Lib.hid hu2
    have HV := Lib.hid hv2
    clear hu2 hv2
    go_enter Tryz.func28, Tryz.ntmps28
    go_wp2_with (go_at_call 46; refine (rcommon_any _ _ _ _ _ _ _ l m _ ha hb).mono ?_; rintro e w' ⟨rfl, q, rfl⟩)
    go_quiet (fail)
    go_wp2
    · go_ret
      exact ⟨ret_int (cmp_lt HU.out HV.out (by omega)), (by repeat (first | exact Still.refl _ | apply Still.step))⟩
    · go_ret
      exact ⟨ret_int (cmp_ge HU.out HV.out (by omega)), (by repeat (first | exact Still.refl _ | apply Still.step))⟩
  · have hx : lcp l m = n ∨ lcp l m = n' := by omega
    have HX := Lib.hid hx
    clear hx hp
    go_enter Tryz.func28, Tryz.ntmps28
    go_wp2_with (go_at_call 46; refine (rcommon_any _ _ _ _ _ _ _ l m _ ha hb).mono ?_; rintro e w' ⟨rfl, q, rfl⟩)
    · go_ret
      exact ⟨ret_int (cmp_0 HN.out HN'.out (by assumption) (by assumption)), (by repeat (first | exact Still.refl _ | apply Still.step))⟩
    · go_ret
      exact ⟨ret_int (cmp_m HN.out HN'.out (by assumption) (by assumption)), (by repeat (first | exact Still.refl _ | apply Still.step))⟩
    · go_ret
      exact ⟨ret_int (cmp_1 HN.out HN'.out (by assumption) (by assumption)), (by repeat (first | exact Still.refl _ | apply Still.step))⟩
    · exfalso
      have e1 : ¬ (lcp l m : Int) = n := by assumption
      have e3 : ((lcp l m : Int) == n') = false := by assumption
      have := HX.out
      rw [beq_eq_false_iff_ne] at e3
      omega

def sameB (l m : List UInt8) : Bool := decide (l = m)

set_option maxRecDepth 100000 in
set_option maxHeartbeats 400000 in
theorem rsame_any (A A' : Option Addr) (n n' c c' B : Nat) (l m : List UInt8) (w : World) (ha : Byt w B A n l) (hb : Byt w B A' n' m) :
    Calls Tryz.prog 18 #[.slice A n c, .slice A' n' c'] w fun e w' => e = .returned (.bool (sameB l m)) ∧ Still w w' := by
  go_enter Tryz.func18, Tryz.ntmps18
  go_wp2_with (go_at_call 28; refine (rcmp_any _ _ _ _ _ _ _ l m _ ha hb).mono ?_; rintro e w' ⟨rfl, q, rfl⟩)
  go_ret
  exact ⟨ret_bool (by unfold sameB; rw [Bool.eq_iff_iff]; simp [cmpL_zero]), (by repeat (first | exact Still.refl _ | apply Still.step))⟩

end Go.Proofs.YtfmkhafpbfmadaaGreat

namespace Go.Proofs.YtfmkhafpbfmadaaGreat
open Go.RowKit
set_option maxRecDepth 100000 in
set_option maxHeartbeats 400000 in
theorem rbegins_any (A A' : Option Addr) (n n' c c' B : Nat) (l m : List UInt8) (w : World) (ha : Byt w B A n l) (hb : Byt w B A' n' m) :
    Calls Tryz.prog 35 #[.slice A n c, .slice A' n' c'] w fun e w' => e = .returned (.bool (begB l m)) ∧ Still w w' := by
  have HN' := Lib.hid hb.1
  go_enter Tryz.func35, Tryz.ntmps35
  go_wp2_with (go_at_call 46; refine (rcommon_any _ _ _ _ _ _ _ l m _ ha hb).mono ?_; rintro e w' ⟨rfl, q, rfl⟩)
  go_ret
  exact ⟨ret_bool (by unfold begB; rw [HN'.out, Bool.eq_iff_iff]; simp; omega), (by repeat (first | exact Still.refl _ | apply Still.step))⟩
end Go.Proofs.YtfmkhafpbfmadaaGreat
