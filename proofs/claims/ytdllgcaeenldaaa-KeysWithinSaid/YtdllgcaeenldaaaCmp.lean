/-
  What keys.Cmp, Same, Begins, Within and the document's answer.
-/
import Derived.Test.YtdllgcaeenldaaaCommon
namespace Go.Proofs.Ytdllgcaeenldaaa
open Go.RowKit

theorem cmp_0 {l m : List UInt8} {n n' : Nat} (h : l.length = n) (h' : m.length = n') (e : (lcp l m : Int) = n) (e' : ((n : Int) == n') = true) : (0 : Int) = cmpL l m := by
  simp at e'; exact (cmpL_both (by omega) (by omega)).symm
theorem cmp_m {l m : List UInt8} {n n' : Nat} (h : l.length = n) (h' : m.length = n') (e : (lcp l m : Int) = n) (e' : ((n : Int) == n') = false) : (-1 : Int) = cmpL l m := by
  simp at e'; exact (cmpL_left (by omega) (by omega)).symm
theorem cmp_1 {l m : List UInt8} {n n' : Nat} (h : l.length = n) (h' : m.length = n') (e : ¬ (lcp l m : Int) = n) (e' : ((lcp l m : Int) == n') = true) : (1 : Int) = cmpL l m := by
  simp at e'; exact (cmpL_right (by omega) (by omega)).symm
theorem cmp_lt {l m : List UInt8} {a b : UInt8} (h1 : l[lcp l m]? = some a) (h2 : m[lcp l m]? = some b) (h : (a.toNat : Int) < b.toNat) : (-1 : Int) = cmpL l m := by
  rw [cmpL_part h1 h2, if_pos (by omega)]
theorem cmp_ge {l m : List UInt8} {a b : UInt8} (h1 : l[lcp l m]? = some a) (h2 : m[lcp l m]? = some b) (h : ¬ (a.toNat : Int) < b.toNat) : (1 : Int) = cmpL l m := by
  rw [cmpL_part h1 h2, if_neg (by omega)]

set_option maxHeartbeats 400000 in
theorem cmp_any (A A' : Option Addr) (n n' c c' B : Nat) (l m : List UInt8) (w : World) (ha : Byt w B A n l) (hb : Byt w B A' n' m) :
    Calls Try.prog 9 #[.slice A n c, .slice A' n' c'] w fun e w' => e = .returned (.int .i64 (cmpL l m)) ∧ Still w w' := by
  have na : n ≤ 9223372036854775807 := by have := ha.2.1; unfold maxLen at this; omega
  have nb : n' ≤ 9223372036854775807 := by have := hb.2.1; unfold maxLen at this; omega
  have HN := Lib.hid ha.1
  have HN' := Lib.hid hb.1
  have le1 : lcp l m ≤ n := by have := lcp_le_left l m; have := ha.1; omega
  have le2 : lcp l m ≤ n' := by have := lcp_le_right l m; have := hb.1; omega
  by_cases hp : lcp l m < n ∧ lcp l m < n'
  · obtain ⟨h1, h2⟩ := hp
    obtain ⟨ad, u, rfl, hu1, hu2, hu3⟩ := ha.at_ h1
    obtain ⟨ad', u', rfl, hv1, hv2, hv3⟩ := hb.at_ h2
    have HU := Lib.hid hu2
    have HV := Lib.hid hv2
    clear hu2 hv2
    go_enter Try.func9, Try.ntmps9
    go_wp2_with (go_at_call 13; refine (common_any _ _ _ _ _ _ _ l m _ ha hb).mono ?_; rintro e w' ⟨rfl, q, rfl⟩)
    go_quiet (fail)
    go_wp2
    · go_ret
      exact ⟨ret_int (cmp_lt HU.out HV.out (by omega)), (by repeat (first | exact Still.refl _ | apply Still.step))⟩
    · go_ret
      exact ⟨ret_int (cmp_ge HU.out HV.out (by omega)), (by repeat (first | exact Still.refl _ | apply Still.step))⟩
  · have hx : lcp l m = n ∨ lcp l m = n' := by omega
    have HX := Lib.hid hx
    clear hx hp
    go_enter Try.func9, Try.ntmps9
    go_wp2_with (go_at_call 13; refine (common_any _ _ _ _ _ _ _ l m _ ha hb).mono ?_; rintro e w' ⟨rfl, q, rfl⟩)
    · go_ret
      exact ⟨ret_int (cmp_0 HN.out HN'.out (by assumption) (by assumption)), (by repeat (first | exact Still.refl _ | apply Still.step))⟩
    · go_ret
      exact ⟨ret_int (cmp_m HN.out HN'.out (by assumption) (by assumption)), (by repeat (first | exact Still.refl _ | apply Still.step))⟩
    · go_ret
      exact ⟨ret_int (cmp_1 HN.out HN'.out (by assumption) (by assumption)), (by repeat (first | exact Still.refl _ | apply Still.step))⟩
    · exfalso
      have e1 : ¬ (lcp l m : Int) = n := by assumption
      have e3 : ((lcp l m : Int) == n') = false := by assumption
      have := HX.out
      rw [beq_eq_false_iff_ne] at e3
      omega

set_option maxHeartbeats 400000 in
theorem rcmp_any (A A' : Option Addr) (n n' c c' B : Nat) (l m : List UInt8) (w : World) (ha : Byt w B A n l) (hb : Byt w B A' n' m) :
    Calls Try.prog 10 #[.slice A n c, .slice A' n' c'] w fun e w' => e = .returned (.int .i64 (cmpL l m)) ∧ Still w w' := by
  have na : n ≤ 9223372036854775807 := by have := ha.2.1; unfold maxLen at this; omega
  have nb : n' ≤ 9223372036854775807 := by have := hb.2.1; unfold maxLen at this; omega
  have HN := Lib.hid ha.1
  have HN' := Lib.hid hb.1
  have le1 : lcp l m ≤ n := by have := lcp_le_left l m; have := ha.1; omega
  have le2 : lcp l m ≤ n' := by have := lcp_le_right l m; have := hb.1; omega
  by_cases hp : lcp l m < n ∧ lcp l m < n'
  · obtain ⟨h1, h2⟩ := hp
    obtain ⟨ad, u, rfl, hu1, hu2, hu3⟩ := ha.at_ h1
    obtain ⟨ad', u', rfl, hv1, hv2, hv3⟩ := hb.at_ h2
    have HU := Lib.hid hu2
    have HV := Lib.hid hv2
    clear hu2 hv2
    go_enter Try.func10, Try.ntmps10
    go_wp2_with (go_at_call 14; refine (rcommon_any _ _ _ _ _ _ _ l m _ ha hb).mono ?_; rintro e w' ⟨rfl, q, rfl⟩)
    go_quiet (fail)
    go_wp2
    · go_ret
      exact ⟨ret_int (cmp_lt HU.out HV.out (by omega)), (by repeat (first | exact Still.refl _ | apply Still.step))⟩
    · go_ret
      exact ⟨ret_int (cmp_ge HU.out HV.out (by omega)), (by repeat (first | exact Still.refl _ | apply Still.step))⟩
  · have hx : lcp l m = n ∨ lcp l m = n' := by omega
    have HX := Lib.hid hx
    clear hx hp
    go_enter Try.func10, Try.ntmps10
    go_wp2_with (go_at_call 14; refine (rcommon_any _ _ _ _ _ _ _ l m _ ha hb).mono ?_; rintro e w' ⟨rfl, q, rfl⟩)
    · go_ret
      exact ⟨ret_int (cmp_0 HN.out HN'.out (by assumption) (by assumption)), (by repeat (first | exact Still.refl _ | apply Still.step))⟩
    · go_ret
      exact ⟨ret_int (cmp_m HN.out HN'.out (by assumption) (by assumption)), (by repeat (first | exact Still.refl _ | apply Still.step))⟩
    · go_ret
      exact ⟨ret_int (cmp_1 HN.out HN'.out (by assumption) (by assumption)), (by repeat (first | exact Still.refl _ | apply Still.step))⟩
    · exfalso
      have e1 : ¬ (lcp l m : Int) = n := by assumption
      have e3 : ((lcp l m : Int) == n') = false := by assumption
      have := HX.out
      rw [beq_eq_false_iff_ne] at e3
      omega

/-- Does it begin with it? -/
def begB (k p : List UInt8) : Bool := decide (lcp k p = p.length)
def sameB (l m : List UInt8) : Bool := decide (l = m)

set_option maxHeartbeats 400000 in
theorem begins_any (A A' : Option Addr) (n n' c c' B : Nat) (l m : List UInt8) (w : World) (ha : Byt w B A n l) (hb : Byt w B A' n' m) :
    Calls Try.prog 15 #[.slice A n c, .slice A' n' c'] w fun e w' => e = .returned (.bool (begB l m)) ∧ Still w w' := by
  have HN' := Lib.hid hb.1
  go_enter Try.func15, Try.ntmps15
  go_wp2_with (go_at_call 13; refine (common_any _ _ _ _ _ _ _ l m _ ha hb).mono ?_; rintro e w' ⟨rfl, q, rfl⟩)
  go_ret
  exact ⟨ret_bool (by unfold begB; rw [HN'.out, Bool.eq_iff_iff]; simp; omega), (by repeat (first | exact Still.refl _ | apply Still.step))⟩

set_option maxHeartbeats 400000 in
theorem rbegins_any (A A' : Option Addr) (n n' c c' B : Nat) (l m : List UInt8) (w : World) (ha : Byt w B A n l) (hb : Byt w B A' n' m) :
    Calls Try.prog 16 #[.slice A n c, .slice A' n' c'] w fun e w' => e = .returned (.bool (begB l m)) ∧ Still w w' := by
  have HN' := Lib.hid hb.1
  go_enter Try.func16, Try.ntmps16
  go_wp2_with (go_at_call 14; refine (rcommon_any _ _ _ _ _ _ _ l m _ ha hb).mono ?_; rintro e w' ⟨rfl, q, rfl⟩)
  go_ret
  exact ⟨ret_bool (by unfold begB; rw [HN'.out, Bool.eq_iff_iff]; simp; omega), (by repeat (first | exact Still.refl _ | apply Still.step))⟩

theorem same_iff {l m : List UInt8} {n : Nat} (h : l.length = n) (h' : m.length = n) : ((lcp l m : Int) == (n : Int)) = sameB l m := by
  unfold sameB
  rw [Bool.eq_iff_iff]
  simp only [beq_iff_eq, decide_eq_true_eq]
  constructor
  · intro e
    exact cmpL_zero.1 (cmpL_both (by omega) (by omega))
  · intro e
    subst e
    have := cmpL_self l
    rcases lcp_stop l l with e | e | e
    · omega
    · omega
    · exact absurd rfl e
theorem same_no {l m : List UInt8} {n n' : Nat} (h : l.length = n) (h' : m.length = n') (e : ((n : Int) == (n' : Int)) = false) : false = sameB l m := by
  unfold sameB
  have : l ≠ m := fun q => by subst q; simp at e; omega
  simp [this]

set_option maxHeartbeats 400000 in
theorem same_any (A A' : Option Addr) (n n' c c' B : Nat) (l m : List UInt8) (w : World) (ha : Byt w B A n l) (hb : Byt w B A' n' m) :
    Calls Try.prog 11 #[.slice A n c, .slice A' n' c'] w fun e w' => e = .returned (.bool (sameB l m)) ∧ Still w w' := by
  have HN := Lib.hid ha.1
  have HN' := Lib.hid hb.1
  by_cases hq : n = n'
  · subst hq
    go_enter Try.func11, Try.ntmps11
    go_wp2_with (go_at_call 13; refine (common_any _ _ _ _ _ _ _ l m _ ha hb).mono ?_; rintro e w' ⟨rfl, q, rfl⟩)
    go_ret
    exact ⟨ret_bool (by first | exact same_iff HN.out HN'.out | (rw [← same_iff HN.out HN'.out]; simp)), (by repeat (first | exact Still.refl _ | apply Still.step))⟩
  · have e1 : ((n : Int) == (n' : Int)) = false := by simp; omega
    go_enter Try.func11, Try.ntmps11
    go_wp2_with (go_at_call 13; refine (common_any _ _ _ _ _ _ _ l m _ ha hb).mono ?_; rintro e w' ⟨rfl, q, rfl⟩)
    go_ret
    exact ⟨ret_bool (same_no HN.out HN'.out e1), (by repeat (first | exact Still.refl _ | apply Still.step))⟩

set_option maxHeartbeats 400000 in
theorem rsame_any (A A' : Option Addr) (n n' c c' B : Nat) (l m : List UInt8) (w : World) (ha : Byt w B A n l) (hb : Byt w B A' n' m) :
    Calls Try.prog 12 #[.slice A n c, .slice A' n' c'] w fun e w' => e = .returned (.bool (sameB l m)) ∧ Still w w' := by
  go_enter Try.func12, Try.ntmps12
  go_wp2_with (go_at_call 10; refine (rcmp_any _ _ _ _ _ _ _ l m _ ha hb).mono ?_; rintro e w' ⟨rfl, q, rfl⟩)
  go_ret
  exact ⟨ret_bool (by unfold sameB; rw [Bool.eq_iff_iff]; simp [cmpL_zero]), (by repeat (first | exact Still.refl _ | apply Still.step))⟩

/-- Does it stand between two? -/
def withinB (k a b : List UInt8) (o : Bool) : Bool := decide (0 ≤ cmpL k a) && (o || decide (cmpL k b < 0))

set_option maxHeartbeats 400000 in
theorem within_any (A0 A1 A2 : Option Addr) (n0 n1 n2 c0 c1 c2 B : Nat) (l a b : List UInt8) (o : Bool) (w : World) (h0 : Byt w B A0 n0 l) (h1 : Byt w B A1 n1 a) (h2 : Byt w B A2 n2 b) :
    Calls Try.prog 19 #[.slice A0 n0 c0, .slice A1 n1 c1, .slice A2 n2 c2, .bool o] w fun e w' => e = .returned (.bool (withinB l a b o)) ∧ Still w w' := by
  by_cases g : 0 ≤ cmpL l a
  · cases o with
    | true =>
      go_enter Try.func19, Try.ntmps19
      go_wp2_with (go_at_call 9; refine (cmp_any _ _ _ _ _ _ _ l a _ h0 h1).mono ?_; rintro e w' ⟨rfl, q, rfl⟩)
      go_ret
      exact ⟨ret_bool (by simp [withinB, g]), (by repeat (first | exact Still.refl _ | apply Still.step))⟩
    | false =>
      have hk : ∀ q, Byt (w.drewN q) B A0 n0 l ∧ Byt (w.drewN q) B A2 n2 b := fun q => ⟨h0.drewN q, h2.drewN q⟩
      have HK := Lib.hid hk
      clear hk
      go_enter Try.func19, Try.ntmps19
      go_wp2_with fail
      refine (cmp_any _ _ _ _ _ _ _ l a _ h0 h1).mono ?_
      rintro e w' ⟨rfl, q, rfl⟩
      go_wp2_with fail
      refine (cmp_any _ _ _ _ _ _ _ l b _ (HK.out q).1 (HK.out q).2).mono ?_
      rintro e w' ⟨rfl, q', rfl⟩
      go_wp2
      go_ret
      exact ⟨ret_bool (by simp [withinB, g]), (by repeat (first | exact Still.refl _ | apply Still.step))⟩
  · go_enter Try.func19, Try.ntmps19
    go_wp2_with (go_at_call 9; refine (cmp_any _ _ _ _ _ _ _ l a _ h0 h1).mono ?_; rintro e w' ⟨rfl, q, rfl⟩)
    go_ret
    exact ⟨ret_bool (by have g' : ¬ 0 ≤ cmpL l a := by omega
                        simp [withinB, g']), (by repeat (first | exact Still.refl _ | apply Still.step))⟩

set_option maxHeartbeats 400000 in
theorem rwithin_any (A0 A1 A2 : Option Addr) (n0 n1 n2 c0 c1 c2 B : Nat) (l a b : List UInt8) (o : Bool) (w : World) (h0 : Byt w B A0 n0 l) (h1 : Byt w B A1 n1 a) (h2 : Byt w B A2 n2 b) :
    Calls Try.prog 25 #[.slice A0 n0 c0, .slice A1 n1 c1, .slice A2 n2 c2, .bool o] w fun e w' => e = .returned (.bool (withinB l a b o)) ∧ Still w w' := by
  by_cases g : 0 ≤ cmpL l a
  · cases o with
    | true =>
      go_enter Try.func25, Try.ntmps25
      go_wp2_with (go_at_call 10; refine (rcmp_any _ _ _ _ _ _ _ l a _ h0 h1).mono ?_; rintro e w' ⟨rfl, q, rfl⟩)
      go_ret
      exact ⟨ret_bool (by simp [withinB, g]), (by repeat (first | exact Still.refl _ | apply Still.step))⟩
    | false =>
      have hk : ∀ q, Byt (w.drewN q) B A0 n0 l ∧ Byt (w.drewN q) B A2 n2 b := fun q => ⟨h0.drewN q, h2.drewN q⟩
      have HK := Lib.hid hk
      clear hk
      go_enter Try.func25, Try.ntmps25
      go_wp2_with fail
      refine (rcmp_any _ _ _ _ _ _ _ l a _ h0 h1).mono ?_
      rintro e w' ⟨rfl, q, rfl⟩
      go_wp2_with fail
      refine (rcmp_any _ _ _ _ _ _ _ l b _ (HK.out q).1 (HK.out q).2).mono ?_
      rintro e w' ⟨rfl, q', rfl⟩
      go_wp2
      go_ret
      exact ⟨ret_bool (by simp [withinB, g]), (by repeat (first | exact Still.refl _ | apply Still.step))⟩
  · go_enter Try.func25, Try.ntmps25
    go_wp2_with (go_at_call 10; refine (rcmp_any _ _ _ _ _ _ _ l a _ h0 h1).mono ?_; rintro e w' ⟨rfl, q, rfl⟩)
    go_ret
    exact ⟨ret_bool (by have g' : ¬ 0 ≤ cmpL l a := by omega
                        simp [withinB, g']), (by repeat (first | exact Still.refl _ | apply Still.step))⟩

end Go.Proofs.Ytdllgcaeenldaaa
