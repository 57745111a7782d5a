/-
  What the document's Common, Cmp and Same (layer 1) answer: with how many bytes both begin, their order, whether they are the same.
  What keys.Common and the document's Common answer: with how many bytes both begin.
  What keys.Cmp, Same, Begins, Within and the document's answer.
  What keys.Next and the document's Next answer: the next one of a prefix, and whether there is one.
-/
import Derived.Test.YtofccfbiappgaaaDoorChecked
import Derived.Test.YtofccfbiappgaaaDoorMem
import Derived.Test.YtofccfbiappgaaaDoorPure
namespace Go.Proofs.YtofccfbiappgaaaDoor
open Go.RowKit

theorem u8_ne {a b : UInt8} (h : ((a.toNat : Int) != (b.toNat : Int)) = true) : a ≠ b := fun e => by subst e; simp at h
theorem u8_eq {a b : UInt8} (h : ((a.toNat : Int) != (b.toNat : Int)) = false) : a = b := UInt8.toNat_inj.1 (by simp at h; omega)
theorem u8_eq' {a b : UInt8} (h : ((a.toNat : Int) == (b.toNat : Int)) = true) : a = b := UInt8.toNat_inj.1 (by simp at h; omega)
theorem u8_ne' {a b : UInt8} (h : ((a.toNat : Int) == (b.toNat : Int)) = false) : a ≠ b := fun e => by subst e; simp at h

theorem part_at {l m : List UInt8} {k : Nat} {a b : UInt8} (hg : Agree l m k) (ha : l[k]? = some a) (hb : m[k]? = some b) (h : a ≠ b) : (k : Int) = lcp l m := by
  rw [lcp_of hg (.inr (.inr (by rw [ha, hb]; simpa using h)))]
theorem end_at {l m : List UInt8} {k n n' : Nat} (hg : Agree l m k) (h1 : l.length = n) (h2 : m.length = n') (hk : k = n ∨ k = n') : (k : Int) = lcp l m := by
  rw [lcp_of hg (by rcases hk with e | e; exact .inl (by omega); exact .inr (.inl (by omega)))]

set_option maxRecDepth 100000 in
set_option maxHeartbeats 400000 in
theorem rcommon_any (A A' : Option Addr) (n n' c c' B : Nat) (l m : List UInt8) (w : World) (ha : Byt w B A n l) (hb : Byt w B A' n' m) :
    Calls Tryd.prog 44 #[.slice A n c, .slice A' n' c'] w fun e w' => e = .returned (.int .i64 (lcp l m : Int)) ∧ Still w w' := by
  have na : n ≤ 9223372036854775807 := by have := ha.2.1; unfold maxLen at this; omega
  have nb : n' ≤ 9223372036854775807 := by have := hb.2.1; unfold maxLen at this; omega
  have HN := Lib.hid ha.1
  have HN' := Lib.hid hb.1
  go_enter Tryd.func44, Tryd.ntmps44
  go_wp2
  go_loopw [5] (fun i wr => ∃ k : Nat, k ≤ n ∧ k ≤ n' ∧ i = .int .i64 k ∧ Agree l m k ∧ Still w wr) (fun i _ => n + n' - (intOf i).toNat)
  case atStart => exact ⟨0, Nat.zero_le _, Nat.zero_le _, rfl, Agree.zero _ _, Still.refl _⟩
  case round =>
    obtain ⟨k, hk, hk', rfl, hag, q, rfl⟩ := hrel
    by_cases h1 : k < n
    · have d1 : decide (k < n) = true := by simpa using h1
      by_cases h2 : k < n'
      · have d2 : decide (k < n') = true := by simpa using h2
        obtain ⟨ad, u, rfl, hu1, hu2, hu3⟩ := ha.at_ h1
        obtain ⟨ad', u', rfl, hv1, hv2, hv3⟩ := hb.at_ h2
        have HU := Lib.hid hu2
        have HV := Lib.hid hv2
        clear hu2 hv2
        go_wp2
        go_quiet (fail)
        go_wp2
        · exact ⟨⟨k + 1, by omega, by omega, by go_num, hag.succ HU.out HV.out (u8_eq' (by assumption)), (by repeat (first | exact Still.refl _ | apply Still.step))⟩, by simp [intOf]; omega⟩
        · go_ret
          exact ⟨ret_int (part_at hag HU.out HV.out (u8_ne' (by assumption))), (by repeat (first | exact Still.refl _ | apply Still.step))⟩
      · have d2 : decide (k < n') = false := by simpa using h2
        go_wp2
        go_quiet (fail)
        go_wp2
        go_ret
        exact ⟨ret_int (by rw [← end_at hag HN.out HN'.out (by omega)]), (by repeat (first | exact Still.refl _ | apply Still.step))⟩
    · have d1 : decide (k < n) = false := by simpa using h1
      go_wp2
      go_quiet (fail)
      go_wp2
      go_ret
      exact ⟨ret_int (by rw [← end_at hag HN.out HN'.out (by omega)]), (by repeat (first | exact Still.refl _ | apply Still.step))⟩
theorem cmp_0 {l m : List UInt8} {n n' : Nat} (h : l.length = n) (h' : m.length = n') (e : (lcp l m : Int) = n) (e' : ((n : Int) == n') = true) : (0 : Int) = cmpL l m := by
  simp at e'; exact (cmpL_both (by omega) (by omega)).symm
theorem cmp_m {l m : List UInt8} {n n' : Nat} (h : l.length = n) (h' : m.length = n') (e : (lcp l m : Int) = n) (e' : ((n : Int) == n') = false) : (-1 : Int) = cmpL l m := by
  simp at e'; exact (cmpL_left (by omega) (by omega)).symm
theorem cmp_1 {l m : List UInt8} {n n' : Nat} (h : l.length = n) (h' : m.length = n') (e : ¬ (lcp l m : Int) = n) (e' : ((lcp l m : Int) == n') = true) : (1 : Int) = cmpL l m := by
  simp at e'; exact (cmpL_right (by omega) (by omega)).symm
theorem cmp_lt {l m : List UInt8} {a b : UInt8} (h1 : l[lcp l m]? = some a) (h2 : m[lcp l m]? = some b) (h : (a.toNat : Int) < b.toNat) : (-1 : Int) = cmpL l m := by
  rw [cmpL_part h1 h2, if_pos (by omega)]
theorem cmp_ge {l m : List UInt8} {a b : UInt8} (h1 : l[lcp l m]? = some a) (h2 : m[lcp l m]? = some b) (h : ¬ (a.toNat : Int) < b.toNat) : (1 : Int) = cmpL l m := by
  rw [cmpL_part h1 h2, if_neg (by omega)]

set_option maxRecDepth 100000 in
set_option maxHeartbeats 400000 in
theorem rcmp_any (A A' : Option Addr) (n n' c c' B : Nat) (l m : List UInt8) (w : World) (ha : Byt w B A n l) (hb : Byt w B A' n' m) :
    Calls Tryd.prog 34 #[.slice A n c, .slice A' n' c'] w fun e w' => e = .returned (.int .i64 (cmpL l m)) ∧ Still w w' := by
  have na : n ≤ 9223372036854775807 := by have := ha.2.1; unfold maxLen at this; omega
  have nb : n' ≤ 9223372036854775807 := by have := hb.2.1; unfold maxLen at this; omega
  have HN := Lib.hid ha.1
  have HN' := Lib.hid hb.1
  have le1 : lcp l m ≤ n := by have := lcp_le_left l m; have := ha.1; omega
  have le2 : lcp l m ≤ n' := by have := lcp_le_right l m; have := hb.1; omega
  by_cases hp : lcp l m < n ∧ lcp l m < n'
  · obtain ⟨h1, h2⟩ := hp
    obtain ⟨ad, u, rfl, hu1, hu2, hu3⟩ := ha.at_ h1
    obtain ⟨ad', u', rfl, hv1, hv2, hv3⟩ := hb.at_ h2
    have HU := Lib.hid hu2
    have HV := Lib.hid hv2
    clear hu2 hv2
    go_enter Tryd.func34, Tryd.ntmps34
    go_wp2_with (go_at_call 44; refine (rcommon_any _ _ _ _ _ _ _ l m _ ha hb).mono ?_; rintro e w' ⟨rfl, q, rfl⟩)
    go_quiet (fail)
    go_wp2
    · go_ret
      exact ⟨ret_int (cmp_lt HU.out HV.out (by omega)), (by repeat (first | exact Still.refl _ | apply Still.step))⟩
    · go_ret
      exact ⟨ret_int (cmp_ge HU.out HV.out (by omega)), (by repeat (first | exact Still.refl _ | apply Still.step))⟩
  · have hx : lcp l m = n ∨ lcp l m = n' := by omega
    have HX := Lib.hid hx
    clear hx hp
    go_enter Tryd.func34, Tryd.ntmps34
    go_wp2_with (go_at_call 44; refine (rcommon_any _ _ _ _ _ _ _ l m _ ha hb).mono ?_; rintro e w' ⟨rfl, q, rfl⟩)
    · go_ret
      exact ⟨ret_int (cmp_0 HN.out HN'.out (by assumption) (by assumption)), (by repeat (first | exact Still.refl _ | apply Still.step))⟩
    · go_ret
      exact ⟨ret_int (cmp_m HN.out HN'.out (by assumption) (by assumption)), (by repeat (first | exact Still.refl _ | apply Still.step))⟩
    · go_ret
      exact ⟨ret_int (cmp_1 HN.out HN'.out (by assumption) (by assumption)), (by repeat (first | exact Still.refl _ | apply Still.step))⟩
    · exfalso
      have e1 : ¬ (lcp l m : Int) = n := by assumption
      have e3 : ((lcp l m : Int) == n') = false := by assumption
      have := HX.out
      rw [beq_eq_false_iff_ne] at e3
      omega

def sameB (l m : List UInt8) : Bool := decide (l = m)

set_option maxRecDepth 100000 in
set_option maxHeartbeats 400000 in
theorem rsame_any (A A' : Option Addr) (n n' c c' B : Nat) (l m : List UInt8) (w : World) (ha : Byt w B A n l) (hb : Byt w B A' n' m) :
    Calls Tryd.prog 29 #[.slice A n c, .slice A' n' c'] w fun e w' => e = .returned (.bool (sameB l m)) ∧ Still w w' := by
  go_enter Tryd.func29, Tryd.ntmps29
  go_wp2_with (go_at_call 34; refine (rcmp_any _ _ _ _ _ _ _ l m _ ha hb).mono ?_; rintro e w' ⟨rfl, q, rfl⟩)
  go_ret
  exact ⟨ret_bool (by unfold sameB; rw [Bool.eq_iff_iff]; simp [cmpL_zero]), (by repeat (first | exact Still.refl _ | apply Still.step))⟩

end Go.Proofs.YtofccfbiappgaaaDoor

namespace Go.Proofs.YtofccfbiappgaaaDoor
open Go.RowKit

set_option maxRecDepth 100000 in
set_option maxHeartbeats 400000 in
theorem common_any (A A' : Option Addr) (n n' c c' B : Nat) (l m : List UInt8) (w : World) (ha : Byt w B A n l) (hb : Byt w B A' n' m) :
    Calls Tryd.prog 45 #[.slice A n c, .slice A' n' c'] w fun e w' => e = .returned (.int .i64 (lcp l m : Int)) ∧ Still w w' := by
  have na : n ≤ 9223372036854775807 := by have := ha.2.1; unfold maxLen at this; omega
  have nb : n' ≤ 9223372036854775807 := by have := hb.2.1; unfold maxLen at this; omega
  have HN := Lib.hid ha.1
  have HN' := Lib.hid hb.1
  go_enter Tryd.func45, Tryd.ntmps45
  go_wp2
  all_goals
    rename_i hmin
    go_loopw [13] (fun i wr => ∃ k : Nat, k ≤ n ∧ k ≤ n' ∧ i = .int .i64 k ∧ Agree l m k ∧ Still w wr) (fun i _ => n + n' - (intOf i).toNat)
    case atStart => exact ⟨0, Nat.zero_le _, Nat.zero_le _, rfl, Agree.zero _ _, Still.refl _⟩
    case round =>
      obtain ⟨k, hk, hk', rfl, hag, q, rfl⟩ := hrel
      by_cases hlt : k < n ∧ k < n'
      · obtain ⟨h1, h2⟩ := hlt
        obtain ⟨ad, u, rfl, hu1, hu2, hu3⟩ := ha.at_ h1
        obtain ⟨ad', u', rfl, hv1, hv2, hv3⟩ := hb.at_ h2
        have HU := Lib.hid hu2
        have HV := Lib.hid hv2
        clear hu2 hv2
        go_wp2
        go_quiet (fail)
        go_wp2
        · go_ret
          exact ⟨ret_int (part_at hag HU.out HV.out (u8_ne (by assumption))), (by repeat (first | exact Still.refl _ | apply Still.step))⟩
        · exact ⟨⟨k + 1, by omega, by omega, by go_num, hag.succ HU.out HV.out (u8_eq (by assumption)), (by repeat (first | exact Still.refl _ | apply Still.step))⟩, by simp [intOf]; omega⟩
      · go_wp2
        go_ret
        exact ⟨ret_int (by rw [← end_at hag HN.out HN'.out (by omega)]; omega), (by repeat (first | exact Still.refl _ | apply Still.step))⟩

end Go.Proofs.YtofccfbiappgaaaDoor

namespace Go.Proofs.YtofccfbiappgaaaDoor
open Go.RowKit

set_option maxRecDepth 100000 in
set_option maxHeartbeats 400000 in
theorem cmp_any (A A' : Option Addr) (n n' c c' B : Nat) (l m : List UInt8) (w : World) (ha : Byt w B A n l) (hb : Byt w B A' n' m) :
    Calls Tryd.prog 43 #[.slice A n c, .slice A' n' c'] w fun e w' => e = .returned (.int .i64 (cmpL l m)) ∧ Still w w' := by
  have na : n ≤ 9223372036854775807 := by have := ha.2.1; unfold maxLen at this; omega
  have nb : n' ≤ 9223372036854775807 := by have := hb.2.1; unfold maxLen at this; omega
  have HN := Lib.hid ha.1
  have HN' := Lib.hid hb.1
  have le1 : lcp l m ≤ n := by have := lcp_le_left l m; have := ha.1; omega
  have le2 : lcp l m ≤ n' := by have := lcp_le_right l m; have := hb.1; omega
  by_cases hp : lcp l m < n ∧ lcp l m < n'
  · obtain ⟨h1, h2⟩ := hp
    obtain ⟨ad, u, rfl, hu1, hu2, hu3⟩ := ha.at_ h1
    obtain ⟨ad', u', rfl, hv1, hv2, hv3⟩ := hb.at_ h2
    have HU := Lib.hid hu2
    have HV := Lib.hid hv2
    clear hu2 hv2
    go_enter Tryd.func43, Tryd.ntmps43
    go_wp2_with (go_at_call 45; refine (common_any _ _ _ _ _ _ _ l m _ ha hb).mono ?_; rintro e w' ⟨rfl, q, rfl⟩)
    go_quiet (fail)
    go_wp2
    · go_ret
      exact ⟨ret_int (cmp_lt HU.out HV.out (by omega)), (by repeat (first | exact Still.refl _ | apply Still.step))⟩
    · go_ret
      exact ⟨ret_int (cmp_ge HU.out HV.out (by omega)), (by repeat (first | exact Still.refl _ | apply Still.step))⟩
  · have hx : lcp l m = n ∨ lcp l m = n' := by omega
    have HX := Lib.hid hx
    clear hx hp
    go_enter Tryd.func43, Tryd.ntmps43
    go_wp2_with (go_at_call 45; refine (common_any _ _ _ _ _ _ _ l m _ ha hb).mono ?_; rintro e w' ⟨rfl, q, rfl⟩)
    · go_ret
      exact ⟨ret_int (cmp_0 HN.out HN'.out (by assumption) (by assumption)), (by repeat (first | exact Still.refl _ | apply Still.step))⟩
    · go_ret
      exact ⟨ret_int (cmp_m HN.out HN'.out (by assumption) (by assumption)), (by repeat (first | exact Still.refl _ | apply Still.step))⟩
    · go_ret
      exact ⟨ret_int (cmp_1 HN.out HN'.out (by assumption) (by assumption)), (by repeat (first | exact Still.refl _ | apply Still.step))⟩
    · exfalso
      have e1 : ¬ (lcp l m : Int) = n := by assumption
      have e3 : ((lcp l m : Int) == n') = false := by assumption
      have := HX.out
      rw [beq_eq_false_iff_ne] at e3
      omega

theorem same_iff {l m : List UInt8} {n : Nat} (h : l.length = n) (h' : m.length = n) : ((lcp l m : Int) == (n : Int)) = sameB l m := by
  unfold sameB
  rw [Bool.eq_iff_iff]
  simp only [beq_iff_eq, decide_eq_true_eq]
  constructor
  · intro e
    exact cmpL_zero.1 (cmpL_both (by omega) (by omega))
  · intro e
    subst e
    have := cmpL_self l
    rcases lcp_stop l l with e | e | e
    · omega
    · omega
    · exact absurd rfl e
theorem same_no {l m : List UInt8} {n n' : Nat} (h : l.length = n) (h' : m.length = n') (e : ((n : Int) == (n' : Int)) = false) : false = sameB l m := by
  unfold sameB
  have : l ≠ m := fun q => by subst q; simp at e; omega
  simp [this]

set_option maxRecDepth 100000 in
set_option maxHeartbeats 400000 in
theorem same_any (A A' : Option Addr) (n n' c c' B : Nat) (l m : List UInt8) (w : World) (ha : Byt w B A n l) (hb : Byt w B A' n' m) :
    Calls Tryd.prog 35 #[.slice A n c, .slice A' n' c'] w fun e w' => e = .returned (.bool (sameB l m)) ∧ Still w w' := by
  have HN := Lib.hid ha.1
  have HN' := Lib.hid hb.1
  by_cases hq : n = n'
  · subst hq
    go_enter Tryd.func35, Tryd.ntmps35
    go_wp2_with (go_at_call 45; refine (common_any _ _ _ _ _ _ _ l m _ ha hb).mono ?_; rintro e w' ⟨rfl, q, rfl⟩)
    go_ret
    exact ⟨ret_bool (by first | exact same_iff HN.out HN'.out | (rw [← same_iff HN.out HN'.out]; simp)), (by repeat (first | exact Still.refl _ | apply Still.step))⟩
  · have e1 : ((n : Int) == (n' : Int)) = false := by simp; omega
    go_enter Tryd.func35, Tryd.ntmps35
    go_wp2_with (go_at_call 45; refine (common_any _ _ _ _ _ _ _ l m _ ha hb).mono ?_; rintro e w' ⟨rfl, q, rfl⟩)
    go_ret
    exact ⟨ret_bool (same_no HN.out HN'.out e1), (by repeat (first | exact Still.refl _ | apply Still.step))⟩

/-- Does it stand between two? -/
def withinB (k a b : List UInt8) (o : Bool) : Bool := decide (0 ≤ cmpL k a) && (o || decide (cmpL k b < 0))

end Go.Proofs.YtofccfbiappgaaaDoor

namespace Go.Proofs.YtofccfbiappgaaaDoor
open Go.RowKit

theorem r_at {l : List UInt8} {k : Nat} {u : UInt8} (ht : Tail l (k + 1)) (hu : l[k]? = some u) (h : ((u.toNat : Int) != 255) = true) : (k : Int) + 1 = (rais l : Int) := by
  have : u ≠ 255 := fun q => by subst q; simp at h
  rw [rais_of ht (.inr ⟨u, by simpa using hu, this⟩)]; omega
theorem u_255 {u : UInt8} (h : ((u.toNat : Int) != 255) = false) : u = 255 := UInt8.toNat_inj.1 (by simp at h; simp; omega)
theorem u_255' {u : UInt8} (h : ((u.toNat : Int) == 255) = true) : u = 255 := UInt8.toNat_inj.1 (by simp at h; simp; omega)

set_option maxRecDepth 100000 in
set_option maxHeartbeats 400000 in
theorem raisable_any (A : Option Addr) (n c B : Nat) (l : List UInt8) (w : World) (ha : Byt w B A n l) :
    Calls Tryd.prog 41 #[.slice A n c] w fun e w' => e = .returned (.int .i64 (rais l : Int)) ∧ Still w w' := by
  have na : n ≤ 9223372036854775807 := by have := ha.2.1; unfold maxLen at this; omega
  have HN := Lib.hid ha.1
  have ht0 : Tail l n := by rw [← ha.1]; exact Tail.start l
  go_enter Tryd.func41, Tryd.ntmps41
  go_wp2
  go_loop [7] (fun i => ∃ k : Nat, k ≤ n ∧ i = .int .i64 k ∧ Tail l (n - k)) (fun i => n - (intOf i).toNat)
  case atStart => exact ⟨0, Nat.zero_le _, rfl, ht0⟩
  case round =>
    obtain ⟨k, hk, rfl, ht⟩ := hrel
    by_cases h1 : k < n
    · obtain ⟨j, hj⟩ : ∃ j, n = k + (j + 1) := ⟨n - k - 1, by omega⟩
      subst hj
      obtain ⟨ad, u, rfl, hu1, hu2, hu3⟩ := ha.at_ (k := j) (by omega)
      have HU := Lib.hid hu2
      have ht' : Tail l (j + 1) := by have e : k + (j + 1) - k = j + 1 := by omega
                                      rw [e] at ht; exact ht
      clear hu2 ht
      have q1 : ((k : Int) + (j + 1) - k) = j + 1 := by omega
      have q2 : ((k : Int) + (j + 1) - k - 1) = j := by omega
      go_wp2
      · go_ret
        exact ⟨ret_int (r_at ht' HU.out (by assumption)), Still.refl _⟩
      · exact ⟨⟨k + 1, by omega, by go_num, by rw [show k + (j + 1) - (k + 1) = j from by omega]; exact ht'.prev HU.out (u_255 (by assumption))⟩, by simp [intOf]; omega⟩
    · go_wp2
      go_ret
      exact ⟨ret_int (by rw [rais_of (k := 0) (by rw [show 0 = n - k from by omega]; exact ht) (.inl rfl)]; rfl), Still.refl _⟩

/-- What Next leaves: the next one of l in memory of its own, or nil. -/
def NextPost (w : World) (l : List UInt8) (e : Ending) (w' : World) : Prop :=
  ∃ A n c, e = .returned (.tuple #[.slice A n c, .bool (nextB l)]) ∧ Byt w' w'.heap.size A n (nextL l) ∧ Below w.heap.size w w'

theorem NextPost.none_ {w w' : World} {l : List UInt8} (h : rais l = 0) (hb : Below w.heap.size w w') : NextPost w l (.returned (.tuple #[.slice none 0 0, .bool false])) w' := by
  refine ⟨none, 0, 0, ?_, ?_, hb⟩
  · have : nextB l = false := by simp [nextB, h]
    rw [this]
  · rw [nextL_none h]; exact Byt.none_
theorem NextPost.some_ {w w3 : World} {e : TypeId} {l : List UInt8} {k c : Nat} {u : UInt8} {g : Nat} (h : rais l = k + 1) (hu : l[k]? = some u) (hr : Row w3 g e (l.take (k + 1))) (hb : Below w.heap.size w w3) (hg : w.heap.size ≤ g) (hm : k + 1 ≤ maxLen) :
    NextPost w l (.returned (.tuple #[.slice (some ⟨g, 0, none⟩) (k + 1) c, .bool true])) (w3.setCell ⟨g, k, none⟩ (.int .u8 (((u.toNat : Int) + 1) % 256))) := by
  have e1 : ((u.toNat : Int) + 1) % 256 = ((u + 1).toNat : Int) := by rw [UInt8.toNat_add]; simp
  rw [e1]
  refine ⟨some ⟨g, 0, none⟩, k + 1, c, ?_, ?_, hb.setCell (p := ⟨g, k, none⟩) hg _⟩
  · have : nextB l = true := by simp [nextB, h]
    rw [this]
  · have h2 := hr.set_ k (u + 1)
    rw [nextL_some h hu] at h2
    exact h2.byt (by rw [nextL_length, h]) hm (by have := hr.lt; simpa [World.setCell] using this)
theorem NextPost.some' {w w1 : World} {base : Nat} {e : TypeId} {l : List UInt8} {k c : Nat} {u : UInt8} {g : Nat} (h : rais l = k + 1) (hu : l[k]? = some u) (hr : Mine w1 base e (.slice (some ⟨g, 0, none⟩) (k + 1) c) (k + 1) (l.take (k + 1))) (hb : Below w.heap.size w w1) (hg : w.heap.size ≤ g) :
    NextPost w l (.returned (.tuple #[.slice (some ⟨g, 0, none⟩) (k + 1) c, .bool true])) (w1.setCell ⟨g, k, none⟩ (.int .u8 (((u.toNat : Int) + 1) % 256))) := by
  have e1 : ((u.toNat : Int) + 1) % 256 = ((u + 1).toNat : Int) := by rw [UInt8.toNat_add]; simp
  rw [e1]
  refine ⟨some ⟨g, 0, none⟩, k + 1, c, ?_, ?_, hb.setCell (p := ⟨g, k, none⟩) hg _⟩
  · have : nextB l = true := by simp [nextB, h]
    rw [this]
  · have h2 := hr.set_ k (u + 1)
    rw [nextL_some h hu] at h2
    exact h2.byt
theorem add_one_u8 (u : UInt8) (h : u ≠ 255) : ((u.toNat : Int) + 1) = ((u + 1).toNat : Int) := by
  have h1 : u.toNat < 256 := u.toNat_lt
  have h2 : u.toNat ≠ 255 := fun q => h (UInt8.toNat_inj.1 (by simpa using q))
  rw [UInt8.toNat_add]; simp; omega

set_option maxRecDepth 100000 in
set_option maxHeartbeats 400000 in
theorem next_any (A : Option Addr) (n c B : Nat) (l : List UInt8) (w : World) (ha : Byt w B A n l) (hB : B ≤ w.heap.size) (hs : n ≤ 281474976710656) :
    Calls Tryd.prog 30 #[.slice A n c] w (NextPost w l) := by
  have hl := rais_le l
  have HN := Lib.hid ha.1
  have hle : rais l ≤ n := by have := ha.1; omega
  obtain ⟨htl, hst⟩ := rais_tail l
  by_cases h0 : rais l = 0
  · have H0 := Lib.hid h0
    have e0 : ((rais l : Int) == 0) = true := by simp [h0]
    clear h0
    go_enter Tryd.func30, Tryd.ntmps30
    go_wp2_with (go_at_call 41; refine (raisable_any _ _ _ _ l _ ha).mono ?_; rintro e w' ⟨rfl, q, rfl⟩)
    go_ret2
    exact NextPost.none_ H0.out (below_drewN (Below.refl _ _) _)
  · obtain ⟨u, hu, hne⟩ : ∃ u, l[rais l - 1]? = some u ∧ u ≠ 255 := by rcases hst with h | h; exact absurd h h0; exact h
    obtain ⟨k, hk⟩ : ∃ k, rais l = k + 1 := ⟨rais l - 1, by omega⟩
    have HK := Lib.hid hk
    rw [hk] at hu
    have HU := Lib.hid (show l[k]? = some u from by simpa using hu)
    have hra := raisable_any A n c B l w ha
    rw [hk] at hra
    have HR := Lib.hid hra
    have hkn : k + 1 ≤ n := by omega
    have hmk : ∀ W : World, (Instr.makeSlice 22 (.int .i64 ((k : Int) + 1)) (.int .i64 ((k : Int) + 1))).run Tryd.prog W = .ok (.slice (some ⟨W.heap.size, 0, none⟩) (k + 1) (k + 1)) (W.alloc (.cells (bvs (List.replicate (k + 1) 0)) 5)) := make_bytes (P := Tryd.prog) Tryd.underlying22 info_u8 (k + 1) (by omega)
    clear hst htl hl hk hu hra h0 hle
    go_enter Tryd.func30, Tryd.ntmps30
    go_wp2_with fail
    refine HR.out.mono ?_
    rintro e w' ⟨rfl, q, rfl⟩
    go_wp2_with (
      with_reducible refine wpList_copy_row rfl (.tmp 12) (.tmp 13) 22 22 rfl 5 Tryd.underlying22 size_u8 w.heap.size (k + 1) (k + 1) A n c B (List.replicate (k + 1) 0) l rfl rfl (Row.new _ _ _) (by simp) ((ha.drewN q).alloc (by simpa using hB) _) ?_
      intro w3 hrow hbel
      have hrow' : Row w3 w.heap.size 5 (l.take (k + 1)) := by
        have := hrow.out
        rwa [List.drop_of_length_le (by simp; omega), List.append_nil] at this
      have hc3 := hrow'.cell (i := k) (u := u) (by rw [List.getElem?_take, if_pos (by omega)]; exact HU.out)
      have hf3 := hrow'.frozen k
      have hb3 : Below w.heap.size w w3 := (((below_drewN (Below.refl _ _) q).alloc (by simp) _).trans hbel)
      have HROW := Lib.hid hrow'
      have HB3 := Lib.hid hb3
      clear hrow hrow' hbel hb3)
    go_ret2
    exact NextPost.some_ HK.out HU.out HROW.out HB3.out (Nat.le_refl _) (by unfold maxLen; omega)

/-- One more round of a loop that strikes the bytes 255 at the end. -/
theorem rnext_at {l : List UInt8} {k : Nat} {u : UInt8} (ht : Tail l (k + 1)) (hu : l[k]? = some u) (h : ((u.toNat : Int) == 255) = false) : rais l = k + 1 := by
  have : u ≠ 255 := fun q => by subst q; simp at h
  exact rais_of ht (.inr ⟨u, by simpa using hu, this⟩)

set_option maxRecDepth 100000 in
set_option maxHeartbeats 400000 in
theorem rnext_any (A : Option Addr) (n c B : Nat) (l : List UInt8) (w : World) (ha : Byt w B A n l) (hc : n ≤ c) (hs : n ≤ 140737488355328) :
    Calls Tryd.prog 32 #[.slice A n c] w (NextPost w l) := by
  have na : n ≤ 9223372036854775807 := by omega
  have HN := Lib.hid ha.1
  have ht0 : Tail l n := by rw [← ha.1]; exact Tail.start l
  obtain ⟨i0, hi0, hz0, hz1, hz2⟩ := info_parts info_u8
  go_enter Tryd.func32, Tryd.ntmps32
  go_wp2
  go_loop [4] (fun i => ∃ k : Nat, k ≤ n ∧ i = .int .i64 k ∧ Tail l k) (fun i => (intOf i).toNat)
  case atStart => exact ⟨n, Nat.le_refl _, rfl, ht0⟩
  case round =>
    obtain ⟨k, hk, rfl, ht⟩ := hrel
    cases k with
    | zero =>
      have H0 := Lib.hid (rais_of ht (.inl rfl))
      clear ht
      go_wp2
      go_ret2
      exact NextPost.none_ H0.out (Below.refl _ _)
    | succ k =>
      obtain ⟨ad, u, rfl, hu1, hu2, hu3⟩ := ha.at_ (k := k) (by omega)
      have HU := Lib.hid hu2
      clear hu2
      go_wp2_with (
        at_builtin
        refine wpList_append_byt _ rfl (.const (.slice none 0 0)) (.tmp 24) _ rfl Tryd.underlying22 info_u8 w.heap.size (.slice none 0 0) 0 [] rfl (Mine.nil _ _ _) B (some ad) (k + 1) c (l.take (k + 1)) rfl (ha.take hk) (by omega) (Nat.le_refl _) ?_
        intro v1 w1 hm1 hg1 _
        rw [Nat.zero_add, List.nil_append] at hm1
        obtain ⟨g, cap, rfl, hgl, hgs⟩ := World.ownsRow.form hm1 (by omega)
        have hc1 := hm1.cell (j := k) (u := u) (by rw [List.getElem?_take, if_pos (by omega)]; exact HU.out)
        have hf1 := hm1.frozen k
        have HM := Lib.hid hm1
        have HB1 := Lib.hid ((Below.refl w.heap.size w).grown hg1 (Nat.le_refl _) (by simp [Value.ownBlock]))
        clear hm1 hg1)
      · exact ⟨⟨k, by omega, rfl, ht.prev HU.out (u_255' (by assumption))⟩, by simp [intOf]⟩
      · go_ret2
        exact NextPost.some' (rnext_at ht HU.out (by assumption)) HU.out HM.out HB1.out hgl
end Go.Proofs.YtofccfbiappgaaaDoor
