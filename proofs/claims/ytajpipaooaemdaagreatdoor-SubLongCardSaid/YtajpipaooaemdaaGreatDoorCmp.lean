/-
  Plain mathematics of keys: with how many bytes two lists of bytes both begin, their order. Nothing of the program is used.
  Plain mathematics of the next one of a prefix: it without the bytes 255 at its end, its last byte one more; what begins with the prefix is between the two. Nothing of the program is used.
  Plain mathematics of keys' texts: two digits a byte, and back. Nothing of the program is used.
  What the document's Common, Cmp and Same (layer 1) answer: with how many bytes both begin, their order, whether they are the same.
  What the document's Begins (layer 1) answers: whether bytes begin with others.
  What keys.Common and the document's Common answer: with how many bytes both begin.
  What keys.Cmp, Same, Begins, Within and the document's answer.
-/
import Init
import Derived.Test.YtajpipaooaemdaaGreatDoorChecked
import Derived.Test.YtajpipaooaemdaaGreatDoorMem
namespace Go.Proofs.YtajpipaooaemdaaGreatDoor

/-- With how many bytes both begin. -/
def lcp : List UInt8 → List UInt8 → Nat
  | a :: l, b :: m => if a = b then lcp l m + 1 else 0
  | _, _ => 0

/-- Both begin alike for k bytes. -/
def Agree (l m : List UInt8) (k : Nat) : Prop := k ≤ l.length ∧ k ≤ m.length ∧ ∀ j, j < k → l[j]? = m[j]?

theorem Agree.zero (l m : List UInt8) : Agree l m 0 := ⟨by omega, by omega, fun j h => by omega⟩
theorem Agree.succ {l m : List UInt8} {k : Nat} {a b : UInt8} (h : Agree l m k) (ha : l[k]? = some a) (hb : m[k]? = some b) (hab : a = b) : Agree l m (k + 1) := by
  have h1 : k < l.length := (List.getElem?_eq_some_iff.1 ha).1
  have h2 : k < m.length := (List.getElem?_eq_some_iff.1 hb).1
  refine ⟨by omega, by omega, fun j hj => ?_⟩
  by_cases e : j = k
  · subst e; rw [ha, hb, hab]
  · exact h.2.2 j (by omega)

theorem lcp_le_left (l m : List UInt8) : lcp l m ≤ l.length := by
  induction l generalizing m with
  | nil => simp [lcp]
  | cons a l ih => cases m with
    | nil => simp [lcp]
    | cons b m => simp only [lcp, List.length_cons]; have := ih m; split <;> omega
theorem lcp_le_right (l m : List UInt8) : lcp l m ≤ m.length := by
  induction l generalizing m with
  | nil => simp [lcp]
  | cons a l ih => cases m with
    | nil => simp [lcp]
    | cons b m => simp only [lcp, List.length_cons]; have := ih m; split <;> omega

theorem lcp_of {l m : List UInt8} {k : Nat} (h : Agree l m k) (hx : k = l.length ∨ k = m.length ∨ l[k]? ≠ m[k]?) : lcp l m = k := by
  induction l generalizing m k with
  | nil => have h1 := h.1; simp at h1; simp [lcp, h1]
  | cons a l ih => cases m with
    | nil => have h1 := h.2.1; simp at h1; simp [lcp, h1]
    | cons b m =>
      cases k with
      | zero =>
        rcases hx with hx | hx | hx
        · simp at hx
        · simp at hx
        · have : a ≠ b := by intro e; subst e; simp at hx
          simp [lcp, this]
      | succ k =>
        have e : a = b := by have := h.2.2 0 (by omega); simpa using this
        have hk : Agree l m k := by
          obtain ⟨h1, h2, h3⟩ := h
          simp only [List.length_cons] at h1 h2
          exact ⟨by omega, by omega, fun j hj => by have := h3 (j + 1) (by omega); simpa using this⟩
        have hx' : k = l.length ∨ k = m.length ∨ l[k]? ≠ m[k]? := by
          rcases hx with hx | hx | hx
          · left; simpa using hx
          · right; left; simpa using hx
          · right; right; simpa using hx
        simp [lcp, e, ih hk hx']
/-- The order of two keys: -1, 0, 1. -/
def cmpL : List UInt8 → List UInt8 → Int
  | [], [] => 0
  | [], _ :: _ => -1
  | _ :: _, [] => 1
  | a :: l, b :: m => if a = b then cmpL l m else if a.toNat < b.toNat then -1 else 1

theorem cmpL_zero {l m : List UInt8} : cmpL l m = 0 ↔ l = m := by
  induction l generalizing m with
  | nil => cases m <;> simp [cmpL]
  | cons a l ih => cases m with
    | nil => simp [cmpL]
    | cons b m =>
      simp only [cmpL]
      by_cases e : a = b
      · simp [e, ih]
      · rw [if_neg e]; split <;> simp [e]
/-- The order, as the program finds it: by where both part. -/
theorem cmpL_both {l m : List UInt8} (h1 : lcp l m = l.length) (h2 : lcp l m = m.length) : cmpL l m = 0 := by
  induction l generalizing m with
  | nil => cases m with
    | nil => rfl
    | cons b m => simp [lcp] at h2
  | cons a l ih => cases m with
    | nil => simp [lcp] at h1
    | cons b m =>
      simp only [lcp] at h1 h2
      by_cases e : a = b
      · simp only [e, if_true, List.length_cons, Nat.add_right_cancel_iff] at h1 h2
        simp [cmpL, e, ih h1 h2]
      · simp [e] at h1
theorem cmpL_left {l m : List UInt8} (h1 : lcp l m = l.length) (h2 : ¬ lcp l m = m.length) : cmpL l m = -1 := by
  induction l generalizing m with
  | nil => cases m with
    | nil => simp [lcp] at h2
    | cons b m => rfl
  | cons a l ih => cases m with
    | nil => simp [lcp] at h1
    | cons b m =>
      simp only [lcp] at h1 h2
      by_cases e : a = b
      · simp only [e, if_true, List.length_cons, Nat.add_right_cancel_iff] at h1 h2
        simp [cmpL, e, ih h1 h2]
      · simp [e] at h1
theorem cmpL_right {l m : List UInt8} (h1 : ¬ lcp l m = l.length) (h2 : lcp l m = m.length) : cmpL l m = 1 := by
  induction l generalizing m with
  | nil => cases m with
    | nil => simp [lcp] at h1
    | cons b m => simp [lcp] at h2
  | cons a l ih => cases m with
    | nil => rfl
    | cons b m =>
      simp only [lcp] at h1 h2
      by_cases e : a = b
      · simp only [e, if_true, List.length_cons, Nat.add_right_cancel_iff] at h1 h2
        simp [cmpL, e, ih h1 h2]
      · simp [e] at h2
theorem cmpL_part {l m : List UInt8} {a b : UInt8} (h1 : l[lcp l m]? = some a) (h2 : m[lcp l m]? = some b) : cmpL l m = if a.toNat < b.toNat then -1 else 1 := by
  induction l generalizing m with
  | nil => simp at h1
  | cons x l ih => cases m with
    | nil => simp at h2
    | cons y m =>
      simp only [lcp] at h1 h2
      by_cases e : x = y
      · simp only [e, if_true, List.getElem?_cons_succ] at h1 h2
        simp [cmpL, e, ih h1 h2]
      · simp only [e, if_false, List.getElem?_cons_zero, Option.some.injEq] at h1 h2
        subst h1 h2
        simp [cmpL, e]
/-- Does it begin with it? -/
def begB (k p : List UInt8) : Bool := decide (lcp k p = p.length)
end Go.Proofs.YtajpipaooaemdaaGreatDoor

namespace Go.Proofs.YtajpipaooaemdaaGreatDoor

/-- How many bytes are left without the bytes 255 at the end. -/
def rais : List UInt8 → Nat
  | [] => 0
  | a :: l => if rais l = 0 then (if a = 255 then 0 else 1) else rais l + 1

/-- From k on there are bytes 255 alone. -/
def Tail (l : List UInt8) (k : Nat) : Prop := k ≤ l.length ∧ ∀ (j : Nat) (u : UInt8), k ≤ j → l[j]? = some u → u = 255
theorem Tail.start (l : List UInt8) : Tail l l.length := ⟨Nat.le_refl _, fun j u hj hu => by
  have := (List.getElem?_eq_some_iff.1 hu).1; omega⟩
/-- The next one of a prefix; nothing, if there is none. -/
def nextL (l : List UInt8) : List UInt8 := if rais l = 0 then [] else l.take (rais l - 1) ++ [l.getD (rais l - 1) 0 + 1]
def nextB (l : List UInt8) : Bool := decide (rais l ≠ 0)

theorem nextL_none {l : List UInt8} (h : rais l = 0) : nextL l = [] := by simp [nextL, h]
end Go.Proofs.YtajpipaooaemdaaGreatDoor

namespace Go.Proofs.YtajpipaooaemdaaGreatDoor

/-- What a sign counts; 16: it is no digit. -/
def hexN (c : Nat) : Nat := if 48 ≤ c ∧ c ≤ 57 then c - 48 else if 97 ≤ c ∧ c ≤ 102 then c - 87 else 16
/-- The sign of a digit. -/
def digN (n : Nat) : Nat := if n < 10 then n + 48 else n + 87
def digU (n : Nat) : UInt8 := UInt8.ofNat (digN n)
def textL (l : List UInt8) : List UInt8 := l.flatMap fun b => [digU (b.toNat / 16), digU (b.toNat % 16)]
theorem textL_length (l : List UInt8) : (textL l).length = 2 * l.length := by
  induction l with
  | nil => rfl
  | cons a l ih => simp only [textL, List.flatMap_cons, List.length_append, List.length_cons] at ih ⊢; simp only [List.length_nil]; omega
theorem textL_append (l m : List UInt8) : textL (l ++ m) = textL l ++ textL m := by simp [textL]

/-- The key of a text; none, if it is no key's. -/
def parseL : List UInt8 → Option (List UInt8)
  | [] => some []
  | [_] => none
  | a :: b :: r => if hexN a.toNat < 16 ∧ hexN b.toNat < 16 then (parseL r).map (UInt8.ofNat (16 * hexN a.toNat + hexN b.toNat) :: ·) else none

def parseR (s : List UInt8) : List UInt8 × Int :=
  if 131071 < s.length then ([], 8) else if s.length % 2 ≠ 0 then ([], 3) else match parseL s with
    | none => ([], 3)
    | some k => (k, 0)

end Go.Proofs.YtajpipaooaemdaaGreatDoor

namespace Go.Proofs.YtajpipaooaemdaaGreatDoor
open Go.RowKit

theorem u8_ne {a b : UInt8} (h : ((a.toNat : Int) != (b.toNat : Int)) = true) : a ≠ b := fun e => by subst e; simp at h
theorem u8_eq {a b : UInt8} (h : ((a.toNat : Int) != (b.toNat : Int)) = false) : a = b := UInt8.toNat_inj.1 (by simp at h; omega)
theorem u8_eq' {a b : UInt8} (h : ((a.toNat : Int) == (b.toNat : Int)) = true) : a = b := UInt8.toNat_inj.1 (by simp at h; omega)
theorem u8_ne' {a b : UInt8} (h : ((a.toNat : Int) == (b.toNat : Int)) = false) : a ≠ b := fun e => by subst e; simp at h

theorem part_at {l m : List UInt8} {k : Nat} {a b : UInt8} (hg : Agree l m k) (ha : l[k]? = some a) (hb : m[k]? = some b) (h : a ≠ b) : (k : Int) = lcp l m := by
  rw [lcp_of hg (.inr (.inr (by rw [ha, hb]; simpa using h)))]
theorem end_at {l m : List UInt8} {k n n' : Nat} (hg : Agree l m k) (h1 : l.length = n) (h2 : m.length = n') (hk : k = n ∨ k = n') : (k : Int) = lcp l m := by
  rw [lcp_of hg (by rcases hk with e | e; exact .inl (by omega); exact .inr (.inl (by omega)))]

set_option maxRecDepth 100000 in
set_option maxHeartbeats 400000 in
theorem rcommon_any (A A' : Option Addr) (n n' c c' B : Nat) (l m : List UInt8) (w : World) (ha : Byt w B A n l) (hb : Byt w B A' n' m) :
    Calls Tryz.prog 45 #[.slice A n c, .slice A' n' c'] w fun e w' => e = .returned (.int .i64 (lcp l m : Int)) ∧ Still w w' := by
  have na : n ≤ 9223372036854775807 := by have := ha.2.1; unfold maxLen at this; omega
  have nb : n' ≤ 9223372036854775807 := by have := hb.2.1; unfold maxLen at this; omega
  have HN := Lib.hid ha.1
  have HN' := Lib.hid hb.1
  go_enter Tryz.func45, Tryz.ntmps45
  go_wp2
  go_loopw [5] (fun i wr => ∃ k : Nat, k ≤ n ∧ k ≤ n' ∧ i = .int .i64 k ∧ Agree l m k ∧ Still w wr) (fun i _ => n + n' - (intOf i).toNat)
  case atStart => exact ⟨0, Nat.zero_le _, Nat.zero_le _, rfl, Agree.zero _ _, Still.refl _⟩
  case round =>
    obtain ⟨k, hk, hk', rfl, hag, q, rfl⟩ := hrel
    by_cases h1 : k < n
    · have d1 : decide (k < n) = true := by simpa using h1
      by_cases h2 : k < n'
      · have d2 : decide (k < n') = true := by simpa using h2
        obtain ⟨ad, u, rfl, hu1, hu2, hu3⟩ := ha.at_ h1
        obtain ⟨ad', u', rfl, hv1, hv2, hv3⟩ := hb.at_ h2
        have HU := Lib.hid hu2
        have HV := Lib.hid hv2
        clear hu2 hv2
        go_wp2
        go_quiet (fail)
        go_wp2
        · exact ⟨⟨k + 1, by omega, by omega, by go_num, hag.succ HU.out HV.out (u8_eq' (by assumption)), (by repeat (first | exact Still.refl _ | apply Still.step))⟩, by simp [intOf]; omega⟩
        · go_ret
          exact ⟨ret_int (part_at hag HU.out HV.out (u8_ne' (by assumption))), (by repeat (first | exact Still.refl _ | apply Still.step))⟩
      · have d2 : decide (k < n') = false := by simpa using h2
        go_wp2
        go_quiet (fail)
        go_wp2
        go_ret
        exact ⟨ret_int (by rw [← end_at hag HN.out HN'.out (by omega)]), (by repeat (first | exact Still.refl _ | apply Still.step))⟩
    · have d1 : decide (k < n) = false := by simpa using h1
      go_wp2
      go_quiet (fail)
      go_wp2
      go_ret
      exact ⟨ret_int (by rw [← end_at hag HN.out HN'.out (by omega)]), (by repeat (first | exact Still.refl _ | apply Still.step))⟩
theorem cmp_0 {l m : List UInt8} {n n' : Nat} (h : l.length = n) (h' : m.length = n') (e : (lcp l m : Int) = n) (e' : ((n : Int) == n') = true) : (0 : Int) = cmpL l m := by
  simp at e'; exact (cmpL_both (by omega) (by omega)).symm
theorem cmp_m {l m : List UInt8} {n n' : Nat} (h : l.length = n) (h' : m.length = n') (e : (lcp l m : Int) = n) (e' : ((n : Int) == n') = false) : (-1 : Int) = cmpL l m := by
  simp at e'; exact (cmpL_left (by omega) (by omega)).symm
theorem cmp_1 {l m : List UInt8} {n n' : Nat} (h : l.length = n) (h' : m.length = n') (e : ¬ (lcp l m : Int) = n) (e' : ((lcp l m : Int) == n') = true) : (1 : Int) = cmpL l m := by
  simp at e'; exact (cmpL_right (by omega) (by omega)).symm
theorem cmp_lt {l m : List UInt8} {a b : UInt8} (h1 : l[lcp l m]? = some a) (h2 : m[lcp l m]? = some b) (h : (a.toNat : Int) < b.toNat) : (-1 : Int) = cmpL l m := by
  rw [cmpL_part h1 h2, if_pos (by omega)]
theorem cmp_ge {l m : List UInt8} {a b : UInt8} (h1 : l[lcp l m]? = some a) (h2 : m[lcp l m]? = some b) (h : ¬ (a.toNat : Int) < b.toNat) : (1 : Int) = cmpL l m := by
  rw [cmpL_part h1 h2, if_neg (by omega)]

set_option maxRecDepth 100000 in
set_option maxHeartbeats 400000 in
theorem rcmp_any (A A' : Option Addr) (n n' c c' B : Nat) (l m : List UInt8) (w : World) (ha : Byt w B A n l) (hb : Byt w B A' n' m) :
    Calls Tryz.prog 22 #[.slice A n c, .slice A' n' c'] w fun e w' => e = .returned (.int .i64 (cmpL l m)) ∧ Still w w' := by
  have na : n ≤ 9223372036854775807 := by have := ha.2.1; unfold maxLen at this; omega
  have nb : n' ≤ 9223372036854775807 := by have := hb.2.1; unfold maxLen at this; omega
  have HN := Lib.hid ha.1
  have HN' := Lib.hid hb.1
  have le1 : lcp l m ≤ n := by have := lcp_le_left l m; have := ha.1; omega
  have le2 : lcp l m ≤ n' := by have := lcp_le_right l m; have := hb.1; omega
  by_cases hp : lcp l m < n ∧ lcp l m < n'
  · obtain ⟨h1, h2⟩ := hp
    obtain ⟨ad, u, rfl, hu1, hu2, hu3⟩ := ha.at_ h1
    obtain ⟨ad', u', rfl, hv1, hv2, hv3⟩ := hb.at_ h2
    have HU := Lib.hid hu2
    have HV := Lib.hid hv2
    clear hu2 hv2
    go_enter Tryz.func22, Tryz.ntmps22
    go_wp2_with (go_at_call 45; refine (rcommon_any _ _ _ _ _ _ _ l m _ ha hb).mono ?_; rintro e w' ⟨rfl, q, rfl⟩)
    go_quiet (fail)
    go_wp2
    · go_ret
      exact ⟨ret_int (cmp_lt HU.out HV.out (by omega)), (by repeat (first | exact Still.refl _ | apply Still.step))⟩
    · go_ret
      exact ⟨ret_int (cmp_ge HU.out HV.out (by omega)), (by repeat (first | exact Still.refl _ | apply Still.step))⟩
  · have hx : lcp l m = n ∨ lcp l m = n' := by omega
    have HX := Lib.hid hx
    clear hx hp
    go_enter Tryz.func22, Tryz.ntmps22
    go_wp2_with (go_at_call 45; refine (rcommon_any _ _ _ _ _ _ _ l m _ ha hb).mono ?_; rintro e w' ⟨rfl, q, rfl⟩)
    · go_ret
      exact ⟨ret_int (cmp_0 HN.out HN'.out (by assumption) (by assumption)), (by repeat (first | exact Still.refl _ | apply Still.step))⟩
    · go_ret
      exact ⟨ret_int (cmp_m HN.out HN'.out (by assumption) (by assumption)), (by repeat (first | exact Still.refl _ | apply Still.step))⟩
    · go_ret
      exact ⟨ret_int (cmp_1 HN.out HN'.out (by assumption) (by assumption)), (by repeat (first | exact Still.refl _ | apply Still.step))⟩
    · exfalso
      have e1 : ¬ (lcp l m : Int) = n := by assumption
      have e3 : ((lcp l m : Int) == n') = false := by assumption
      have := HX.out
      rw [beq_eq_false_iff_ne] at e3
      omega

def sameB (l m : List UInt8) : Bool := decide (l = m)

set_option maxRecDepth 100000 in
set_option maxHeartbeats 400000 in
theorem rsame_any (A A' : Option Addr) (n n' c c' B : Nat) (l m : List UInt8) (w : World) (ha : Byt w B A n l) (hb : Byt w B A' n' m) :
    Calls Tryz.prog 23 #[.slice A n c, .slice A' n' c'] w fun e w' => e = .returned (.bool (sameB l m)) ∧ Still w w' := by
  go_enter Tryz.func23, Tryz.ntmps23
  go_wp2_with (go_at_call 22; refine (rcmp_any _ _ _ _ _ _ _ l m _ ha hb).mono ?_; rintro e w' ⟨rfl, q, rfl⟩)
  go_ret
  exact ⟨ret_bool (by unfold sameB; rw [Bool.eq_iff_iff]; simp [cmpL_zero]), (by repeat (first | exact Still.refl _ | apply Still.step))⟩

end Go.Proofs.YtajpipaooaemdaaGreatDoor

namespace Go.Proofs.YtajpipaooaemdaaGreatDoor
open Go.RowKit
set_option maxRecDepth 100000 in
set_option maxHeartbeats 400000 in
theorem rbegins_any (A A' : Option Addr) (n n' c c' B : Nat) (l m : List UInt8) (w : World) (ha : Byt w B A n l) (hb : Byt w B A' n' m) :
    Calls Tryz.prog 31 #[.slice A n c, .slice A' n' c'] w fun e w' => e = .returned (.bool (begB l m)) ∧ Still w w' := by
  have HN' := Lib.hid hb.1
  go_enter Tryz.func31, Tryz.ntmps31
  go_wp2_with (go_at_call 45; refine (rcommon_any _ _ _ _ _ _ _ l m _ ha hb).mono ?_; rintro e w' ⟨rfl, q, rfl⟩)
  go_ret
  exact ⟨ret_bool (by unfold begB; rw [HN'.out, Bool.eq_iff_iff]; simp; omega), (by repeat (first | exact Still.refl _ | apply Still.step))⟩
end Go.Proofs.YtajpipaooaemdaaGreatDoor

namespace Go.Proofs.YtajpipaooaemdaaGreatDoor
open Go.RowKit

set_option maxRecDepth 100000 in
set_option maxHeartbeats 400000 in
theorem common_any (A A' : Option Addr) (n n' c c' B : Nat) (l m : List UInt8) (w : World) (ha : Byt w B A n l) (hb : Byt w B A' n' m) :
    Calls Tryz.prog 67 #[.slice A n c, .slice A' n' c'] w fun e w' => e = .returned (.int .i64 (lcp l m : Int)) ∧ Still w w' := by
  have na : n ≤ 9223372036854775807 := by have := ha.2.1; unfold maxLen at this; omega
  have nb : n' ≤ 9223372036854775807 := by have := hb.2.1; unfold maxLen at this; omega
  have HN := Lib.hid ha.1
  have HN' := Lib.hid hb.1
  go_enter Tryz.func67, Tryz.ntmps67
  go_wp2
  all_goals
    rename_i hmin
    go_loopw [13] (fun i wr => ∃ k : Nat, k ≤ n ∧ k ≤ n' ∧ i = .int .i64 k ∧ Agree l m k ∧ Still w wr) (fun i _ => n + n' - (intOf i).toNat)
    case atStart => exact ⟨0, Nat.zero_le _, Nat.zero_le _, rfl, Agree.zero _ _, Still.refl _⟩
    case round =>
      obtain ⟨k, hk, hk', rfl, hag, q, rfl⟩ := hrel
      by_cases hlt : k < n ∧ k < n'
      · obtain ⟨h1, h2⟩ := hlt
        obtain ⟨ad, u, rfl, hu1, hu2, hu3⟩ := ha.at_ h1
        obtain ⟨ad', u', rfl, hv1, hv2, hv3⟩ := hb.at_ h2
        have HU := Lib.hid hu2
        have HV := Lib.hid hv2
        clear hu2 hv2
        go_wp2
        go_quiet (fail)
        go_wp2
        · go_ret
          exact ⟨ret_int (part_at hag HU.out HV.out (u8_ne (by assumption))), (by repeat (first | exact Still.refl _ | apply Still.step))⟩
        · exact ⟨⟨k + 1, by omega, by omega, by go_num, hag.succ HU.out HV.out (u8_eq (by assumption)), (by repeat (first | exact Still.refl _ | apply Still.step))⟩, by simp [intOf]; omega⟩
      · go_wp2
        go_ret
        exact ⟨ret_int (by rw [← end_at hag HN.out HN'.out (by omega)]; omega), (by repeat (first | exact Still.refl _ | apply Still.step))⟩

end Go.Proofs.YtajpipaooaemdaaGreatDoor

namespace Go.Proofs.YtajpipaooaemdaaGreatDoor
open Go.RowKit

set_option maxRecDepth 100000 in
set_option maxHeartbeats 400000 in
theorem cmp_any (A A' : Option Addr) (n n' c c' B : Nat) (l m : List UInt8) (w : World) (ha : Byt w B A n l) (hb : Byt w B A' n' m) :
    Calls Tryz.prog 66 #[.slice A n c, .slice A' n' c'] w fun e w' => e = .returned (.int .i64 (cmpL l m)) ∧ Still w w' := by
  have na : n ≤ 9223372036854775807 := by have := ha.2.1; unfold maxLen at this; omega
  have nb : n' ≤ 9223372036854775807 := by have := hb.2.1; unfold maxLen at this; omega
  have HN := Lib.hid ha.1
  have HN' := Lib.hid hb.1
  have le1 : lcp l m ≤ n := by have := lcp_le_left l m; have := ha.1; omega
  have le2 : lcp l m ≤ n' := by have := lcp_le_right l m; have := hb.1; omega
  by_cases hp : lcp l m < n ∧ lcp l m < n'
  · obtain ⟨h1, h2⟩ := hp
    obtain ⟨ad, u, rfl, hu1, hu2, hu3⟩ := ha.at_ h1
    obtain ⟨ad', u', rfl, hv1, hv2, hv3⟩ := hb.at_ h2
    have HU := Lib.hid hu2
    have HV := Lib.hid hv2
    clear hu2 hv2
    go_enter Tryz.func66, Tryz.ntmps66
    go_wp2_with (go_at_call 67; refine (common_any _ _ _ _ _ _ _ l m _ ha hb).mono ?_; rintro e w' ⟨rfl, q, rfl⟩)
    go_quiet (fail)
    go_wp2
    · go_ret
      exact ⟨ret_int (cmp_lt HU.out HV.out (by omega)), (by repeat (first | exact Still.refl _ | apply Still.step))⟩
    · go_ret
      exact ⟨ret_int (cmp_ge HU.out HV.out (by omega)), (by repeat (first | exact Still.refl _ | apply Still.step))⟩
  · have hx : lcp l m = n ∨ lcp l m = n' := by omega
    have HX := Lib.hid hx
    clear hx hp
    go_enter Tryz.func66, Tryz.ntmps66
    go_wp2_with (go_at_call 67; refine (common_any _ _ _ _ _ _ _ l m _ ha hb).mono ?_; rintro e w' ⟨rfl, q, rfl⟩)
    · go_ret
      exact ⟨ret_int (cmp_0 HN.out HN'.out (by assumption) (by assumption)), (by repeat (first | exact Still.refl _ | apply Still.step))⟩
    · go_ret
      exact ⟨ret_int (cmp_m HN.out HN'.out (by assumption) (by assumption)), (by repeat (first | exact Still.refl _ | apply Still.step))⟩
    · go_ret
      exact ⟨ret_int (cmp_1 HN.out HN'.out (by assumption) (by assumption)), (by repeat (first | exact Still.refl _ | apply Still.step))⟩
    · exfalso
      have e1 : ¬ (lcp l m : Int) = n := by assumption
      have e3 : ((lcp l m : Int) == n') = false := by assumption
      have := HX.out
      rw [beq_eq_false_iff_ne] at e3
      omega

set_option maxRecDepth 100000 in
set_option maxHeartbeats 400000 in
theorem begins_any (A A' : Option Addr) (n n' c c' B : Nat) (l m : List UInt8) (w : World) (ha : Byt w B A n l) (hb : Byt w B A' n' m) :
    Calls Tryz.prog 49 #[.slice A n c, .slice A' n' c'] w fun e w' => e = .returned (.bool (begB l m)) ∧ Still w w' := by
  have HN' := Lib.hid hb.1
  go_enter Tryz.func49, Tryz.ntmps49
  go_wp2_with (go_at_call 67; refine (common_any _ _ _ _ _ _ _ l m _ ha hb).mono ?_; rintro e w' ⟨rfl, q, rfl⟩)
  go_ret
  exact ⟨ret_bool (by unfold begB; rw [HN'.out, Bool.eq_iff_iff]; simp; omega), (by repeat (first | exact Still.refl _ | apply Still.step))⟩

/-- Does it stand between two? -/
def withinB (k a b : List UInt8) (o : Bool) : Bool := decide (0 ≤ cmpL k a) && (o || decide (cmpL k b < 0))

end Go.Proofs.YtajpipaooaemdaaGreatDoor
