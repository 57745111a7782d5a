/-
  Plain mathematics of keys: with how many bytes two lists of bytes both begin, their order. Nothing of the program is used.
-/
import Init
namespace Go.Proofs.YtgelmhldicmmdaaGreat

/-- With how many bytes both begin. -/
def lcp : List UInt8 → List UInt8 → Nat
  | a :: l, b :: m => if a = b then lcp l m + 1 else 0
  | _, _ => 0

/-- Both begin alike for k bytes. -/
def Agree (l m : List UInt8) (k : Nat) : Prop := k ≤ l.length ∧ k ≤ m.length ∧ ∀ j, j < k → l[j]? = m[j]?

theorem Agree.zero (l m : List UInt8) : Agree l m 0 := ⟨by omega, by omega, fun j h => by omega⟩
theorem Agree.succ {l m : List UInt8} {k : Nat} {a b : UInt8} (h : Agree l m k) (ha : l[k]? = some a) (hb : m[k]? = some b) (hab : a = b) : Agree l m (k + 1) := by
  have h1 : k < l.length := (List.getElem?_eq_some_iff.1 ha).1
  have h2 : k < m.length := (List.getElem?_eq_some_iff.1 hb).1
  refine ⟨by omega, by omega, fun j hj => ?_⟩
  by_cases e : j = k
  · subst e; rw [ha, hb, hab]
  · exact h.2.2 j (by omega)

theorem lcp_le_left (l m : List UInt8) : lcp l m ≤ l.length := by
  induction l generalizing m with
  | nil => simp [lcp]
  | cons a l ih => cases m with
    | nil => simp [lcp]
    | cons b m => simp only [lcp, List.length_cons]; have := ih m; split <;> omega
theorem lcp_le_right (l m : List UInt8) : lcp l m ≤ m.length := by
  induction l generalizing m with
  | nil => simp [lcp]
  | cons a l ih => cases m with
    | nil => simp [lcp]
    | cons b m => simp only [lcp, List.length_cons]; have := ih m; split <;> omega

theorem lcp_of {l m : List UInt8} {k : Nat} (h : Agree l m k) (hx : k = l.length ∨ k = m.length ∨ l[k]? ≠ m[k]?) : lcp l m = k := by
  induction l generalizing m k with
  | nil => have h1 := h.1; simp at h1; simp [lcp, h1]
  | cons a l ih => cases m with
    | nil => have h1 := h.2.1; simp at h1; simp [lcp, h1]
    | cons b m =>
      cases k with
      | zero =>
        rcases hx with hx | hx | hx
        · simp at hx
        · simp at hx
        · have : a ≠ b := by intro e; subst e; simp at hx
          simp [lcp, this]
      | succ k =>
        have e : a = b := by have := h.2.2 0 (by omega); simpa using this
        have hk : Agree l m k := by
          obtain ⟨h1, h2, h3⟩ := h
          simp only [List.length_cons] at h1 h2
          exact ⟨by omega, by omega, fun j hj => by have := h3 (j + 1) (by omega); simpa using this⟩
        have hx' : k = l.length ∨ k = m.length ∨ l[k]? ≠ m[k]? := by
          rcases hx with hx | hx | hx
          · left; simpa using hx
          · right; left; simpa using hx
          · right; right; simpa using hx
        simp [lcp, e, ih hk hx']
theorem lcp_agree (l m : List UInt8) : Agree l m (lcp l m) := by
  induction l generalizing m with
  | nil => simp [lcp]; exact Agree.zero _ _
  | cons a l ih => cases m with
    | nil => simp [lcp]; exact Agree.zero _ _
    | cons b m =>
      simp only [lcp]
      split
      · rename_i e
        subst e
        obtain ⟨h1, h2, h3⟩ := ih m
        refine ⟨by simp; omega, by simp; omega, fun j hj => ?_⟩
        cases j with
        | zero => simp
        | succ j => simpa using h3 j (by omega)
      · exact Agree.zero _ _
theorem lcp_stop (l m : List UInt8) : lcp l m = l.length ∨ lcp l m = m.length ∨ l[lcp l m]? ≠ m[lcp l m]? := by
  induction l generalizing m with
  | nil => simp [lcp]
  | cons a l ih => cases m with
    | nil => simp [lcp]
    | cons b m =>
      simp only [lcp]
      split
      · rcases ih m with h | h | h
        · left; simp [h]
        · right; left; simp [h]
        · right; right; simpa using h
      · rename_i h; right; right; simpa using h

/-- The order of two keys: -1, 0, 1. -/
def cmpL : List UInt8 → List UInt8 → Int
  | [], [] => 0
  | [], _ :: _ => -1
  | _ :: _, [] => 1
  | a :: l, b :: m => if a = b then cmpL l m else if a.toNat < b.toNat then -1 else 1

theorem cmpL_self (l : List UInt8) : cmpL l l = 0 := by induction l with
  | nil => rfl
  | cons a l ih => simp [cmpL, ih]
theorem cmpL_zero {l m : List UInt8} : cmpL l m = 0 ↔ l = m := by
  induction l generalizing m with
  | nil => cases m <;> simp [cmpL]
  | cons a l ih => cases m with
    | nil => simp [cmpL]
    | cons b m =>
      simp only [cmpL]
      by_cases e : a = b
      · simp [e, ih]
      · rw [if_neg e]; split <;> simp [e]
theorem cmpL_cases (l m : List UInt8) : cmpL l m = -1 ∨ cmpL l m = 0 ∨ cmpL l m = 1 := by
  induction l generalizing m with
  | nil => cases m <;> simp [cmpL]
  | cons a l ih => cases m with
    | nil => simp [cmpL]
    | cons b m => simp only [cmpL]; split; exact ih m; split <;> simp

/-- The order, as the program finds it: by where both part. -/
theorem cmpL_both {l m : List UInt8} (h1 : lcp l m = l.length) (h2 : lcp l m = m.length) : cmpL l m = 0 := by
  induction l generalizing m with
  | nil => cases m with
    | nil => rfl
    | cons b m => simp [lcp] at h2
  | cons a l ih => cases m with
    | nil => simp [lcp] at h1
    | cons b m =>
      simp only [lcp] at h1 h2
      by_cases e : a = b
      · simp only [e, if_true, List.length_cons, Nat.add_right_cancel_iff] at h1 h2
        simp [cmpL, e, ih h1 h2]
      · simp [e] at h1
theorem cmpL_left {l m : List UInt8} (h1 : lcp l m = l.length) (h2 : ¬ lcp l m = m.length) : cmpL l m = -1 := by
  induction l generalizing m with
  | nil => cases m with
    | nil => simp [lcp] at h2
    | cons b m => rfl
  | cons a l ih => cases m with
    | nil => simp [lcp] at h1
    | cons b m =>
      simp only [lcp] at h1 h2
      by_cases e : a = b
      · simp only [e, if_true, List.length_cons, Nat.add_right_cancel_iff] at h1 h2
        simp [cmpL, e, ih h1 h2]
      · simp [e] at h1
theorem cmpL_right {l m : List UInt8} (h1 : ¬ lcp l m = l.length) (h2 : lcp l m = m.length) : cmpL l m = 1 := by
  induction l generalizing m with
  | nil => cases m with
    | nil => simp [lcp] at h1
    | cons b m => simp [lcp] at h2
  | cons a l ih => cases m with
    | nil => rfl
    | cons b m =>
      simp only [lcp] at h1 h2
      by_cases e : a = b
      · simp only [e, if_true, List.length_cons, Nat.add_right_cancel_iff] at h1 h2
        simp [cmpL, e, ih h1 h2]
      · simp [e] at h2
theorem cmpL_part {l m : List UInt8} {a b : UInt8} (h1 : l[lcp l m]? = some a) (h2 : m[lcp l m]? = some b) : cmpL l m = if a.toNat < b.toNat then -1 else 1 := by
  induction l generalizing m with
  | nil => simp at h1
  | cons x l ih => cases m with
    | nil => simp at h2
    | cons y m =>
      simp only [lcp] at h1 h2
      by_cases e : x = y
      · simp only [e, if_true, List.getElem?_cons_succ] at h1 h2
        simp [cmpL, e, ih h1 h2]
      · simp only [e, if_false, List.getElem?_cons_zero, Option.some.injEq] at h1 h2
        subst h1 h2
        simp [cmpL, e]
/-- Does it begin with it? -/
def begB (k p : List UInt8) : Bool := decide (lcp k p = p.length)
end Go.Proofs.YtgelmhldicmmdaaGreat
