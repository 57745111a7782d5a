/-
  Plain mathematics of keys: with how many bytes two lists of bytes both begin, their order. Nothing of the program is used.
  Plain mathematics of the next one of a prefix: it without the bytes 255 at its end, its last byte one more; what begins with the prefix is between the two. Nothing of the program is used.
  Plain mathematics of whole numbers as bytes: the highest byte first, their order, and the number that bytes are. Nothing of the program is used.
  Plain mathematics of numbers with a sign as bytes: the least and the greatest number of a width, and what Put and Take answer. Nothing of the program is used.
  Plain mathematics of texts as keys: a text's bytes, the other ones, what bytes begin with. Nothing of the program is used.
-/
import Init
namespace Go.Proofs.YtofccfbiappgaaaDoor

/-- With how many bytes both begin. -/
def lcp : List UInt8 → List UInt8 → Nat
  | a :: l, b :: m => if a = b then lcp l m + 1 else 0
  | _, _ => 0

/-- Both begin alike for k bytes. -/
def Agree (l m : List UInt8) (k : Nat) : Prop := k ≤ l.length ∧ k ≤ m.length ∧ ∀ j, j < k → l[j]? = m[j]?

theorem Agree.zero (l m : List UInt8) : Agree l m 0 := ⟨by omega, by omega, fun j h => by omega⟩
theorem Agree.succ {l m : List UInt8} {k : Nat} {a b : UInt8} (h : Agree l m k) (ha : l[k]? = some a) (hb : m[k]? = some b) (hab : a = b) : Agree l m (k + 1) := by
  have h1 : k < l.length := (List.getElem?_eq_some_iff.1 ha).1
  have h2 : k < m.length := (List.getElem?_eq_some_iff.1 hb).1
  refine ⟨by omega, by omega, fun j hj => ?_⟩
  by_cases e : j = k
  · subst e; rw [ha, hb, hab]
  · exact h.2.2 j (by omega)

theorem lcp_le_left (l m : List UInt8) : lcp l m ≤ l.length := by
  induction l generalizing m with
  | nil => simp [lcp]
  | cons a l ih => cases m with
    | nil => simp [lcp]
    | cons b m => simp only [lcp, List.length_cons]; have := ih m; split <;> omega
theorem lcp_le_right (l m : List UInt8) : lcp l m ≤ m.length := by
  induction l generalizing m with
  | nil => simp [lcp]
  | cons a l ih => cases m with
    | nil => simp [lcp]
    | cons b m => simp only [lcp, List.length_cons]; have := ih m; split <;> omega

theorem lcp_of {l m : List UInt8} {k : Nat} (h : Agree l m k) (hx : k = l.length ∨ k = m.length ∨ l[k]? ≠ m[k]?) : lcp l m = k := by
  induction l generalizing m k with
  | nil => have h1 := h.1; simp at h1; simp [lcp, h1]
  | cons a l ih => cases m with
    | nil => have h1 := h.2.1; simp at h1; simp [lcp, h1]
    | cons b m =>
      cases k with
      | zero =>
        rcases hx with hx | hx | hx
        · simp at hx
        · simp at hx
        · have : a ≠ b := by intro e; subst e; simp at hx
          simp [lcp, this]
      | succ k =>
        have e : a = b := by have := h.2.2 0 (by omega); simpa using this
        have hk : Agree l m k := by
          obtain ⟨h1, h2, h3⟩ := h
          simp only [List.length_cons] at h1 h2
          exact ⟨by omega, by omega, fun j hj => by have := h3 (j + 1) (by omega); simpa using this⟩
        have hx' : k = l.length ∨ k = m.length ∨ l[k]? ≠ m[k]? := by
          rcases hx with hx | hx | hx
          · left; simpa using hx
          · right; left; simpa using hx
          · right; right; simpa using hx
        simp [lcp, e, ih hk hx']
theorem lcp_agree (l m : List UInt8) : Agree l m (lcp l m) := by
  induction l generalizing m with
  | nil => simp [lcp]; exact Agree.zero _ _
  | cons a l ih => cases m with
    | nil => simp [lcp]; exact Agree.zero _ _
    | cons b m =>
      simp only [lcp]
      split
      · rename_i e
        subst e
        obtain ⟨h1, h2, h3⟩ := ih m
        refine ⟨by simp; omega, by simp; omega, fun j hj => ?_⟩
        cases j with
        | zero => simp
        | succ j => simpa using h3 j (by omega)
      · exact Agree.zero _ _
theorem lcp_stop (l m : List UInt8) : lcp l m = l.length ∨ lcp l m = m.length ∨ l[lcp l m]? ≠ m[lcp l m]? := by
  induction l generalizing m with
  | nil => simp [lcp]
  | cons a l ih => cases m with
    | nil => simp [lcp]
    | cons b m =>
      simp only [lcp]
      split
      · rcases ih m with h | h | h
        · left; simp [h]
        · right; left; simp [h]
        · right; right; simpa using h
      · rename_i h; right; right; simpa using h

/-- The order of two keys: -1, 0, 1. -/
def cmpL : List UInt8 → List UInt8 → Int
  | [], [] => 0
  | [], _ :: _ => -1
  | _ :: _, [] => 1
  | a :: l, b :: m => if a = b then cmpL l m else if a.toNat < b.toNat then -1 else 1

theorem cmpL_self (l : List UInt8) : cmpL l l = 0 := by induction l with
  | nil => rfl
  | cons a l ih => simp [cmpL, ih]
theorem cmpL_zero {l m : List UInt8} : cmpL l m = 0 ↔ l = m := by
  induction l generalizing m with
  | nil => cases m <;> simp [cmpL]
  | cons a l ih => cases m with
    | nil => simp [cmpL]
    | cons b m =>
      simp only [cmpL]
      by_cases e : a = b
      · simp [e, ih]
      · rw [if_neg e]; split <;> simp [e]
theorem cmpL_cases (l m : List UInt8) : cmpL l m = -1 ∨ cmpL l m = 0 ∨ cmpL l m = 1 := by
  induction l generalizing m with
  | nil => cases m <;> simp [cmpL]
  | cons a l ih => cases m with
    | nil => simp [cmpL]
    | cons b m => simp only [cmpL]; split; exact ih m; split <;> simp

/-- The order, as the program finds it: by where both part. -/
theorem cmpL_both {l m : List UInt8} (h1 : lcp l m = l.length) (h2 : lcp l m = m.length) : cmpL l m = 0 := by
  induction l generalizing m with
  | nil => cases m with
    | nil => rfl
    | cons b m => simp [lcp] at h2
  | cons a l ih => cases m with
    | nil => simp [lcp] at h1
    | cons b m =>
      simp only [lcp] at h1 h2
      by_cases e : a = b
      · simp only [e, if_true, List.length_cons, Nat.add_right_cancel_iff] at h1 h2
        simp [cmpL, e, ih h1 h2]
      · simp [e] at h1
theorem cmpL_left {l m : List UInt8} (h1 : lcp l m = l.length) (h2 : ¬ lcp l m = m.length) : cmpL l m = -1 := by
  induction l generalizing m with
  | nil => cases m with
    | nil => simp [lcp] at h2
    | cons b m => rfl
  | cons a l ih => cases m with
    | nil => simp [lcp] at h1
    | cons b m =>
      simp only [lcp] at h1 h2
      by_cases e : a = b
      · simp only [e, if_true, List.length_cons, Nat.add_right_cancel_iff] at h1 h2
        simp [cmpL, e, ih h1 h2]
      · simp [e] at h1
theorem cmpL_right {l m : List UInt8} (h1 : ¬ lcp l m = l.length) (h2 : lcp l m = m.length) : cmpL l m = 1 := by
  induction l generalizing m with
  | nil => cases m with
    | nil => simp [lcp] at h1
    | cons b m => simp [lcp] at h2
  | cons a l ih => cases m with
    | nil => rfl
    | cons b m =>
      simp only [lcp] at h1 h2
      by_cases e : a = b
      · simp only [e, if_true, List.length_cons, Nat.add_right_cancel_iff] at h1 h2
        simp [cmpL, e, ih h1 h2]
      · simp [e] at h2
theorem cmpL_part {l m : List UInt8} {a b : UInt8} (h1 : l[lcp l m]? = some a) (h2 : m[lcp l m]? = some b) : cmpL l m = if a.toNat < b.toNat then -1 else 1 := by
  induction l generalizing m with
  | nil => simp at h1
  | cons x l ih => cases m with
    | nil => simp at h2
    | cons y m =>
      simp only [lcp] at h1 h2
      by_cases e : x = y
      · simp only [e, if_true, List.getElem?_cons_succ] at h1 h2
        simp [cmpL, e, ih h1 h2]
      · simp only [e, if_false, List.getElem?_cons_zero, Option.some.injEq] at h1 h2
        subst h1 h2
        simp [cmpL, e]
/-- Does it begin with it? -/
def begB (k p : List UInt8) : Bool := decide (lcp k p = p.length)
end Go.Proofs.YtofccfbiappgaaaDoor

namespace Go.Proofs.YtofccfbiappgaaaDoor

/-- How many bytes are left without the bytes 255 at the end. -/
def rais : List UInt8 → Nat
  | [] => 0
  | a :: l => if rais l = 0 then (if a = 255 then 0 else 1) else rais l + 1

/-- From k on there are bytes 255 alone. -/
def Tail (l : List UInt8) (k : Nat) : Prop := k ≤ l.length ∧ ∀ (j : Nat) (u : UInt8), k ≤ j → l[j]? = some u → u = 255
theorem Tail.start (l : List UInt8) : Tail l l.length := ⟨Nat.le_refl _, fun j u hj hu => by
  have := (List.getElem?_eq_some_iff.1 hu).1; omega⟩
theorem Tail.prev {l : List UInt8} {k : Nat} {u : UInt8} (h : Tail l (k + 1)) (hu : l[k]? = some u) (e : u = 255) : Tail l k := by
  refine ⟨by have := h.1; omega, fun j v hj hv => ?_⟩
  by_cases ek : j = k
  · subst ek; rw [hu] at hv; injection hv with hv; rw [← hv, e]
  · exact h.2 j v (by omega) hv

theorem rais_of {l : List UInt8} {k : Nat} (h : Tail l k) (hx : k = 0 ∨ ∃ u, l[k - 1]? = some u ∧ u ≠ 255) : rais l = k := by
  induction l generalizing k with
  | nil => have := h.1; simp at this; simp [rais, this]
  | cons a l ih =>
    cases k with
    | zero =>
      have ht : Tail l 0 := ⟨by omega, fun j u _ hu => h.2 (j + 1) u (by omega) (by simpa using hu)⟩
      have ha : a = 255 := h.2 0 a (by omega) (by simp)
      simp [rais, ih ht (.inl rfl), ha]
    | succ k =>
      have ht : Tail l k := ⟨by have := h.1; simp at this; omega, fun j u hj hu => h.2 (j + 1) u (by omega) (by simpa using hu)⟩
      rcases hx with hx | ⟨u, hu, hne⟩
      · omega
      · cases k with
        | zero =>
          have : a = u := by simpa using hu
          subst this
          simp [rais, ih ht (.inl rfl), hne]
        | succ k =>
          have hr := ih ht (.inr ⟨u, by simpa using hu, hne⟩)
          simp [rais, hr]
theorem rais_le (l : List UInt8) : rais l ≤ l.length := by
  induction l with
  | nil => simp [rais]
  | cons a l ih => simp only [rais, List.length_cons]; split <;> (try split) <;> omega
theorem rais_tail (l : List UInt8) : Tail l (rais l) ∧ (rais l = 0 ∨ ∃ u, l[rais l - 1]? = some u ∧ u ≠ 255) := by
  induction l with
  | nil => exact ⟨Tail.start [], .inl rfl⟩
  | cons a l ih =>
    obtain ⟨ht, hx⟩ := ih
    simp only [rais]
    by_cases h0 : rais l = 0
    · rw [if_pos h0]
      rw [h0] at ht
      by_cases ha : a = 255
      · rw [if_pos ha]
        refine ⟨⟨by omega, fun j u _ hu => ?_⟩, .inl rfl⟩
        cases j with
        | zero => simp at hu; rw [← hu, ha]
        | succ j => exact ht.2 j u (by omega) (by simpa using hu)
      · rw [if_neg ha]
        refine ⟨⟨by simp, fun j u hj hu => ?_⟩, .inr ⟨a, by simp, ha⟩⟩
        cases j with
        | zero => omega
        | succ j => exact ht.2 j u (by omega) (by simpa using hu)
    · rw [if_neg h0]
      refine ⟨⟨by have := ht.1; simp; omega, fun j u hj hu => ?_⟩, .inr ?_⟩
      · cases j with
        | zero => omega
        | succ j => exact ht.2 j u (by omega) (by simpa using hu)
      · rcases hx with hx | ⟨u, hu, hne⟩
        · exact absurd hx h0
        · refine ⟨u, ?_, hne⟩
          obtain ⟨r, hr⟩ : ∃ r, rais l = r + 1 := ⟨rais l - 1, by omega⟩
          rw [hr] at hu ⊢
          simpa using hu

/-- The next one of a prefix; nothing, if there is none. -/
def nextL (l : List UInt8) : List UInt8 := if rais l = 0 then [] else l.take (rais l - 1) ++ [l.getD (rais l - 1) 0 + 1]
def nextB (l : List UInt8) : Bool := decide (rais l ≠ 0)

theorem nextL_none {l : List UInt8} (h : rais l = 0) : nextL l = [] := by simp [nextL, h]
theorem nextL_some {l : List UInt8} {k : Nat} {u : UInt8} (h : rais l = k + 1) (hu : l[k]? = some u) : (l.take (k + 1)).set k (u + 1) = nextL l := by
  have hk : k < l.length := (List.getElem?_eq_some_iff.1 hu).1
  unfold nextL
  rw [if_neg (by omega), h]
  simp only [Nat.add_sub_cancel]
  rw [List.take_succ_eq_append_getElem hk, List.set_append_right _ _ (by simp; omega)]
  have e : l.getD k 0 = u := by simp [List.getD, hu]
  rw [e]
  congr 1
  simp [Nat.min_eq_left (Nat.le_of_lt hk)]
theorem nextL_length {l : List UInt8} : (nextL l).length = rais l := by
  have := rais_le l
  unfold nextL
  split
  · simp_all
  · simp; omega

/-- P1.4: what begins with a prefix is within it and the next one, and nothing else is. -/
theorem within_next (p k : List UInt8) : (decide (0 ≤ cmpL k p) && (!nextB p || decide (cmpL k (nextL p) < 0))) = decide (lcp k p = p.length) := by
  induction p generalizing k with
  | nil => cases k <;> simp [cmpL, lcp, nextB, rais]
  | cons b p ih =>
    cases k with
    | nil => simp [cmpL, lcp]
    | cons a k =>
      have h := ih k
      simp only [cmpL, lcp, List.length_cons]
      by_cases e : a = b
      · subst e
        simp only [if_true, Nat.add_right_cancel_iff]
        rw [← h]
        congr 1
        by_cases h0 : rais p = 0
        · have e1 : nextB p = false := by simp [nextB, h0]
          rw [e1]
          by_cases hb : a = 255
          · have e2 : nextB (a :: p) = false := by simp [nextB, rais, h0, hb]
            rw [e2]; rfl
          · have hr : rais (a :: p) = 1 := by simp [rais, h0, hb]
            have e2 : nextB (a :: p) = true := by simp [nextB, hr]
            have e3 : nextL (a :: p) = [a + 1] := by simp [nextL, hr]
            have hlt : a.toNat < (a + 1).toNat := by
              have h1 : a.toNat < 256 := a.toNat_lt
              have h2 : a.toNat ≠ 255 := fun q => hb (UInt8.toNat_inj.1 (by simpa using q))
              rw [UInt8.toNat_add]; simp; omega
            have hne : ¬ a = a + 1 := fun q => by rw [← q] at hlt; omega
            rw [e2, e3]
            have c1 : cmpL (a :: k) [a + 1] = -1 := by simp only [cmpL]; rw [if_neg hne, if_pos hlt]
            rw [c1]; rfl
        · have hr : rais (a :: p) = rais p + 1 := by simp [rais, h0]
          have e1 : nextB p = true := by simp [nextB, h0]
          have e2 : nextB (a :: p) = true := by simp [nextB, hr]
          have e3 : nextL (a :: p) = a :: nextL p := by
            obtain ⟨r, hr2⟩ : ∃ r, rais p = r + 1 := ⟨rais p - 1, by omega⟩
            simp [nextL, hr, hr2]
          rw [e1, e2, e3]
          simp [cmpL]
      · simp only [e, if_false]
        have hz : ¬ (0 = p.length + 1) := by omega
        simp only [hz, decide_false]
        by_cases hlt : a.toNat < b.toNat
        · simp [hlt]
        · simp only [hlt, if_false]
          have hab : b.toNat < a.toNat := by
            have : a.toNat ≠ b.toNat := fun q => e (UInt8.toNat_inj.1 q)
            omega
          have ha : a.toNat < 256 := a.toNat_lt
          have hb : b ≠ 255 := fun q => by subst q; simp at hab; omega
          by_cases h0 : rais p = 0
          · have hr : rais (b :: p) = 1 := by simp [rais, h0, hb]
            have e2 : nextB (b :: p) = true := by simp [nextB, hr]
            have e3 : nextL (b :: p) = [b + 1] := by simp [nextL, hr]
            have hs : (b + 1).toNat = b.toNat + 1 := by
              rw [UInt8.toNat_add]; simp; omega
            rw [e2, e3]
            have c1 : 0 ≤ cmpL (a :: k) [b + 1] := by
              simp only [cmpL]
              by_cases q : a = b + 1
              · rw [if_pos q]; cases k <;> simp [cmpL]
              · rw [if_neg q, if_neg (by omega)]; omega
            have c2 : ¬ cmpL (a :: k) [b + 1] < 0 := by omega
            simp [c2]
          · have hr : rais (b :: p) = rais p + 1 := by simp [rais, h0]
            have e2 : nextB (b :: p) = true := by simp [nextB, hr]
            have e3 : nextL (b :: p) = b :: nextL p := by
              obtain ⟨r, hr2⟩ : ∃ r, rais p = r + 1 := ⟨rais p - 1, by omega⟩
              simp [nextL, hr, hr2]
            rw [e2, e3]
            simp [cmpL, e, hlt]
end Go.Proofs.YtofccfbiappgaaaDoor

namespace Go.Proofs.YtofccfbiappgaaaDoor

/-- The k bytes of n, the highest one first. -/
def beL : Nat → Nat → List UInt8
  | 0, _ => []
  | k + 1, n => UInt8.ofNat (n / 256 ^ k) :: beL k n
theorem beL_length (k n : Nat) : (beL k n).length = k := by
  induction k with
  | zero => rfl
  | succ k ih => simp [beL, ih]

/-- The number that bytes are. -/
def ofL (l : List UInt8) : Nat := l.foldl (fun a u => 256 * a + u.toNat) 0
theorem ofL_nil : ofL [] = 0 := rfl
theorem ofL_snoc (l : List UInt8) (u : UInt8) : ofL (l ++ [u]) = 256 * ofL l + u.toNat := by simp [ofL]
theorem foldl_ofL (l : List UInt8) (a : Nat) : l.foldl (fun a u => 256 * a + u.toNat) a = a * 256 ^ l.length + ofL l := by
  induction l generalizing a with
  | nil => simp [ofL]
  | cons u l ih =>
    have h1 := ih (256 * a + u.toNat)
    have h2 := ih (256 * 0 + u.toNat)
    simp only [List.foldl_cons, List.length_cons, ofL] at *
    rw [h1, h2, Nat.pow_succ]
    simp only [Nat.add_mul, Nat.mul_zero, Nat.zero_add]
    have : 256 * a * 256 ^ l.length = a * (256 ^ l.length * 256) := by rw [Nat.mul_comm 256 a, Nat.mul_assoc, Nat.mul_comm 256]
    omega
theorem ofL_cons (u : UInt8) (l : List UInt8) : ofL (u :: l) = u.toNat * 256 ^ l.length + ofL l := by
  have := foldl_ofL l (256 * 0 + u.toNat)
  simpa [ofL] using this
theorem ofL_lt (l : List UInt8) : ofL l < 256 ^ l.length := by
  induction l with
  | nil => simp [ofL]
  | cons u l ih =>
    rw [ofL_cons, List.length_cons, Nat.pow_succ]
    have : u.toNat < 256 := u.toNat_lt
    have h2 : u.toNat * 256 ^ l.length ≤ 255 * 256 ^ l.length := Nat.mul_le_mul_right _ (by omega)
    omega
theorem ofL_beL (k n : Nat) : ofL (beL k n) = n % 256 ^ k := by
  induction k with
  | zero => simp [beL, ofL, Nat.mod_one]
  | succ k ih =>
    have e : n % (256 ^ k * 256) = n % 256 ^ k + 256 ^ k * (n / 256 ^ k % 256) := Nat.mod_mul
    rw [beL, ofL_cons, ih, beL_length, UInt8.toNat_ofNat', Nat.pow_succ 256 k, e, Nat.mul_comm (256 ^ k), Nat.add_comm]
theorem ofL_inj {l m : List UInt8} (h : l.length = m.length) (e : ofL l = ofL m) : l = m := by
  induction l generalizing m with
  | nil => cases m with
    | nil => rfl
    | cons _ _ => simp at h
  | cons u l ih => cases m with
    | nil => simp at h
    | cons v m =>
      simp only [List.length_cons, Nat.add_right_cancel_iff] at h
      rw [ofL_cons, ofL_cons, h] at e
      have h1 := ofL_lt l
      have h2 := ofL_lt m
      rw [h] at h1
      have hd : (u.toNat * 256 ^ m.length + ofL l) / 256 ^ m.length = (v.toNat * 256 ^ m.length + ofL m) / 256 ^ m.length := by rw [e]
      have hp : 0 < 256 ^ m.length := Nat.pow_pos (by omega)
      rw [Nat.mul_comm u.toNat, Nat.mul_comm v.toNat, Nat.mul_add_div hp, Nat.mul_add_div hp, Nat.div_eq_of_lt h1, Nat.div_eq_of_lt h2] at hd
      have huv : u = v := UInt8.toNat_inj.1 (by omega)
      subst huv
      rw [ih h (by omega)]
/-- The order of two numbers: -1, 0, 1. -/
def cmpN (a b : Nat) : Int := if a < b then -1 else if b < a then 1 else 0
/-- Bytes of one length stand in the order of the numbers that they are. -/
theorem cmpL_ofL {l m : List UInt8} (h : l.length = m.length) : cmpL l m = cmpN (ofL l) (ofL m) := by
  induction l generalizing m with
  | nil => cases m with
    | nil => rfl
    | cons _ _ => simp at h
  | cons u l ih => cases m with
    | nil => simp at h
    | cons v m =>
      simp only [List.length_cons, Nat.add_right_cancel_iff] at h
      have h1 := ofL_lt l
      have h2 := ofL_lt m
      rw [h] at h1
      rw [cmpL, ofL_cons, ofL_cons, h]
      by_cases e : u = v
      · subst e
        rw [if_pos rfl, ih h]
        unfold cmpN
        by_cases c1 : ofL l < ofL m
        · rw [if_pos c1, if_pos (by omega)]
        · by_cases c2 : ofL m < ofL l
          · rw [if_neg c1, if_pos c2, if_neg (by omega), if_pos (by omega)]
          · rw [if_neg c1, if_neg c2, if_neg (by omega), if_neg (by omega)]
      · rw [if_neg e]
        have hne : u.toNat ≠ v.toNat := fun q => e (UInt8.toNat_inj.1 q)
        unfold cmpN
        by_cases c : u.toNat < v.toNat
        · have : (u.toNat + 1) * 256 ^ m.length ≤ v.toNat * 256 ^ m.length := Nat.mul_le_mul_right _ (by omega)
          rw [Nat.add_mul, Nat.one_mul] at this
          rw [if_pos c, if_pos (by omega)]
        · have : (v.toNat + 1) * 256 ^ m.length ≤ u.toNat * 256 ^ m.length := Nat.mul_le_mul_right _ (by omega)
          rw [Nat.add_mul, Nat.one_mul] at this
          rw [if_neg c, if_neg (by omega), if_pos (by omega)]
theorem cmpL_beL {k a b : Nat} (ha : a < 256 ^ k) (hb : b < 256 ^ k) : cmpL (beL k a) (beL k b) = cmpN a b := by
  rw [cmpL_ofL (by rw [beL_length, beL_length]), ofL_beL, ofL_beL, Nat.mod_eq_of_lt ha, Nat.mod_eq_of_lt hb]

/-- Is it a width? -/
def wid (x : Int) : Bool := x == 1 || x == 2 || x == 4 || x == 8
theorem wid_nat {x : Int} (h : wid x = true) : ∃ k : Nat, x = (k : Int) ∧ (k = 1 ∨ k = 2 ∨ k = 4 ∨ k = 8) := by
  simp [wid] at h
  rcases h with ((h | h) | h) | h
  · exact ⟨1, h, by simp⟩
  · exact ⟨2, h, by simp⟩
  · exact ⟨4, h, by simp⟩
  · exact ⟨8, h, by simp⟩
/-- The greatest number of a width; 0 of none. -/
def mostI (x : Int) : Int := if x = 1 then 255 else if x = 2 then 65535 else if x = 4 then 4294967295 else if x = 8 then 18446744073709551615 else 0
/-- Its error. -/
def mostE (x : Int) : Int := if wid x then 0 else 1
theorem mostI_pow {k : Nat} (h : k = 1 ∨ k = 2 ∨ k = 4 ∨ k = 8) : mostI k = ((256 ^ k : Nat) : Int) - 1 := by
  rcases h with rfl | rfl | rfl | rfl <;> decide

/-- What Put answers: the bytes, and the error. -/
def putL (x : Int) (n : Nat) : List UInt8 := if wid x && decide ((n : Int) ≤ mostI x) then beL x.toNat n else []
def putE (x : Int) (n : Nat) : Int := if wid x then (if (n : Int) ≤ mostI x then 0 else 8) else 1
/-- What first answers: the number, and the error. -/
def firstN (x : Int) (l : List UInt8) : Nat := if wid x && decide (x.toNat ≤ l.length) then ofL (l.take x.toNat) else 0
def firstE (x : Int) (l : List UInt8) : Int := if wid x then (if x.toNat ≤ l.length then 0 else 4) else 1
def restL (x : Int) (l : List UInt8) : List UInt8 := if wid x && decide (x.toNat ≤ l.length) then l.drop x.toNat else []
/-- What Get answers. -/
def getN (x : Int) (l : List UInt8) : Nat := if wid x && decide (l.length = x.toNat) then ofL l else 0
def getE (x : Int) (l : List UInt8) : Int := if wid x then (if l.length < x.toNat then 4 else if x.toNat < l.length then 8 else 0) else 1
end Go.Proofs.YtofccfbiappgaaaDoor

namespace Go.Proofs.YtofccfbiappgaaaDoor

/-- The least number of a width; 0 of none. -/
def leastI (x : Int) : Int := if x = 1 then -128 else if x = 2 then -32768 else if x = 4 then -2147483648 else if x = 8 then -9223372036854775808 else 0
/-- The greatest one. -/
def imostI (x : Int) : Int := if x = 1 then 127 else if x = 2 then 32767 else if x = 4 then 2147483647 else if x = 8 then 9223372036854775807 else 0
/-- The width itself; 0 if it is none. -/
def widI (x : Int) : Int := if wid x then x else 0
/-- What Put answers. -/
def iputE (x n : Int) : Int := if wid x then (if leastI x ≤ n ∧ n ≤ imostI x then 0 else 8) else 1
def iputL (x n : Int) : List UInt8 := if wid x = true ∧ leastI x ≤ n ∧ n ≤ imostI x then beL x.toNat (n - leastI x).toNat else []
/-- What Take answers: the number. -/
def itakeN (x : Int) (l : List UInt8) : Int := if firstE x l = 0 then (firstN x l : Int) + leastI x else 0

theorem wid_cases {x : Int} (h : wid x = true) : x = 1 ∨ x = 2 ∨ x = 4 ∨ x = 8 := by
  simp [wid] at h
  omega
theorem wid_not {x : Int} (h : wid x = false) : x ≠ 1 ∧ x ≠ 2 ∧ x ≠ 4 ∧ x ≠ 8 := by
  simp [wid] at h
  omega
theorem leastI_no {x : Int} (h : wid x = false) : leastI x = 0 := by
  have := wid_not h
  simp [leastI, this]
theorem imostI_no {x : Int} (h : wid x = false) : imostI x = 0 := by
  have := wid_not h
  simp [imostI, this]
/-- Of a width: the least number is one below what the greatest one is on the other side; all of them together are layer 2's. -/
theorem least_most {x : Int} (h : wid x = true) : leastI x = -imostI x - 1 ∧ mostI x = 2 * imostI x + 1 ∧ 127 ≤ imostI x ∧ imostI x ≤ 9223372036854775807 := by
  rcases wid_cases h with rfl | rfl | rfl | rfl <;> decide
theorem iput_yes {x n : Int} (h : wid x = true) (h1 : leastI x ≤ n) (h2 : n ≤ imostI x) : putL x (n - leastI x).toNat = iputL x n ∧ putE x (n - leastI x).toNat = iputE x n ∧ (n - leastI x).toNat ≤ 18446744073709551615 := by
  obtain ⟨e1, e2, e3, e4⟩ := least_most h
  have hm : ((n - leastI x).toNat : Int) ≤ mostI x := by omega
  refine ⟨?_, ?_, by omega⟩
  · rw [putL, iputL, if_pos (by rw [h, decide_eq_true hm]; rfl), if_pos ⟨h, h1, h2⟩]
  · rw [putE, iputE, if_pos h, if_pos hm, if_pos h, if_pos ⟨h1, h2⟩]
/-- What the first bytes are is at most layer 2's greatest number. -/
theorem firstN_le {x : Int} (l : List UInt8) (h : wid x = true) : (firstN x l : Int) ≤ mostI x := by
  obtain ⟨k, rfl, hk⟩ := wid_nat h
  rw [mostI_pow hk]
  unfold firstN
  split
  · rename_i hc
    have := ofL_lt (l.take k)
    simp at hc
    rw [List.length_take, Nat.min_eq_left hc.2] at this
    rw [Int.toNat_natCast]
    omega
  · have : 0 < 256 ^ k := Nat.pow_pos (by omega)
    omega
theorem firstE_cases (x : Int) (l : List UInt8) : firstE x l = 0 ∨ firstE x l = 4 ∨ firstE x l = 1 := by
  unfold firstE
  repeat' split
  all_goals simp
/-- The order of two numbers with a sign. -/
def cmpZ (a b : Int) : Int := if a < b then -1 else if b < a then 1 else 0
theorem iput_ok {x n : Int} (h : iputE x n = 0) : ∃ k : Nat, x = k ∧ k ≤ 8 ∧ wid k = true ∧ leastI k ≤ n ∧ n ≤ imostI k ∧ (n - leastI k).toNat < 256 ^ k ∧ iputL x n = beL k (n - leastI k).toNat := by
  unfold iputE at h
  by_cases hx : wid x = true
  · by_cases hm : leastI x ≤ n ∧ n ≤ imostI x
    · obtain ⟨k, rfl, hk⟩ := wid_nat hx
      obtain ⟨e1, e2, e3, e4⟩ := least_most hx
      rw [mostI_pow hk] at e2
      refine ⟨k, rfl, by omega, hx, hm.1, hm.2, by omega, by simp [iputL, hx, hm]⟩
    · simp [hx, hm] at h
  · simp [hx] at h
theorem itake_back {k : Nat} {n : Int} (hw : wid k = true) (h0 : leastI k ≤ n) (h : (n - leastI k).toNat < 256 ^ k) (m : List UInt8) : itakeN k (beL k (n - leastI k).toNat ++ m) = n ∧ restL k (beL k (n - leastI k).toNat ++ m) = m ∧ firstE k (beL k (n - leastI k).toNat ++ m) = 0 := by
  have hl := beL_length k (n - leastI k).toNat
  have h3 : firstE k (beL k (n - leastI k).toNat ++ m) = 0 := by simp [firstE, hw, hl]
  refine ⟨?_, by simp [restL, hw, hl], h3⟩
  have h1 : firstN k (beL k (n - leastI k).toNat ++ m) = (n - leastI k).toNat := by simp [firstN, hw, hl, ofL_beL, Nat.mod_eq_of_lt h]
  rw [itakeN, if_pos h3, h1]
  omega
theorem cmp_iput {k : Nat} {a b : Int} (ha : leastI k ≤ a) (hb : leastI k ≤ b) (ha' : (a - leastI k).toNat < 256 ^ k) (hb' : (b - leastI k).toNat < 256 ^ k) : cmpL (beL k (a - leastI k).toNat) (beL k (b - leastI k).toNat) = cmpZ a b := by
  rw [cmpL_beL ha' hb']
  unfold cmpN cmpZ
  by_cases c1 : a < b
  · rw [if_pos c1, if_pos (by omega)]
  · by_cases c2 : b < a
    · rw [if_neg c1, if_pos c2, if_neg (by omega), if_pos (by omega)]
    · rw [if_neg c1, if_neg c2, if_neg (by omega), if_neg (by omega)]
end Go.Proofs.YtofccfbiappgaaaDoor

namespace Go.Proofs.YtofccfbiappgaaaDoor

/-- A text's bytes but for the end. -/
def escL : List UInt8 → List UInt8
  | [] => []
  | u :: l => if u = 0 then 0 :: 255 :: escL l else u :: escL l
/-- A text's bytes. -/
def sputL (l : List UInt8) : List UInt8 := escL l ++ [0, 0]
/-- The other ones. -/
def othL (l : List UInt8) : List UInt8 := l.map fun u => 255 - u

/-- What bytes begin with: a text and how many bytes it takes, or an error. -/
inductive Scn where
  | ok (t : List UInt8) (n : Nat)
  | bad (e : Int)
def Scn.ahead (o : List UInt8) (k : Nat) : Scn → Scn
  | .ok t n => .ok (o ++ t) (k + n)
  | .bad e => .bad e
def Scn.T : Scn → List UInt8 | .ok t _ => t | .bad _ => []
def Scn.N : Scn → Nat | .ok _ n => n | .bad _ => 0
def Scn.E : Scn → Int | .ok _ _ => 0 | .bad e => e
def scan : List UInt8 → Scn
  | [] => .bad 4
  | [u] => if u = 0 then .bad 4 else .bad 4
  | u :: v :: l => if u = 0 then (if v = 0 then .ok [] 2 else if v = 255 then (scan l).ahead [0] 2 else .bad 3) else (scan (v :: l)).ahead [u] 1

theorem scan_nil : scan [] = .bad 4 := rfl
theorem scan_one : scan [0] = .bad 4 := rfl
theorem scan_end (l : List UInt8) : scan (0 :: 0 :: l) = .ok [] 2 := by simp [scan]
theorem scan_mark (l : List UInt8) : scan (0 :: 255 :: l) = (scan l).ahead [0] 2 := by simp [scan]
theorem scan_form (v : UInt8) (l : List UInt8) (h : v ≠ 0) (h' : v ≠ 255) : scan (0 :: v :: l) = .bad 3 := by simp [scan, h, h']
theorem scan_cons (u : UInt8) (l : List UInt8) (h : u ≠ 0) : scan (u :: l) = (scan l).ahead [u] 1 := by
  cases l with
  | nil => simp [scan, Scn.ahead]
  | cons v l => simp [scan, h]
theorem ahead_ahead (o o' : List UInt8) (k k' : Nat) (s : Scn) : (s.ahead o' k').ahead o k = s.ahead (o ++ o') (k + k') := by
  cases s <;> simp [Scn.ahead, Nat.add_assoc]
theorem ahead_nil (s : Scn) : s.ahead [] 0 = s := by cases s <;> simp [Scn.ahead]

theorem drop_at {l : List UInt8} {k : Nat} {u : UInt8} (h : l[k]? = some u) : l.drop k = u :: l.drop (k + 1) := by
  obtain ⟨hk, rfl⟩ := List.getElem?_eq_some_iff.1 h
  exact List.drop_eq_getElem_cons hk

/-- How far the scan has come: o is told, k bytes are behind. -/
def At (l o : List UInt8) (k : Nat) : Prop := scan l = (scan (l.drop k)).ahead o k
theorem At.start (l : List UInt8) : At l [] 0 := by unfold At; rw [List.drop_zero, ahead_nil]
theorem At.one {l o : List UInt8} {k : Nat} {u : UInt8} (h : At l o k) (hu : l[k]? = some u) (h0 : u ≠ 0) : At l (o ++ [u]) (k + 1) := by
  unfold At at h ⊢
  rw [h, drop_at hu, scan_cons _ _ h0, ahead_ahead]
theorem At.two {l o : List UInt8} {k : Nat} (h : At l o k) (hu : l[k]? = some 0) (hv : l[k + 1]? = some 255) : At l (o ++ [0]) (k + 2) := by
  unfold At at h ⊢
  rw [h, drop_at hu, drop_at hv, scan_mark, ahead_ahead]
theorem At.none_ {l o : List UInt8} {k : Nat} (h : At l o k) (hk : l.length ≤ k) : scan l = .bad 4 := by
  unfold At at h
  rw [h, List.drop_of_length_le hk, scan_nil]; rfl
theorem At.half {l o : List UInt8} {k : Nat} (h : At l o k) (hu : l[k]? = some 0) (hk : l.length = k + 1) : scan l = .bad 4 := by
  unfold At at h
  rw [h, drop_at hu, List.drop_of_length_le (by omega), scan_one]; rfl
theorem At.done {l o : List UInt8} {k : Nat} (h : At l o k) (hu : l[k]? = some 0) (hv : l[k + 1]? = some 0) : scan l = .ok o (k + 2) := by
  unfold At at h
  rw [h, drop_at hu, drop_at hv, scan_end]; simp [Scn.ahead]
theorem At.form {l o : List UInt8} {k : Nat} {v : UInt8} (h : At l o k) (hu : l[k]? = some 0) (hv : l[k + 1]? = some v) (h0 : v ≠ 0) (h1 : v ≠ 255) : scan l = .bad 3 := by
  unfold At at h
  rw [h, drop_at hu, drop_at hv, scan_form _ _ h0 h1]; rfl

theorem escL_append (a b : List UInt8) : escL (a ++ b) = escL a ++ escL b := by
  induction a with
  | nil => rfl
  | cons u a ih => simp only [List.cons_append, escL, ih]; split <;> simp
theorem escL_snoc {l : List UInt8} {k : Nat} {u : UInt8} (h : l[k]? = some u) : escL (l.take (k + 1)) = escL (l.take k) ++ (if u = 0 then [0, 255] else [u]) := by
  obtain ⟨hk, rfl⟩ := List.getElem?_eq_some_iff.1 h
  rw [List.take_succ_eq_append_getElem hk, escL_append]
  congr 1
theorem escL_zero {l : List UInt8} {k : Nat} (h : l[k]? = some 0) : escL (l.take k) ++ [0] ++ [255] = escL (l.take (k + 1)) := by
  rw [escL_snoc h, if_pos rfl, List.append_assoc]; rfl
theorem escL_plain {l : List UInt8} {k : Nat} {u : UInt8} (h : l[k]? = some u) (h0 : u ≠ 0) : escL (l.take k) ++ [u] = escL (l.take (k + 1)) := by
  rw [escL_snoc h, if_neg h0]
theorem escL_length (l : List UInt8) : (escL l).length ≤ 2 * l.length := by
  induction l with
  | nil => simp [escL]
  | cons u l ih => simp only [escL]; split <;> simp only [List.length_cons] <;> omega
theorem sputL_length (l : List UInt8) : (sputL l).length = (escL l).length + 2 := by simp [sputL]

/-- What was told is what was put. -/
theorem scan_put (s m : List UInt8) : scan (sputL s ++ m) = .ok s (sputL s).length := by
  induction s with
  | nil => simp [sputL, escL, scan_end]
  | cons u s ih =>
    by_cases h : u = 0
    · subst h
      have e : sputL (0 :: s) = 0 :: 255 :: sputL s := by simp [sputL, escL]
      rw [e, List.cons_append, List.cons_append, scan_mark, ih]
      simp [Scn.ahead]; omega
    · have e : sputL (u :: s) = u :: sputL s := by simp [sputL, escL, h]
      rw [e, List.cons_append, scan_cons _ _ h, ih]
      simp [Scn.ahead]; omega
/-- What is told takes just its bytes. -/
theorem scan_ok {l t : List UInt8} {n : Nat} (h : scan l = .ok t n) : n = (sputL t).length ∧ l = sputL t ++ l.drop n := by
  induction l using scan.induct generalizing t n with
  | case1 => cases h
  | case2 => simp [scan] at h
  | case3 u hu => simp [scan] at h
  | case4 l => rw [scan_end] at h; injection h with h1 h2; subst h1 h2; simp [sputL, escL]
  | case5 l h1 ih =>
    rw [scan_mark] at h
    cases hs : scan l with
    | bad e => rw [hs] at h; cases h
    | ok t' n' =>
      rw [hs] at h
      simp only [Scn.ahead] at h
      injection h with h1 h2
      obtain ⟨i1, i2⟩ := ih hs
      subst h1 h2
      have e : sputL ([0] ++ t') = 0 :: 255 :: sputL t' := by simp [sputL, escL]
      rw [e]
      refine ⟨by simp; omega, ?_⟩
      rw [Nat.add_comm 2 n', List.drop_succ_cons, List.drop_succ_cons, List.cons_append, List.cons_append, ← i2]
  | case6 v l h0 h1 => rw [scan_form _ _ h0 h1] at h; cases h
  | case7 u v l hu ih =>
    rw [scan_cons _ _ hu] at h
    cases hs : scan (v :: l) with
    | bad e => rw [hs] at h; cases h
    | ok t' n' =>
      rw [hs] at h
      simp only [Scn.ahead] at h
      injection h with h1 h2
      obtain ⟨i1, i2⟩ := ih hs
      subst h1 h2
      have e : sputL ([u] ++ t') = u :: sputL t' := by simp [sputL, escL, hu]
      rw [e]
      refine ⟨by simp; omega, ?_⟩
      rw [Nat.add_comm 1 n', List.drop_succ_cons, List.cons_append, ← i2]
theorem scan_len {l t : List UInt8} {n : Nat} (h : scan l = .ok t n) : 2 ≤ n ∧ n ≤ l.length ∧ l.take (n - 2) = escL t := by
  obtain ⟨h1, h2⟩ := scan_ok h
  have h3 := sputL_length t
  have h4 : (sputL t ++ l.drop n).length = (sputL t).length + (l.length - n) := by simp
  refine ⟨by omega, ?_, ?_⟩
  · rw [← h2] at h4; omega
  · rw [h2, show n - 2 = (escL t).length from by omega]
    simp [sputL]
theorem scan_E (l : List UInt8) : (scan l).E = 0 → ∃ t n, scan l = .ok t n := by
  intro h
  have hb : ∀ l e, scan l = .bad e → e ≠ 0 := by
    intro l
    induction l using scan.induct with
    | case1 => intro e h; injection h with h; omega
    | case2 => intro e h; simp [scan] at h; omega
    | case3 u hu => intro e h; simp [scan] at h; omega
    | case4 l => intro e h; rw [scan_end] at h; cases h
    | case5 l h1 ih =>
      intro e h
      rw [scan_mark] at h
      cases hs : scan l with
      | bad e' => rw [hs] at h; injection h with h; subst h; exact ih _ hs
      | ok t' n' => rw [hs] at h; cases h
    | case6 v l h0 h1 => intro e h; rw [scan_form _ _ h0 h1] at h; injection h with h; omega
    | case7 u v l hu ih =>
      intro e h
      rw [scan_cons _ _ hu] at h
      cases hs : scan (v :: l) with
      | bad e' => rw [hs] at h; injection h with h; subst h; exact ih _ hs
      | ok t' n' => rw [hs] at h; cases h
  cases hs : scan l with
  | ok t n => exact ⟨t, n, rfl⟩
  | bad e => rw [hs] at h; exact absurd h (hb l e hs)

theorem othL_length (l : List UInt8) : (othL l).length = l.length := by simp [othL]
theorem oth_toNat (u : UInt8) : (255 - u).toNat = 255 - u.toNat := by
  have := u.toNat_lt
  rw [UInt8.toNat_sub]
  show (2 ^ 8 - u.toNat + 255) % 2 ^ 8 = _
  omega
theorem othL_othL (l : List UInt8) : othL (othL l) = l := by
  induction l with
  | nil => rfl
  | cons u l ih =>
    have e : (255 : UInt8) - (255 - u) = u := by
      apply UInt8.toNat_inj.1
      have := u.toNat_lt
      rw [oth_toNat, oth_toNat]; omega
    have ih' : (l.map fun u => 255 - u).map (fun u => 255 - u) = l := ih
    show (255 - (255 - u)) :: _ = _
    rw [e, ih']
theorem oth_inj {u v : UInt8} (h : 255 - u = 255 - v) : u = v := by
  apply UInt8.toNat_inj.1
  have h1 := congrArg UInt8.toNat h
  rw [oth_toNat, oth_toNat] at h1
  have := u.toNat_lt
  have := v.toNat_lt
  omega

theorem sputL_nil : sputL [] = [0, 0] := rfl
theorem sputL_zero (s : List UInt8) : sputL (0 :: s) = 0 :: 255 :: sputL s := by simp [sputL, escL]
theorem sputL_cons {u : UInt8} (s : List UInt8) (h : u ≠ 0) : sputL (u :: s) = u :: sputL s := by simp [sputL, escL, h]
theorem pos_of_ne {u : UInt8} (h : u ≠ 0) : 0 < u.toNat := by
  have : u.toNat ≠ 0 := fun q => h (UInt8.toNat_inj.1 (by simpa using q))
  omega

/-- Texts' bytes are in order as the texts. -/
theorem cmpL_sput (s t : List UInt8) : cmpL (sputL s) (sputL t) = cmpL s t := by
  induction s generalizing t with
  | nil =>
    cases t with
    | nil => rw [cmpL_self]; rfl
    | cons v t =>
      by_cases hv : v = 0
      · subst hv; rw [sputL_zero, sputL_nil]; simp [cmpL]
      · rw [sputL_cons _ hv, sputL_nil]; simp [cmpL, Ne.symm hv, pos_of_ne hv]
  | cons u s ih =>
    cases t with
    | nil =>
      by_cases hu : u = 0
      · subst hu; rw [sputL_zero, sputL_nil]; simp [cmpL]
      · rw [sputL_cons _ hu, sputL_nil]; simp [cmpL, hu]
    | cons v t =>
      by_cases hu : u = 0
      · subst hu
        by_cases hv : v = 0
        · subst hv; rw [sputL_zero, sputL_zero]; simp [cmpL, ih]
        · rw [sputL_zero, sputL_cons _ hv]; simp [cmpL, Ne.symm hv]
      · by_cases hv : v = 0
        · subst hv; rw [sputL_zero, sputL_cons _ hu]; simp [cmpL, hu]
        · rw [sputL_cons _ hu, sputL_cons _ hv]; simp [cmpL, ih]
/-- The other ones the other way round. -/
theorem cmpL_oth (s t : List UInt8) : cmpL (othL (sputL s)) (othL (sputL t)) = -cmpL s t := by
  have hc : ∀ (u v : UInt8) (a b : List UInt8), cmpL (othL (u :: a)) (othL (v :: b)) = if u = v then cmpL (othL a) (othL b) else if v.toNat < u.toNat then -1 else 1 := by
    intro u v a b
    have h1 := u.toNat_lt
    have h2 := v.toNat_lt
    simp only [othL, List.map_cons, cmpL]
    by_cases h : u = v
    · subst h; simp
    · rw [if_neg (fun q => h (oth_inj q)), if_neg h, oth_toNat, oth_toNat]
      by_cases h3 : v.toNat < u.toNat
      · rw [if_pos h3, if_pos (by omega)]
      · rw [if_neg h3, if_neg (by omega)]
  induction s generalizing t with
  | nil =>
    cases t with
    | nil => rw [cmpL_self]; rfl
    | cons v t =>
      by_cases hv : v = 0
      · subst hv; rw [sputL_zero, sputL_nil, hc, hc]; simp [cmpL]
      · rw [sputL_cons _ hv, sputL_nil, hc]; simp [cmpL, Ne.symm hv]
  | cons u s ih =>
    cases t with
    | nil =>
      by_cases hu : u = 0
      · subst hu; rw [sputL_zero, sputL_nil, hc, hc]; simp [cmpL]
      · rw [sputL_cons _ hu, sputL_nil, hc]; simp [cmpL, hu, pos_of_ne hu]
    | cons v t =>
      have key : ∀ w : UInt8, cmpL (w :: s) (w :: t) = cmpL s t := fun w => by simp [cmpL]
      by_cases hu : u = 0
      · subst hu
        by_cases hv : v = 0
        · subst hv; rw [sputL_zero, sputL_zero, hc, hc, key]; simp [ih]
        · rw [sputL_zero, sputL_cons _ hv, hc]; simp [cmpL, Ne.symm hv, pos_of_ne hv]
      · by_cases hv : v = 0
        · subst hv; rw [sputL_zero, sputL_cons _ hu, hc]; simp [cmpL, hu, pos_of_ne hu]
        · rw [sputL_cons _ hu, sputL_cons _ hv, hc]
          by_cases e : u = v
          · subst e; rw [key]; simp [ih]
          · have h3 : u.toNat ≠ v.toNat := fun q => e (UInt8.toNat_inj.1 q)
            simp only [cmpL, if_neg e]
            by_cases h4 : v.toNat < u.toNat
            · rw [if_pos h4, if_neg (by omega)]
            · rw [if_neg h4, if_pos (by omega)]; rfl
/-- None are the beginning of another one's. -/
theorem lcp_sput {s t : List UInt8} (h : lcp (sputL s) (sputL t) = (sputL t).length) : s = t := by
  induction s generalizing t with
  | nil =>
    cases t with
    | nil => rfl
    | cons v t =>
      by_cases hv : v = 0
      · subst hv; rw [sputL_zero, sputL_nil] at h; simp [lcp] at h
      · rw [sputL_cons _ hv, sputL_nil] at h; simp [lcp, Ne.symm hv] at h
  | cons u s ih =>
    cases t with
    | nil =>
      by_cases hu : u = 0
      · subst hu; rw [sputL_zero, sputL_nil] at h; simp [lcp] at h
      · rw [sputL_cons _ hu, sputL_nil] at h; simp [lcp, hu] at h
    | cons v t =>
      by_cases hu : u = 0
      · subst hu
        by_cases hv : v = 0
        · subst hv; rw [sputL_zero, sputL_zero] at h; simp [lcp] at h; rw [ih h]
        · rw [sputL_zero, sputL_cons _ hv] at h; simp [lcp, Ne.symm hv] at h
      · by_cases hv : v = 0
        · subst hv; rw [sputL_zero, sputL_cons _ hu] at h; simp [lcp, hu] at h
        · rw [sputL_cons _ hu, sputL_cons _ hv] at h
          by_cases e : u = v
          · subst e; simp [lcp] at h; rw [ih h]
          · simp [lcp, e] at h
/-- Behind m bytes of a text, its bytes go on by the next one. -/
theorem escL_at {t : List UInt8} {m : Nat} {u : UInt8} (h : t[m]? = some u) : (escL t)[(escL (t.take m)).length]? = some u := by
  have e : t = t.take m ++ t.drop m := (List.take_append_drop m t).symm
  have e2 : escL t = escL (t.take m) ++ escL (t.drop m) := by rw [← escL_append, ← e]
  rw [e2, List.getElem?_append_right (Nat.le_refl _), Nat.sub_self, drop_at h]
  simp only [escL]
  split
  · rename_i h0; subst h0; rfl
  · rfl
theorem escL_le (t : List UInt8) (m : Nat) : (escL (t.take m)).length ≤ (escL t).length := by
  have e2 : escL t = escL (t.take m) ++ escL (t.drop m) := by rw [← escL_append, List.take_append_drop]
  rw [e2, List.length_append]; omega
theorem escL_full {t : List UInt8} {m : Nat} (h : (escL (t.take m)).length = (escL t).length) : t.take m = t := by
  rcases Nat.lt_or_ge m t.length with h1 | h1
  · have h2 := escL_at (List.getElem?_eq_getElem h1)
    have h3 := (List.getElem?_eq_some_iff.1 h2).1
    omega
  · exact List.take_of_length_le h1
theorem take_len_le (t : List UInt8) (m : Nat) (hm : m ≤ t.length) : m ≤ (escL (t.take m)).length := by
  have : ∀ l : List UInt8, l.length ≤ (escL l).length := by
    intro l
    induction l with
    | nil => simp
    | cons u l ih => simp only [escL]; split <;> simp only [List.length_cons] <;> omega
  have h := this (t.take m)
  rw [List.length_take] at h
  omega

/-- What stands behind the text. -/
def Scn.R (l : List UInt8) : Scn → List UInt8 | .ok _ n => l.drop n | .bad _ => []
end Go.Proofs.YtofccfbiappgaaaDoor
