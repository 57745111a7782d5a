/-
  Plain mathematics of whole numbers as bytes: the highest byte first, their order, and the number that bytes are. Nothing of the program is used.
-/
import Derived.Test.YtdpddkpfllioiaaDoorPure
namespace Go.Proofs.YtdpddkpfllioiaaDoor

/-- The k bytes of n, the highest one first. -/
def beL : Nat → Nat → List UInt8
  | 0, _ => []
  | k + 1, n => UInt8.ofNat (n / 256 ^ k) :: beL k n
theorem beL_length (k n : Nat) : (beL k n).length = k := by
  induction k with
  | zero => rfl
  | succ k ih => simp [beL, ih]

/-- The number that bytes are. -/
def ofL (l : List UInt8) : Nat := l.foldl (fun a u => 256 * a + u.toNat) 0
theorem ofL_nil : ofL [] = 0 := rfl
theorem ofL_snoc (l : List UInt8) (u : UInt8) : ofL (l ++ [u]) = 256 * ofL l + u.toNat := by simp [ofL]
theorem foldl_ofL (l : List UInt8) (a : Nat) : l.foldl (fun a u => 256 * a + u.toNat) a = a * 256 ^ l.length + ofL l := by
  induction l generalizing a with
  | nil => simp [ofL]
  | cons u l ih =>
    have h1 := ih (256 * a + u.toNat)
    have h2 := ih (256 * 0 + u.toNat)
    simp only [List.foldl_cons, List.length_cons, ofL] at *
    rw [h1, h2, Nat.pow_succ]
    simp only [Nat.add_mul, Nat.mul_zero, Nat.zero_add]
    have : 256 * a * 256 ^ l.length = a * (256 ^ l.length * 256) := by rw [Nat.mul_comm 256 a, Nat.mul_assoc, Nat.mul_comm 256]
    omega
theorem ofL_cons (u : UInt8) (l : List UInt8) : ofL (u :: l) = u.toNat * 256 ^ l.length + ofL l := by
  have := foldl_ofL l (256 * 0 + u.toNat)
  simpa [ofL] using this
theorem ofL_lt (l : List UInt8) : ofL l < 256 ^ l.length := by
  induction l with
  | nil => simp [ofL]
  | cons u l ih =>
    rw [ofL_cons, List.length_cons, Nat.pow_succ]
    have : u.toNat < 256 := u.toNat_lt
    have h2 : u.toNat * 256 ^ l.length ≤ 255 * 256 ^ l.length := Nat.mul_le_mul_right _ (by omega)
    omega
theorem ofL_beL (k n : Nat) : ofL (beL k n) = n % 256 ^ k := by
  induction k with
  | zero => simp [beL, ofL, Nat.mod_one]
  | succ k ih =>
    have e : n % (256 ^ k * 256) = n % 256 ^ k + 256 ^ k * (n / 256 ^ k % 256) := Nat.mod_mul
    rw [beL, ofL_cons, ih, beL_length, UInt8.toNat_ofNat', Nat.pow_succ 256 k, e, Nat.mul_comm (256 ^ k), Nat.add_comm]
theorem ofL_inj {l m : List UInt8} (h : l.length = m.length) (e : ofL l = ofL m) : l = m := by
  induction l generalizing m with
  | nil => cases m with
    | nil => rfl
    | cons _ _ => simp at h
  | cons u l ih => cases m with
    | nil => simp at h
    | cons v m =>
      simp only [List.length_cons, Nat.add_right_cancel_iff] at h
      rw [ofL_cons, ofL_cons, h] at e
      have h1 := ofL_lt l
      have h2 := ofL_lt m
      rw [h] at h1
      have hd : (u.toNat * 256 ^ m.length + ofL l) / 256 ^ m.length = (v.toNat * 256 ^ m.length + ofL m) / 256 ^ m.length := by rw [e]
      have hp : 0 < 256 ^ m.length := Nat.pow_pos (by omega)
      rw [Nat.mul_comm u.toNat, Nat.mul_comm v.toNat, Nat.mul_add_div hp, Nat.mul_add_div hp, Nat.div_eq_of_lt h1, Nat.div_eq_of_lt h2] at hd
      have huv : u = v := UInt8.toNat_inj.1 (by omega)
      subst huv
      rw [ih h (by omega)]
/-- The order of two numbers: -1, 0, 1. -/
def cmpN (a b : Nat) : Int := if a < b then -1 else if b < a then 1 else 0
/-- Bytes of one length stand in the order of the numbers that they are. -/
theorem cmpL_ofL {l m : List UInt8} (h : l.length = m.length) : cmpL l m = cmpN (ofL l) (ofL m) := by
  induction l generalizing m with
  | nil => cases m with
    | nil => rfl
    | cons _ _ => simp at h
  | cons u l ih => cases m with
    | nil => simp at h
    | cons v m =>
      simp only [List.length_cons, Nat.add_right_cancel_iff] at h
      have h1 := ofL_lt l
      have h2 := ofL_lt m
      rw [h] at h1
      rw [cmpL, ofL_cons, ofL_cons, h]
      by_cases e : u = v
      · subst e
        rw [if_pos rfl, ih h]
        unfold cmpN
        by_cases c1 : ofL l < ofL m
        · rw [if_pos c1, if_pos (by omega)]
        · by_cases c2 : ofL m < ofL l
          · rw [if_neg c1, if_pos c2, if_neg (by omega), if_pos (by omega)]
          · rw [if_neg c1, if_neg c2, if_neg (by omega), if_neg (by omega)]
      · rw [if_neg e]
        have hne : u.toNat ≠ v.toNat := fun q => e (UInt8.toNat_inj.1 q)
        unfold cmpN
        by_cases c : u.toNat < v.toNat
        · have : (u.toNat + 1) * 256 ^ m.length ≤ v.toNat * 256 ^ m.length := Nat.mul_le_mul_right _ (by omega)
          rw [Nat.add_mul, Nat.one_mul] at this
          rw [if_pos c, if_pos (by omega)]
        · have : (v.toNat + 1) * 256 ^ m.length ≤ u.toNat * 256 ^ m.length := Nat.mul_le_mul_right _ (by omega)
          rw [Nat.add_mul, Nat.one_mul] at this
          rw [if_neg c, if_neg (by omega), if_pos (by omega)]
theorem cmpL_beL {k a b : Nat} (ha : a < 256 ^ k) (hb : b < 256 ^ k) : cmpL (beL k a) (beL k b) = cmpN a b := by
  rw [cmpL_ofL (by rw [beL_length, beL_length]), ofL_beL, ofL_beL, Nat.mod_eq_of_lt ha, Nat.mod_eq_of_lt hb]

/-- Is it a width? -/
def wid (x : Int) : Bool := x == 1 || x == 2 || x == 4 || x == 8
theorem wid_nat {x : Int} (h : wid x = true) : ∃ k : Nat, x = (k : Int) ∧ (k = 1 ∨ k = 2 ∨ k = 4 ∨ k = 8) := by
  simp [wid] at h
  rcases h with ((h | h) | h) | h
  · exact ⟨1, h, by simp⟩
  · exact ⟨2, h, by simp⟩
  · exact ⟨4, h, by simp⟩
  · exact ⟨8, h, by simp⟩
/-- The greatest number of a width; 0 of none. -/
def mostI (x : Int) : Int := if x = 1 then 255 else if x = 2 then 65535 else if x = 4 then 4294967295 else if x = 8 then 18446744073709551615 else 0
/-- Its error. -/
def mostE (x : Int) : Int := if wid x then 0 else 1
theorem mostI_pow {k : Nat} (h : k = 1 ∨ k = 2 ∨ k = 4 ∨ k = 8) : mostI k = ((256 ^ k : Nat) : Int) - 1 := by
  rcases h with rfl | rfl | rfl | rfl <;> decide

/-- What Put answers: the bytes, and the error. -/
def putL (x : Int) (n : Nat) : List UInt8 := if wid x && decide ((n : Int) ≤ mostI x) then beL x.toNat n else []
def putE (x : Int) (n : Nat) : Int := if wid x then (if (n : Int) ≤ mostI x then 0 else 8) else 1
/-- What first answers: the number, and the error. -/
def firstN (x : Int) (l : List UInt8) : Nat := if wid x && decide (x.toNat ≤ l.length) then ofL (l.take x.toNat) else 0
def firstE (x : Int) (l : List UInt8) : Int := if wid x then (if x.toNat ≤ l.length then 0 else 4) else 1
def restL (x : Int) (l : List UInt8) : List UInt8 := if wid x && decide (x.toNat ≤ l.length) then l.drop x.toNat else []
/-- What Get answers. -/
def getN (x : Int) (l : List UInt8) : Nat := if wid x && decide (l.length = x.toNat) then ofL l else 0
def getE (x : Int) (l : List UInt8) : Int := if wid x then (if l.length < x.toNat then 4 else if x.toNat < l.length then 8 else 0) else 1
end Go.Proofs.YtdpddkpfllioiaaDoor
