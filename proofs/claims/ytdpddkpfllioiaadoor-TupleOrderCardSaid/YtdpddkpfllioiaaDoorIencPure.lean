/-
  Plain mathematics of numbers with a sign as bytes: the least and the greatest number of a width, and what Put and Take answer. Nothing of the program is used.
-/
import Derived.Test.YtdpddkpfllioiaaDoorUencPure
namespace Go.Proofs.YtdpddkpfllioiaaDoor

/-- The least number of a width; 0 of none. -/
def leastI (x : Int) : Int := if x = 1 then -128 else if x = 2 then -32768 else if x = 4 then -2147483648 else if x = 8 then -9223372036854775808 else 0
/-- The greatest one. -/
def imostI (x : Int) : Int := if x = 1 then 127 else if x = 2 then 32767 else if x = 4 then 2147483647 else if x = 8 then 9223372036854775807 else 0
/-- The width itself; 0 if it is none. -/
def widI (x : Int) : Int := if wid x then x else 0
/-- What Put answers. -/
def iputE (x n : Int) : Int := if wid x then (if leastI x ≤ n ∧ n ≤ imostI x then 0 else 8) else 1
def iputL (x n : Int) : List UInt8 := if wid x = true ∧ leastI x ≤ n ∧ n ≤ imostI x then beL x.toNat (n - leastI x).toNat else []
/-- What Take answers: the number. -/
def itakeN (x : Int) (l : List UInt8) : Int := if firstE x l = 0 then (firstN x l : Int) + leastI x else 0

theorem wid_cases {x : Int} (h : wid x = true) : x = 1 ∨ x = 2 ∨ x = 4 ∨ x = 8 := by
  simp [wid] at h
  omega
theorem wid_not {x : Int} (h : wid x = false) : x ≠ 1 ∧ x ≠ 2 ∧ x ≠ 4 ∧ x ≠ 8 := by
  simp [wid] at h
  omega
theorem leastI_no {x : Int} (h : wid x = false) : leastI x = 0 := by
  have := wid_not h
  simp [leastI, this]
theorem imostI_no {x : Int} (h : wid x = false) : imostI x = 0 := by
  have := wid_not h
  simp [imostI, this]
/-- Of a width: the least number is one below what the greatest one is on the other side; all of them together are layer 2's. -/
theorem least_most {x : Int} (h : wid x = true) : leastI x = -imostI x - 1 ∧ mostI x = 2 * imostI x + 1 ∧ 127 ≤ imostI x ∧ imostI x ≤ 9223372036854775807 := by
  rcases wid_cases h with rfl | rfl | rfl | rfl <;> decide
theorem iput_yes {x n : Int} (h : wid x = true) (h1 : leastI x ≤ n) (h2 : n ≤ imostI x) : putL x (n - leastI x).toNat = iputL x n ∧ putE x (n - leastI x).toNat = iputE x n ∧ (n - leastI x).toNat ≤ 18446744073709551615 := by
  obtain ⟨e1, e2, e3, e4⟩ := least_most h
  have hm : ((n - leastI x).toNat : Int) ≤ mostI x := by omega
  refine ⟨?_, ?_, by omega⟩
  · rw [putL, iputL, if_pos (by rw [h, decide_eq_true hm]; rfl), if_pos ⟨h, h1, h2⟩]
  · rw [putE, iputE, if_pos h, if_pos hm, if_pos h, if_pos ⟨h1, h2⟩]
/-- What the first bytes are is at most layer 2's greatest number. -/
theorem firstN_le {x : Int} (l : List UInt8) (h : wid x = true) : (firstN x l : Int) ≤ mostI x := by
  obtain ⟨k, rfl, hk⟩ := wid_nat h
  rw [mostI_pow hk]
  unfold firstN
  split
  · rename_i hc
    have := ofL_lt (l.take k)
    simp at hc
    rw [List.length_take, Nat.min_eq_left hc.2] at this
    rw [Int.toNat_natCast]
    omega
  · have : 0 < 256 ^ k := Nat.pow_pos (by omega)
    omega
theorem firstE_cases (x : Int) (l : List UInt8) : firstE x l = 0 ∨ firstE x l = 4 ∨ firstE x l = 1 := by
  unfold firstE
  repeat' split
  all_goals simp
/-- The order of two numbers with a sign. -/
def cmpZ (a b : Int) : Int := if a < b then -1 else if b < a then 1 else 0
theorem iput_ok {x n : Int} (h : iputE x n = 0) : ∃ k : Nat, x = k ∧ k ≤ 8 ∧ wid k = true ∧ leastI k ≤ n ∧ n ≤ imostI k ∧ (n - leastI k).toNat < 256 ^ k ∧ iputL x n = beL k (n - leastI k).toNat := by
  unfold iputE at h
  by_cases hx : wid x = true
  · by_cases hm : leastI x ≤ n ∧ n ≤ imostI x
    · obtain ⟨k, rfl, hk⟩ := wid_nat hx
      obtain ⟨e1, e2, e3, e4⟩ := least_most hx
      rw [mostI_pow hk] at e2
      refine ⟨k, rfl, by omega, hx, hm.1, hm.2, by omega, by simp [iputL, hx, hm]⟩
    · simp [hx, hm] at h
  · simp [hx] at h
theorem itake_back {k : Nat} {n : Int} (hw : wid k = true) (h0 : leastI k ≤ n) (h : (n - leastI k).toNat < 256 ^ k) (m : List UInt8) : itakeN k (beL k (n - leastI k).toNat ++ m) = n ∧ restL k (beL k (n - leastI k).toNat ++ m) = m ∧ firstE k (beL k (n - leastI k).toNat ++ m) = 0 := by
  have hl := beL_length k (n - leastI k).toNat
  have h3 : firstE k (beL k (n - leastI k).toNat ++ m) = 0 := by simp [firstE, hw, hl]
  refine ⟨?_, by simp [restL, hw, hl], h3⟩
  have h1 : firstN k (beL k (n - leastI k).toNat ++ m) = (n - leastI k).toNat := by simp [firstN, hw, hl, ofL_beL, Nat.mod_eq_of_lt h]
  rw [itakeN, if_pos h3, h1]
  omega
theorem cmp_iput {k : Nat} {a b : Int} (ha : leastI k ≤ a) (hb : leastI k ≤ b) (ha' : (a - leastI k).toNat < 256 ^ k) (hb' : (b - leastI k).toNat < 256 ^ k) : cmpL (beL k (a - leastI k).toNat) (beL k (b - leastI k).toNat) = cmpZ a b := by
  rw [cmpL_beL ha' hb']
  unfold cmpN cmpZ
  by_cases c1 : a < b
  · rw [if_pos c1, if_pos (by omega)]
  · by_cases c2 : b < a
    · rw [if_neg c1, if_pos c2, if_neg (by omega), if_pos (by omega)]
    · rw [if_neg c1, if_neg c2, if_neg (by omega), if_neg (by omega)]
end Go.Proofs.YtdpddkpfllioiaaDoor
