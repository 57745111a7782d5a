/-
  Plain mathematics of the next one of a prefix: it without the bytes 255 at its end, its last byte one more; what begins with the prefix is between the two. Nothing of the program is used.
-/
import Derived.Test.YtdllgcaeenldaaaPure
namespace Go.Proofs.Ytdllgcaeenldaaa

/-- How many bytes are left without the bytes 255 at the end. -/
def rais : List UInt8 → Nat
  | [] => 0
  | a :: l => if rais l = 0 then (if a = 255 then 0 else 1) else rais l + 1

/-- From k on there are bytes 255 alone. -/
def Tail (l : List UInt8) (k : Nat) : Prop := k ≤ l.length ∧ ∀ (j : Nat) (u : UInt8), k ≤ j → l[j]? = some u → u = 255
theorem Tail.start (l : List UInt8) : Tail l l.length := ⟨Nat.le_refl _, fun j u hj hu => by
  have := (List.getElem?_eq_some_iff.1 hu).1; omega⟩
theorem Tail.prev {l : List UInt8} {k : Nat} {u : UInt8} (h : Tail l (k + 1)) (hu : l[k]? = some u) (e : u = 255) : Tail l k := by
  refine ⟨by have := h.1; omega, fun j v hj hv => ?_⟩
  by_cases ek : j = k
  · subst ek; rw [hu] at hv; injection hv with hv; rw [← hv, e]
  · exact h.2 j v (by omega) hv

theorem rais_of {l : List UInt8} {k : Nat} (h : Tail l k) (hx : k = 0 ∨ ∃ u, l[k - 1]? = some u ∧ u ≠ 255) : rais l = k := by
  induction l generalizing k with
  | nil => have := h.1; simp at this; simp [rais, this]
  | cons a l ih =>
    cases k with
    | zero =>
      have ht : Tail l 0 := ⟨by omega, fun j u _ hu => h.2 (j + 1) u (by omega) (by simpa using hu)⟩
      have ha : a = 255 := h.2 0 a (by omega) (by simp)
      simp [rais, ih ht (.inl rfl), ha]
    | succ k =>
      have ht : Tail l k := ⟨by have := h.1; simp at this; omega, fun j u hj hu => h.2 (j + 1) u (by omega) (by simpa using hu)⟩
      rcases hx with hx | ⟨u, hu, hne⟩
      · omega
      · cases k with
        | zero =>
          have : a = u := by simpa using hu
          subst this
          simp [rais, ih ht (.inl rfl), hne]
        | succ k =>
          have hr := ih ht (.inr ⟨u, by simpa using hu, hne⟩)
          simp [rais, hr]
theorem rais_le (l : List UInt8) : rais l ≤ l.length := by
  induction l with
  | nil => simp [rais]
  | cons a l ih => simp only [rais, List.length_cons]; split <;> (try split) <;> omega
theorem rais_tail (l : List UInt8) : Tail l (rais l) ∧ (rais l = 0 ∨ ∃ u, l[rais l - 1]? = some u ∧ u ≠ 255) := by
  induction l with
  | nil => exact ⟨Tail.start [], .inl rfl⟩
  | cons a l ih =>
    obtain ⟨ht, hx⟩ := ih
    simp only [rais]
    by_cases h0 : rais l = 0
    · rw [if_pos h0]
      rw [h0] at ht
      by_cases ha : a = 255
      · rw [if_pos ha]
        refine ⟨⟨by omega, fun j u _ hu => ?_⟩, .inl rfl⟩
        cases j with
        | zero => simp at hu; rw [← hu, ha]
        | succ j => exact ht.2 j u (by omega) (by simpa using hu)
      · rw [if_neg ha]
        refine ⟨⟨by simp, fun j u hj hu => ?_⟩, .inr ⟨a, by simp, ha⟩⟩
        cases j with
        | zero => omega
        | succ j => exact ht.2 j u (by omega) (by simpa using hu)
    · rw [if_neg h0]
      refine ⟨⟨by have := ht.1; simp; omega, fun j u hj hu => ?_⟩, .inr ?_⟩
      · cases j with
        | zero => omega
        | succ j => exact ht.2 j u (by omega) (by simpa using hu)
      · rcases hx with hx | ⟨u, hu, hne⟩
        · exact absurd hx h0
        · refine ⟨u, ?_, hne⟩
          obtain ⟨r, hr⟩ : ∃ r, rais l = r + 1 := ⟨rais l - 1, by omega⟩
          rw [hr] at hu ⊢
          simpa using hu

/-- The next one of a prefix; nothing, if there is none. -/
def nextL (l : List UInt8) : List UInt8 := if rais l = 0 then [] else l.take (rais l - 1) ++ [l.getD (rais l - 1) 0 + 1]
def nextB (l : List UInt8) : Bool := decide (rais l ≠ 0)

theorem nextL_none {l : List UInt8} (h : rais l = 0) : nextL l = [] := by simp [nextL, h]
theorem nextL_some {l : List UInt8} {k : Nat} {u : UInt8} (h : rais l = k + 1) (hu : l[k]? = some u) : (l.take (k + 1)).set k (u + 1) = nextL l := by
  have hk : k < l.length := (List.getElem?_eq_some_iff.1 hu).1
  unfold nextL
  rw [if_neg (by omega), h]
  simp only [Nat.add_sub_cancel]
  rw [List.take_succ_eq_append_getElem hk, List.set_append_right _ _ (by simp; omega)]
  have e : l.getD k 0 = u := by simp [List.getD, hu]
  rw [e]
  congr 1
  simp [Nat.min_eq_left (Nat.le_of_lt hk)]
theorem nextL_length {l : List UInt8} : (nextL l).length = rais l := by
  have := rais_le l
  unfold nextL
  split
  · simp_all
  · simp; omega

/-- P1.4: what begins with a prefix is within it and the next one, and nothing else is. -/
theorem within_next (p k : List UInt8) : (decide (0 ≤ cmpL k p) && (!nextB p || decide (cmpL k (nextL p) < 0))) = decide (lcp k p = p.length) := by
  induction p generalizing k with
  | nil => cases k <;> simp [cmpL, lcp, nextB, rais]
  | cons b p ih =>
    cases k with
    | nil => simp [cmpL, lcp]
    | cons a k =>
      have h := ih k
      simp only [cmpL, lcp, List.length_cons]
      by_cases e : a = b
      · subst e
        simp only [if_true, Nat.add_right_cancel_iff]
        rw [← h]
        congr 1
        by_cases h0 : rais p = 0
        · have e1 : nextB p = false := by simp [nextB, h0]
          rw [e1]
          by_cases hb : a = 255
          · have e2 : nextB (a :: p) = false := by simp [nextB, rais, h0, hb]
            rw [e2]; rfl
          · have hr : rais (a :: p) = 1 := by simp [rais, h0, hb]
            have e2 : nextB (a :: p) = true := by simp [nextB, hr]
            have e3 : nextL (a :: p) = [a + 1] := by simp [nextL, hr]
            have hlt : a.toNat < (a + 1).toNat := by
              have h1 : a.toNat < 256 := a.toNat_lt
              have h2 : a.toNat ≠ 255 := fun q => hb (UInt8.toNat_inj.1 (by simpa using q))
              rw [UInt8.toNat_add]; simp; omega
            have hne : ¬ a = a + 1 := fun q => by rw [← q] at hlt; omega
            rw [e2, e3]
            have c1 : cmpL (a :: k) [a + 1] = -1 := by simp only [cmpL]; rw [if_neg hne, if_pos hlt]
            rw [c1]; rfl
        · have hr : rais (a :: p) = rais p + 1 := by simp [rais, h0]
          have e1 : nextB p = true := by simp [nextB, h0]
          have e2 : nextB (a :: p) = true := by simp [nextB, hr]
          have e3 : nextL (a :: p) = a :: nextL p := by
            obtain ⟨r, hr2⟩ : ∃ r, rais p = r + 1 := ⟨rais p - 1, by omega⟩
            simp [nextL, hr, hr2]
          rw [e1, e2, e3]
          simp [cmpL]
      · simp only [e, if_false]
        have hz : ¬ (0 = p.length + 1) := by omega
        simp only [hz, decide_false]
        by_cases hlt : a.toNat < b.toNat
        · simp [hlt]
        · simp only [hlt, if_false]
          have hab : b.toNat < a.toNat := by
            have : a.toNat ≠ b.toNat := fun q => e (UInt8.toNat_inj.1 q)
            omega
          have ha : a.toNat < 256 := a.toNat_lt
          have hb : b ≠ 255 := fun q => by subst q; simp at hab; omega
          by_cases h0 : rais p = 0
          · have hr : rais (b :: p) = 1 := by simp [rais, h0, hb]
            have e2 : nextB (b :: p) = true := by simp [nextB, hr]
            have e3 : nextL (b :: p) = [b + 1] := by simp [nextL, hr]
            have hs : (b + 1).toNat = b.toNat + 1 := by
              rw [UInt8.toNat_add]; simp; omega
            rw [e2, e3]
            have c1 : 0 ≤ cmpL (a :: k) [b + 1] := by
              simp only [cmpL]
              by_cases q : a = b + 1
              · rw [if_pos q]; cases k <;> simp [cmpL]
              · rw [if_neg q, if_neg (by omega)]; omega
            have c2 : ¬ cmpL (a :: k) [b + 1] < 0 := by omega
            simp [c2]
          · have hr : rais (b :: p) = rais p + 1 := by simp [rais, h0]
            have e2 : nextB (b :: p) = true := by simp [nextB, hr]
            have e3 : nextL (b :: p) = b :: nextL p := by
              obtain ⟨r, hr2⟩ : ∃ r, rais p = r + 1 := ⟨rais p - 1, by omega⟩
              simp [nextL, hr, hr2]
            rw [e2, e3]
            simp [cmpL, e, hlt]
end Go.Proofs.Ytdllgcaeenldaaa
