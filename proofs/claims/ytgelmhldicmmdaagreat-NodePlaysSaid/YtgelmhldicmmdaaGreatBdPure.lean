/-
  Many things by their bytes, each at a place: a table of the places, the places that are free; one more, one put over, one less. Nothing of the program is used.
-/
import Derived.Test.YtgelmhldicmmdaaGreatSmPure
import Derived.Test.YtgelmhldicmmdaaGreatNxPure
namespace Go.Proofs.YtgelmhldicmmdaaGreat

/-- Turned at one place. -/
def turnN (f : Nat → Nat) (b n : Nat) : Nat → Nat := fun i => if i = b then n else f i
theorem turn_at (f : Nat → Nat) (b n : Nat) : turnN f b n b = n := if_pos rfl
theorem turn_far (f : Nat → Nat) {b i : Nat} (n : Nat) (h : i ≠ b) : turnN f b n i = f i := if_neg h

section
variable {es : List Ent}
theorem has_set (h : Up es) (b : UInt8) (x : Th) (i : Nat) : hasE (setE es b x) i = if i = b.toNat then true else hasE es i := by
  unfold hasE; rw [look_set h]; split <;> rfl
theorem get_set (h : Up es) (b : UInt8) (x : Th) (i : Nat) : getE (setE es b x) i = if i = b.toNat then x else getE es i := by
  unfold getE; rw [look_set h]; split <;> rfl
theorem has_drop (h : Up es) (b : UInt8) (i : Nat) : hasE (dropE es b) i = if i = b.toNat then false else hasE es i := by
  unfold hasE; rw [look_drop h]; split <;> rfl
theorem get_drop (h : Up es) (b : UInt8) (i : Nat) : getE (dropE es b) i = if i = b.toNat then none else getE es i := by
  unfold getE; rw [look_drop h]; split <;> rfl
theorem get_no {b : Nat} (h : hasE es b = false) : getE es b = none := by unfold getE; rw [(has_no h).1]; rfl
end

/-- The things es stand at the places that tb tells (and one), in vs; the first k of lf are free. -/
structure Pl (room : Nat) (es : List Ent) (k : Nat) (tb lf : Nat → Nat) (vs : List Th) : Prop where
  up : Up es
  sum : es.length + k = vs.length
  most : vs.length ≤ room
  cap : room ≤ 256
  no : ∀ b, b < 256 → hasE es b = false → tb b = 0
  yes : ∀ b, b < 256 → hasE es b = true → ∃ q, tb b = q + 1 ∧ vs[q]? = some (getE es b)
  inj : ∀ b c, b < 256 → c < 256 → hasE es b = true → hasE es c = true → tb b = tb c → b = c
  fre : ∀ i, i < k → lf i < vs.length ∧ ∀ b, b < 256 → tb b ≠ lf i + 1
  dis : ∀ i j, i < k → j < k → lf i = lf j → i = j

section
variable {room k : Nat} {es : List Ent} {tb lf : Nat → Nat} {vs : List Th}
theorem Pl.first (h : room ≤ 256) : Pl room [] 0 (fun _ => 0) (fun _ => 0) [] :=
  ⟨Up.nil, rfl, Nat.zero_le _, h, fun _ _ _ => rfl, fun b _ q => by simp [hasE, look] at q, fun b c _ _ q => by simp [hasE, look] at q, fun i hi => by omega, fun i j hi => by omega⟩
theorem Pl.tb_le (h : Pl room es k tb lf vs) {b : Nat} (hb : b < 256) : tb b ≤ 256 := by
  cases hh : hasE es b with
  | false => rw [h.no b hb hh]; omega
  | true =>
    obtain ⟨q, e, hq⟩ := h.yes b hb hh
    have := (List.getElem?_eq_some_iff.1 hq).1
    have := h.most
    have := h.cap
    omega
theorem Pl.set_has (h : Pl room es k tb lf vs) {b : UInt8} (x : Th) {q : Nat} (hb : hasE es b.toNat = true) (hq : tb b.toNat = q + 1) : Pl room (setE es b x) k tb lf (vs.set q x) := by
  refine ⟨set_up h.up b x, ?_, by rw [List.length_set]; exact h.most, h.cap, fun c hc hn => ?_, fun c hc hn => ?_, fun c d hc hd h1 h2 e => ?_, fun i hi => ?_, h.dis⟩
  · rw [set_length, if_pos hb, List.length_set]; exact h.sum
  · rw [has_set h.up] at hn
    split at hn
    · cases hn
    · exact h.no c hc hn
  · obtain ⟨q0, e0, hv0⟩ := h.yes b.toNat b.toNat_lt hb
    have hlt := (List.getElem?_eq_some_iff.1 hv0).1
    rw [has_set h.up] at hn
    rw [get_set h.up]
    by_cases hcb : c = b.toNat
    · subst hcb
      refine ⟨q, hq, ?_⟩
      rw [if_pos rfl, List.getElem?_set, if_pos rfl, if_pos (by omega)]
    · rw [if_neg hcb] at hn ⊢
      obtain ⟨q1, e1, hv1⟩ := h.yes c hc hn
      refine ⟨q1, e1, ?_⟩
      have : q ≠ q1 := fun e => hcb (h.inj c b.toNat hc b.toNat_lt hn hb (by omega))
      rw [List.getElem?_set, if_neg this]
      exact hv1
  · have k1 : hasE es c = true := by rw [has_set h.up] at h1; split at h1; (rename_i q; rw [q]; exact hb); exact h1
    have k2 : hasE es d = true := by rw [has_set h.up] at h2; split at h2; (rename_i q; rw [q]; exact hb); exact h2
    exact h.inj c d hc hd k1 k2 e
  · rw [List.length_set]; exact h.fre i hi
theorem Pl.set_more (h : Pl room es k tb lf vs) {b : UInt8} (x : Th) (hb : hasE es b.toNat = false) {k' q : Nat} {vs' : List Th} (hsum : es.length + 1 + k' = vs'.length) (hmost : vs'.length ≤ room) (hk : k' ≤ k) (hle : vs.length ≤ vs'.length)
    (hq : vs'[q]? = some x) (hfar : ∀ j y, j ≠ q → vs[j]? = some y → vs'[j]? = some y) (hfree : ∀ c, c < 256 → tb c ≠ q + 1) (hnl : ∀ i, i < k' → lf i ≠ q) :
    Pl room (setE es b x) k' (turnN tb b.toNat (q + 1)) lf vs' := by
  refine ⟨set_up h.up b x, ?_, hmost, h.cap, fun c hc hn => ?_, fun c hc hn => ?_, fun c d hc hd h1 h2 e => ?_, fun i hi => ⟨?_, fun c hc => ?_⟩, fun i j hi hj e => h.dis i j (by omega) (by omega) e⟩
  · rw [set_length, if_neg (by rw [hb]; simp)]; exact hsum
  · rw [has_set h.up] at hn
    split at hn
    · cases hn
    · rename_i q'
      rw [turn_far _ _ q']; exact h.no c hc hn
  · rw [has_set h.up] at hn
    rw [get_set h.up]
    by_cases hcb : c = b.toNat
    · subst hcb
      rw [turn_at, if_pos rfl]
      exact ⟨q, rfl, hq⟩
    · rw [if_neg hcb] at hn ⊢
      rw [turn_far _ _ hcb]
      obtain ⟨q1, e1, hv1⟩ := h.yes c hc hn
      exact ⟨q1, e1, hfar q1 _ (fun e => hfree c hc (by omega)) hv1⟩
  · rw [has_set h.up] at h1 h2
    by_cases c1 : c = b.toNat
    · by_cases c2 : d = b.toNat
      · omega
      · rw [c1, turn_at, turn_far _ _ c2] at e
        exact absurd e.symm (hfree d hd)
    · by_cases c2 : d = b.toNat
      · rw [c2, turn_at, turn_far _ _ c1] at e
        exact absurd e (hfree c hc)
      · rw [if_neg c1] at h1
        rw [if_neg c2] at h2
        rw [turn_far _ _ c1, turn_far _ _ c2] at e
        exact h.inj c d hc hd h1 h2 e
  · have := (h.fre i (by omega)).1; omega
  · by_cases c1 : c = b.toNat
    · rw [c1, turn_at]; have := hnl i hi; omega
    · rw [turn_far _ _ c1]; exact (h.fre i (by omega)).2 c hc
/-- One more, at a place that was left. -/
theorem Pl.set_left (h : Pl room es (k + 1) tb lf vs) {b : UInt8} (x : Th) (hb : hasE es b.toNat = false) : Pl room (setE es b x) k (turnN tb b.toNat (lf k + 1)) lf (vs.set (lf k) x) := by
  have hf := h.fre k (by omega)
  refine h.set_more x hb (by rw [List.length_set]; have := h.sum; omega) (by rw [List.length_set]; exact h.most) (by omega) (by rw [List.length_set]; exact Nat.le_refl _) ?_ (fun j y hj hy => ?_) hf.2 (fun i hi e => ?_)
  · rw [List.getElem?_set, if_pos rfl, if_pos hf.1]
  · rw [List.getElem?_set, if_neg (fun e => hj e.symm)]; exact hy
  · have := h.dis i k (by omega) (by omega) e; omega
/-- One more, at a new place. -/
theorem Pl.set_new (h : Pl room es 0 tb lf vs) {b : UInt8} (x : Th) (hb : hasE es b.toNat = false) (hr : es.length < room) : Pl room (setE es b x) 0 (turnN tb b.toNat (vs.length + 1)) lf (vs ++ [x]) := by
  have hs := h.sum
  refine h.set_more x hb (by simp; omega) (by simp; omega) (by omega) (by simp) ?_ (fun j y hj hy => ?_) (fun c hc e => ?_) (fun i hi => by omega)
  · simp
  · rw [List.getElem?_append_left (List.getElem?_eq_some_iff.1 hy).1]; exact hy
  · cases hh : hasE es c with
    | false => rw [h.no c hc hh] at e; omega
    | true =>
      obtain ⟨q1, e1, hv1⟩ := h.yes c hc hh
      have := (List.getElem?_eq_some_iff.1 hv1).1
      omega
theorem Pl.drop_has (h : Pl room es k tb lf vs) {b : UInt8} {q : Nat} (hb : hasE es b.toNat = true) (hq : tb b.toNat = q + 1) : Pl room (dropE es b) (k + 1) (turnN tb b.toNat 0) (turnN lf k q) (vs.set q none) := by
  have hl := drop_length hb
  have hs := h.sum
  obtain ⟨q0, e0, hv0⟩ := h.yes b.toNat b.toNat_lt hb
  obtain rfl : q0 = q := by omega
  have hlt := (List.getElem?_eq_some_iff.1 hv0).1
  refine ⟨drop_up h.up b, by rw [List.length_set]; omega, by rw [List.length_set]; exact h.most, h.cap, fun c hc hn => ?_, fun c hc hn => ?_, fun c d hc hd h1 h2 e => ?_, fun i hi => ⟨?_, fun c hc => ?_⟩, fun i j hi hj e => ?_⟩
  · rw [has_drop h.up] at hn
    by_cases c1 : c = b.toNat
    · rw [c1, turn_at]
    · rw [if_neg c1] at hn; rw [turn_far _ _ c1]; exact h.no c hc hn
  · rw [has_drop h.up] at hn
    by_cases c1 : c = b.toNat
    · rw [if_pos c1] at hn; cases hn
    · rw [if_neg c1] at hn
      rw [turn_far _ _ c1, get_drop h.up, if_neg c1]
      obtain ⟨q1, e1, hv1⟩ := h.yes c hc hn
      refine ⟨q1, e1, ?_⟩
      have : q0 ≠ q1 := fun e => c1 (h.inj c b.toNat hc b.toNat_lt hn hb (by omega))
      rw [List.getElem?_set, if_neg this]
      exact hv1
  · rw [has_drop h.up] at h1 h2
    by_cases c1 : c = b.toNat
    · rw [if_pos c1] at h1; cases h1
    · by_cases c2 : d = b.toNat
      · rw [if_pos c2] at h2; cases h2
      · rw [if_neg c1] at h1
        rw [if_neg c2] at h2
        rw [turn_far _ _ c1, turn_far _ _ c2] at e
        exact h.inj c d hc hd h1 h2 e
  · rw [List.length_set]
    by_cases c1 : i = k
    · rw [c1, turn_at]; exact hlt
    · rw [turn_far _ _ c1]; exact (h.fre i (by omega)).1
  · by_cases c1 : i = k
    · rw [c1, turn_at]
      by_cases c2 : c = b.toNat
      · rw [c2, turn_at]; omega
      · rw [turn_far _ _ c2]
        intro e
        cases hh : hasE es c with
        | false => rw [h.no c hc hh] at e; omega
        | true => exact c2 (h.inj c b.toNat hc b.toNat_lt hh hb (by omega))
    · rw [turn_far _ _ c1]
      by_cases c2 : c = b.toNat
      · rw [c2, turn_at]; omega
      · rw [turn_far _ _ c2]; exact (h.fre i (by omega)).2 c hc
  · by_cases c1 : i = k
    · by_cases c2 : j = k
      · omega
      · rw [c1, turn_at, turn_far _ _ c2] at e
        exact absurd hq ((e ▸ (h.fre j (by omega)).2 b.toNat b.toNat_lt))
    · by_cases c2 : j = k
      · rw [c2, turn_at, turn_far _ _ c1] at e
        exact absurd hq ((e ▸ (h.fre i (by omega)).2 b.toNat b.toNat_lt))
      · rw [turn_far _ _ c1, turn_far _ _ c2] at e
        exact h.dis i j (by omega) (by omega) e
end
end Go.Proofs.YtgelmhldicmmdaaGreat
