/-
  The place of a byte, the one that is next, the one ahead, as a count goes on. Nothing of the program is used.
-/
import Derived.Test.YtgelmhldicmmdaaGreatSmPure
namespace Go.Proofs.YtgelmhldicmmdaaGreat
open Go.RowKit

section
variable {es : List Ent}
theorem pos_zero (es : List Ent) : pos es 0 = 0 := by unfold pos; rw [List.countP_eq_zero]; intro e _; simp
theorem pos_all (es : List Ent) : pos es 256 = es.length := by
  unfold pos
  rw [List.countP_eq_length]
  intro e _
  have := e.1.toNat_lt
  simp; omega
/-- At most one a byte. -/
theorem pos_below (h : Up es) (c : Nat) : pos es c ≤ c := by
  induction c with
  | zero => rw [pos_zero]; exact Nat.le_refl _
  | succ c ih =>
    cases hb : hasE es c with
    | true =>
      obtain ⟨e, he, hea, _, _⟩ := has_at hb
      have hp := pos_behind h he
      rw [hea] at hp
      omega
    | false =>
      have hn := (has_no hb).2
      obtain ⟨s1, s2⟩ := h.split c
      have : pos es (c + 1) = pos es c := by
        refine pos_of (pos_le _ _) (fun t e ht he => by have := s1 t e ht he; omega) (fun t e ht he => ?_)
        have h1 := s2 t e ht he
        rcases Nat.lt_or_eq_of_le h1 with q | q
        · omega
        · exfalso
          have := pos_at h he
          rw [← q] at this
          exact hn e (by rw [this]; exact he) q.symm
      omega
theorem pos256 (h : Up es) : pos es 256 ≤ 256 := pos_below h 256
theorem pos_yes (h : Up es) {a : Nat} (hb : hasE es a = true) : pos es (a + 1) = pos es a + 1 := by
  obtain ⟨e, he, hea, _, _⟩ := has_at hb
  have hp := pos_behind h he
  rwa [hea] at hp
theorem pos_not (h : Up es) {a : Nat} (hb : hasE es a = false) : pos es (a + 1) = pos es a := by
  have hn := (has_no hb).2
  obtain ⟨s1, s2⟩ := h.split a
  refine pos_of (pos_le _ _) (fun t e ht he => by have := s1 t e ht he; omega) (fun t e ht he => ?_)
  have h1 := s2 t e ht he
  rcases Nat.lt_or_eq_of_le h1 with q | q
  · omega
  · exfalso
    have := pos_at h he
    rw [← q] at this
    exact hn e (by rw [this]; exact he) q.symm
/-- The one found from a place on, and from a place back. -/
def pv (es : List Ent) (c : Nat) : Option Ent := if pos es c = 0 then none else es[pos es c - 1]?
theorem pv_zero (es : List Ent) : pv es 0 = none := by simp [pv, pos_zero]
theorem pv_not (h : Up es) {a : Nat} (hb : hasE es a = false) : pv es (a + 1) = pv es a := by unfold pv; rw [pos_not h hb]
theorem pv_yes (h : Up es) {a : Nat} (hb : hasE es a = true) : ∃ e, pv es (a + 1) = some e ∧ e.1.toNat = a ∧ e.2 = getE es a := by
  obtain ⟨e, he, hea, hl, _⟩ := has_at hb
  refine ⟨e, ?_, hea, by unfold getE; rw [hl]; rfl⟩
  unfold pv
  rw [pos_yes h hb, if_neg (by omega), Nat.add_sub_cancel]
  exact he
theorem prev_pv (h : Up es) (a : Int) : prevE es a = if a < 0 then none else pv es ((min a 255).toNat + 1) := by
  by_cases ha : a < 0
  · rw [if_pos ha]; unfold prevE; rw [if_pos ha]
  · rw [if_neg ha]
    have e : prevE es a = prevE es (((min a 255).toNat : Nat) : Int) := by
      unfold prevE
      have h0 : ¬ ((((min a 255).toNat : Nat) : Int) < 0) := by omega
      rw [if_neg ha, if_neg h0, show min (((min a 255).toNat : Nat) : Int) 255 = min a 255 by omega]
    rw [e, prev_is h (by omega)]
    rfl
def nx (es : List Ent) (c : Nat) : Option Ent := es[pos es c]?
theorem nx_all (es : List Ent) : nx es 256 = none := by unfold nx; rw [pos_all]; exact List.getElem?_eq_none (Nat.le_refl _)
theorem nx_not (h : Up es) {a : Nat} (hb : hasE es a = false) : nx es (a + 1) = nx es a := by unfold nx; rw [pos_not h hb]
theorem nx_yes {a : Nat} (hb : hasE es a = true) : ∃ e, nx es a = some e ∧ e.1.toNat = a ∧ e.2 = getE es a := by
  obtain ⟨e, he, hea, hl, _⟩ := has_at hb
  exact ⟨e, he, hea, by unfold getE; rw [hl]; rfl⟩
theorem next_nx (es : List Ent) (a : Int) : nextE es a = if 255 < a then none else nx es a.toNat := rfl
end
end Go.Proofs.YtgelmhldicmmdaaGreat
