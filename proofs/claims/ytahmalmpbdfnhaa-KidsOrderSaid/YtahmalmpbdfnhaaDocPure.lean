/-
  The document's row: a room, and 256 places. Nothing of the program is used.
-/
import Derived.Test.YtahmalmpbdfnhaaCells
import Derived.Test.YtahmalmpbdfnhaaSmPure
namespace Go.Proofs.Ytahmalmpbdfnhaa
open Go.RowKit

/-- The cells of the document's row that holds es. -/
def docL (room : Nat) (es : List Ent) : List Value := .int .i64 (room : Int) :: ((List.range 256).map (fun i => Value.bool (hasE es i)) ++ (List.range 256).map (fun i => Value.int .i64 (getE es i)))
section
variable {room : Nat} {es : List Ent}
theorem docL_length : (docL room es).length = 513 := by simp [docL]
theorem docL_room : (docL room es)[0]? = some (.int .i64 (room : Int)) := rfl
theorem docL_has {i : Nat} (hi : i < 256) : (docL room es)[1 + i]? = some (.bool (hasE es i)) := by
  unfold docL
  rw [Nat.add_comm 1 i, List.getElem?_cons_succ, List.getElem?_append_left (by simpa using hi), List.getElem?_map, List.getElem?_range hi]
  rfl
theorem docL_val {i : Nat} (hi : i < 256) : (docL room es)[257 + i]? = some (.int .i64 (getE es i)) := by
  unfold docL
  rw [show 257 + i = (256 + i) + 1 by omega, List.getElem?_cons_succ, List.getElem?_append_right (by simp), List.getElem?_map]
  simp [hi]
theorem docL_one : ∀ v ∈ docL room es, v.oneCell' = true := by
  intro v hv
  simp only [docL, List.mem_cons, List.mem_append, List.mem_map] at hv
  rcases hv with rfl | ⟨_, _, rfl⟩ | ⟨_, _, rfl⟩ <;> rfl
theorem docL_two {es' : List Ent} {b : Nat} (hb : b < 256) {h : Bool} {x : Th} (h1 : ∀ i, i < 256 → hasE es' i = if i = b then h else hasE es i) (h2 : ∀ i, i < 256 → getE es' i = if i = b then x else getE es i) :
    ((docL room es).set (1 + b) (.bool h)).set (257 + b) (.int .i64 x) = docL room es' := by
  apply List.ext_getElem?
  intro i
  rw [List.getElem?_set, List.getElem?_set]
  simp only [List.length_set, docL_length]
  by_cases c1 : 257 + b = i
  · subst c1
    rw [if_pos rfl, if_pos (by omega), docL_val hb, h2 b hb, if_pos rfl]
  · rw [if_neg c1]
    by_cases c2 : 1 + b = i
    · subst c2
      rw [if_pos rfl, if_pos (by omega), docL_has hb, h1 b hb, if_pos rfl]
    · rw [if_neg c2]
      rcases Nat.eq_zero_or_pos i with c3 | c3
      · subst c3; rfl
      · by_cases c4 : i < 257
        · obtain ⟨j, rfl⟩ : ∃ j, i = 1 + j := ⟨i - 1, by omega⟩
          rw [docL_has (by omega), docL_has (by omega), h1 j (by omega), if_neg (by omega)]
        · by_cases c5 : i < 513
          · obtain ⟨j, rfl⟩ : ∃ j, i = 257 + j := ⟨i - 257, by omega⟩
            rw [docL_val (by omega), docL_val (by omega), h2 j (by omega), if_neg (by omega)]
          · rw [List.getElem?_eq_none (by rw [docL_length]; omega), List.getElem?_eq_none (by rw [docL_length]; omega)]
theorem docL_set (h : Up es) (b : UInt8) (x : Th) : ((docL room es).set (1 + b.toNat) (.bool true)).set (257 + b.toNat) (.int .i64 x) = docL room (setE es b x) := by
  refine docL_two b.toNat_lt (fun i _ => ?_) (fun i _ => ?_)
  · unfold hasE; rw [look_set h]; split <;> rfl
  · unfold getE; rw [look_set h]; split <;> rfl
theorem docL_drop (h : Up es) (b : UInt8) : ((docL room es).set (1 + b.toNat) (.bool false)).set (257 + b.toNat) (.int .i64 0) = docL room (dropE es b) := by
  refine docL_two b.toNat_lt (fun i _ => ?_) (fun i _ => ?_)
  · unfold hasE; rw [look_drop h]; split <;> rfl
  · unfold getE; rw [look_drop h]; split <;> rfl

theorem pos_zero (es : List Ent) : pos es 0 = 0 := by unfold pos; rw [List.countP_eq_zero]; intro e _; simp
theorem pos_all (es : List Ent) : pos es 256 = es.length := by
  unfold pos
  rw [List.countP_eq_length]
  intro e _
  have := e.1.toNat_lt
  simp; omega
/-- At most one a byte. -/
theorem pos_below (h : Up es) (c : Nat) : pos es c ≤ c := by
  induction c with
  | zero => rw [pos_zero]; exact Nat.le_refl _
  | succ c ih =>
    cases hb : hasE es c with
    | true =>
      obtain ⟨e, he, hea, _, _⟩ := has_at hb
      have hp := pos_behind h he
      rw [hea] at hp
      omega
    | false =>
      have hn := (has_no hb).2
      obtain ⟨s1, s2⟩ := h.split c
      have : pos es (c + 1) = pos es c := by
        refine pos_of (pos_le _ _) (fun t e ht he => by have := s1 t e ht he; omega) (fun t e ht he => ?_)
        have h1 := s2 t e ht he
        rcases Nat.lt_or_eq_of_le h1 with q | q
        · omega
        · exfalso
          have := pos_at h he
          rw [← q] at this
          exact hn e (by rw [this]; exact he) q.symm
      omega
theorem pos256 (h : Up es) : pos es 256 ≤ 256 := pos_below h 256
theorem pos_yes (h : Up es) {a : Nat} (hb : hasE es a = true) : pos es (a + 1) = pos es a + 1 := by
  obtain ⟨e, he, hea, _, _⟩ := has_at hb
  have hp := pos_behind h he
  rwa [hea] at hp
theorem pos_not (h : Up es) {a : Nat} (hb : hasE es a = false) : pos es (a + 1) = pos es a := by
  have hn := (has_no hb).2
  obtain ⟨s1, s2⟩ := h.split a
  refine pos_of (pos_le _ _) (fun t e ht he => by have := s1 t e ht he; omega) (fun t e ht he => ?_)
  have h1 := s2 t e ht he
  rcases Nat.lt_or_eq_of_le h1 with q | q
  · omega
  · exfalso
    have := pos_at h he
    rw [← q] at this
    exact hn e (by rw [this]; exact he) q.symm
/-- The one found from a place on, and from a place back. -/
def pv (es : List Ent) (c : Nat) : Option Ent := if pos es c = 0 then none else es[pos es c - 1]?
theorem pv_zero (es : List Ent) : pv es 0 = none := by simp [pv, pos_zero]
theorem pv_not (h : Up es) {a : Nat} (hb : hasE es a = false) : pv es (a + 1) = pv es a := by unfold pv; rw [pos_not h hb]
theorem pv_yes (h : Up es) {a : Nat} (hb : hasE es a = true) : ∃ e, pv es (a + 1) = some e ∧ e.1.toNat = a ∧ e.2 = getE es a := by
  obtain ⟨e, he, hea, hl, _⟩ := has_at hb
  refine ⟨e, ?_, hea, by unfold getE; rw [hl]; rfl⟩
  unfold pv
  rw [pos_yes h hb, if_neg (by omega), Nat.add_sub_cancel]
  exact he
theorem prev_pv (h : Up es) (a : Int) : prevE es a = if a < 0 then none else pv es ((min a 255).toNat + 1) := by
  by_cases ha : a < 0
  · rw [if_pos ha]; unfold prevE; rw [if_pos ha]
  · rw [if_neg ha]
    have e : prevE es a = prevE es (((min a 255).toNat : Nat) : Int) := by
      unfold prevE
      have h0 : ¬ ((((min a 255).toNat : Nat) : Int) < 0) := by omega
      rw [if_neg ha, if_neg h0, show min (((min a 255).toNat : Nat) : Int) 255 = min a 255 by omega]
    rw [e, prev_is h (by omega)]
    rfl
def nx (es : List Ent) (c : Nat) : Option Ent := es[pos es c]?
theorem nx_all (es : List Ent) : nx es 256 = none := by unfold nx; rw [pos_all]; exact List.getElem?_eq_none (Nat.le_refl _)
theorem nx_not (h : Up es) {a : Nat} (hb : hasE es a = false) : nx es (a + 1) = nx es a := by unfold nx; rw [pos_not h hb]
theorem nx_yes {a : Nat} (hb : hasE es a = true) : ∃ e, nx es a = some e ∧ e.1.toNat = a ∧ e.2 = getE es a := by
  obtain ⟨e, he, hea, hl, _⟩ := has_at hb
  exact ⟨e, he, hea, by unfold getE; rw [hl]; rfl⟩
theorem next_nx (es : List Ent) (a : Int) : nextE es a = if 255 < a then none else nx es a.toNat := rfl
end
end Go.Proofs.Ytahmalmpbdfnhaa
