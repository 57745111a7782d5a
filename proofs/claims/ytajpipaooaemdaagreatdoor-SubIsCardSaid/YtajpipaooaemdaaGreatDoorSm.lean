/-
  Few things by their bytes, as a list that rises: where a byte stands, what is held by it, what is next, what is ahead, one more, one less; and the same as a table of 256 places. Nothing of the program is used.
  The place of a byte, the one that is next, the one ahead, as a count goes on. Nothing of the program is used.
  Many things by their bytes, each at a place: a table of the places, the places that are free; one more, one put over, one less. Nothing of the program is used.
  slices.BinarySearch over bytes that rise: where a byte stands, and whether it is there.
  Words for a row in memory: what is read of it. Nothing of the program is used.
  Package small: what a row tells, and what nobody's tells.
  Package small: at, Get, Next, Prev.
  slices.Insert of one thing where there is room, and slices.Delete of one, in a block whose cells are told as a list.
  Package small: New, Set, Drop, Copy.
  Package small: Set and Drop of a row that New gave.
  Package small: Copy of a row that New gave.
  The document's row: New, Drop, Set: a great struct that is handed by value, and back.
-/
import Derived.WalkKit
import Derived.Test.YtajpipaooaemdaaGreatDoorMem
import Derived.Test.YtajpipaooaemdaaGreatDoorChecked
import Derived.Deep.LoopGhost
import Derived.Lib.Overlaps
import Derived.Lib.SliceRun
import Derived.ArgAppend
import Derived.Laws.Externs
import Derived.OwnWalk
import Derived.Laws.MakeOwn
namespace Go.Proofs.YtajpipaooaemdaaGreatDoor

/-- What is held by a byte. -/
abbrev Th := (Option Addr)
abbrev Ent := UInt8 × Th

/-- The bytes rise. -/
def Up (es : List Ent) : Prop := es.Pairwise (fun a b => a.1.toNat < b.1.toNat)
/-- How many stand ahead of a number. -/
def pos (es : List Ent) (b : Nat) : Nat := es.countP (fun e => e.1.toNat < b)
/-- What is held by a place's number. -/
def look (es : List Ent) (b : Nat) : Option Th := match es[pos es b]? with
  | some e => if e.1.toNat = b then some e.2 else none
  | none => none
def hasE (es : List Ent) (b : Nat) : Bool := (look es b).isSome
def getE (es : List Ent) (b : Nat) : Th := (look es b).getD none
def setE (es : List Ent) (b : UInt8) (x : Th) : List Ent :=
  if hasE es b.toNat then es.set (pos es b.toNat) (b, x) else es.take (pos es b.toNat) ++ (b, x) :: es.drop (pos es b.toNat)
def dropE (es : List Ent) (b : UInt8) : List Ent :=
  if hasE es b.toNat then es.take (pos es b.toNat) ++ es.drop (pos es b.toNat + 1) else es
/-- The least one that is not below a number; the greatest one that is not above it. -/
def nextE (es : List Ent) (a : Int) : Option Ent := if 255 < a then none else es[pos es a.toNat]?
def prevE (es : List Ent) (a : Int) : Option Ent := if a < 0 then none else
  if hasE es (min a 255).toNat then es[pos es (min a 255).toNat]? else if pos es (min a 255).toNat = 0 then none else es[pos es (min a 255).toNat - 1]?

section
variable {es : List Ent}
theorem Up.at_ (h : Up es) {i j : Nat} {a b : Ent} (hij : i < j) (ha : es[i]? = some a) (hb : es[j]? = some b) : a.1.toNat < b.1.toNat := by
  obtain ⟨hi, rfl⟩ := List.getElem?_eq_some_iff.1 ha
  obtain ⟨hj, rfl⟩ := List.getElem?_eq_some_iff.1 hb
  exact List.pairwise_iff_getElem.1 h i j hi hj hij
theorem Up.nil : Up [] := List.Pairwise.nil
theorem pos_le (es : List Ent) (b : Nat) : pos es b ≤ es.length := List.countP_le_length
/-- The place is told by what stands ahead and behind. -/
theorem pos_of {k b : Nat} (hk : k ≤ es.length) (h1 : ∀ t e, t < k → es[t]? = some e → e.1.toNat < b) (h2 : ∀ t e, k ≤ t → es[t]? = some e → b ≤ e.1.toNat) : pos es b = k := by
  unfold pos
  rw [← List.take_append_drop k es, List.countP_append]
  have e1 : (es.take k).countP (fun e => decide (e.1.toNat < b)) = k := by
    rw [List.countP_eq_length.2]
    · simp; omega
    · intro e he
      obtain ⟨i, hi⟩ := List.mem_iff_getElem?.1 he
      rw [List.getElem?_take] at hi
      split at hi
      · exact decide_eq_true (h1 i e (by assumption) hi)
      · cases hi
  have e2 : (es.drop k).countP (fun e => decide (e.1.toNat < b)) = 0 := by
    rw [List.countP_eq_zero]
    intro e he
    obtain ⟨i, hi⟩ := List.mem_iff_getElem?.1 he
    rw [List.getElem?_drop] at hi
    have := h2 (k + i) e (by omega) hi
    simp only [decide_eq_true_eq]; omega
  rw [e1, e2]; rfl
theorem Up.tail {e : Ent} (h : Up (e :: es)) : Up es := (List.pairwise_cons.1 h).2
theorem Up.head {e : Ent} (h : Up (e :: es)) : ∀ x ∈ es, e.1.toNat < x.1.toNat := (List.pairwise_cons.1 h).1
/-- What stands ahead of the place is below the number, what stands from it on is not. -/
theorem Up.split (h : Up es) (b : Nat) : (∀ t e, t < pos es b → es[t]? = some e → e.1.toNat < b) ∧ (∀ t e, pos es b ≤ t → es[t]? = some e → b ≤ e.1.toNat) := by
  induction es with
  | nil => exact ⟨fun t e _ q => by simp at q, fun t e _ q => by simp at q⟩
  | cons a r ih =>
    obtain ⟨i1, i2⟩ := ih h.tail
    by_cases ha : a.1.toNat < b
    · have ep : pos (a :: r) b = pos r b + 1 := by simp [pos, ha]
      rw [ep]
      refine ⟨fun t e ht he => ?_, fun t e ht he => ?_⟩
      · cases t with
        | zero => simp at he; subst he; exact ha
        | succ t => exact i1 t e (by omega) (by simpa using he)
      · cases t with
        | zero => omega
        | succ t => exact i2 t e (by omega) (by simpa using he)
    · have hr : ∀ x ∈ r, b ≤ x.1.toNat := fun x hx => by have := h.head x hx; omega
      have ep : pos (a :: r) b = 0 := by
        unfold pos
        rw [List.countP_eq_zero]
        intro x hx
        rcases List.mem_cons.1 hx with q | q
        · subst q; simpa using ha
        · have := hr x q; simp; omega
      rw [ep]
      refine ⟨fun t e ht => by omega, fun t e _ he => ?_⟩
      cases t with
      | zero => simp at he; subst he; omega
      | succ t => exact hr e (List.mem_of_getElem? (by simpa using he))
theorem look_some (h : Up es) {b : Nat} {x : Th} : look es b = some x ↔ ∃ e ∈ es, e.1.toNat = b ∧ e.2 = x := by
  obtain ⟨s1, s2⟩ := h.split b
  constructor
  · intro q
    unfold look at q
    split at q
    · rename_i e he
      split at q
      · rename_i hb
        exact ⟨e, List.mem_of_getElem? he, hb, by simpa using q⟩
      · cases q
    · cases q
  · rintro ⟨e, he, rfl, rfl⟩
    obtain ⟨i, hi⟩ := List.mem_iff_getElem?.1 he
    have hp : pos es e.1.toNat = i := by
      refine pos_of (by have := (List.getElem?_eq_some_iff.1 hi).1; omega) (fun t a ht ha => h.at_ ht ha hi) (fun t a ht ha => ?_)
      rcases Nat.lt_or_eq_of_le ht with q | q
      · have := h.at_ q hi ha; omega
      · subst q; rw [hi] at ha; cases ha; exact Nat.le_refl _
    unfold look
    rw [hp, hi]
    simp
theorem look_none (h : Up es) {b : Nat} : look es b = none ↔ ∀ e ∈ es, e.1.toNat ≠ b := by
  constructor
  · intro q e he hb
    have := (look_some h (b := b) (x := e.2)).2 ⟨e, he, hb, rfl⟩
    rw [q] at this; cases this
  · intro q
    cases hx : look es b with
    | none => rfl
    | some x =>
      obtain ⟨e, he, hb, _⟩ := (look_some h).1 hx
      exact absurd hb (q e he)
/-- What is held stands at its place. -/
theorem has_at {b : Nat} (hb : hasE es b = true) : ∃ e, es[pos es b]? = some e ∧ e.1.toNat = b ∧ look es b = some e.2 ∧ pos es b < es.length := by
  unfold hasE look at hb
  unfold look
  split at hb
  · rename_i e he
    split at hb
    · rename_i q
      exact ⟨e, he, q, by simp [q], (List.getElem?_eq_some_iff.1 he).1⟩
    · cases hb
  · cases hb
theorem has_no {b : Nat} (hb : hasE es b = false) : look es b = none ∧ ∀ e, es[pos es b]? = some e → e.1.toNat ≠ b := by
  have : look es b = none := by unfold hasE at hb; cases hq : look es b with
    | none => rfl
    | some x => rw [hq] at hb; cases hb
  refine ⟨this, fun e he q => ?_⟩
  unfold look at this
  rw [he] at this
  simp [q] at this
theorem has_mem (h : Up es) {b : Nat} : hasE es b = true ↔ ∃ e ∈ es, e.1.toNat = b := by
  unfold hasE
  rw [Option.isSome_iff_exists]
  constructor
  · rintro ⟨x, hx⟩
    obtain ⟨e, he, hb, _⟩ := (look_some h).1 hx
    exact ⟨e, he, hb⟩
  · rintro ⟨e, he, hb⟩
    exact ⟨e.2, (look_some h).2 ⟨e, he, hb, rfl⟩⟩

/-- One more. -/
theorem set_mem (h : Up es) {b : UInt8} {x : Th} {e : Ent} : e ∈ setE es b x ↔ e = (b, x) ∨ (e ∈ es ∧ e.1 ≠ b) := by
  unfold setE
  by_cases hb : hasE es b.toNat = true
  · rw [if_pos hb]
    obtain ⟨a, ha, hab, _, hl⟩ := has_at hb
    have hab' : a.1 = b := UInt8.toNat.inj hab
    constructor
    · intro q
      obtain ⟨i, hi⟩ := List.mem_iff_getElem?.1 q
      rw [List.getElem?_set] at hi
      split at hi
      · left; simp only [Option.some.injEq] at hi; exact hi.symm
      · right
        rename_i hne
        refine ⟨List.mem_of_getElem? hi, fun q => ?_⟩
        rcases Nat.lt_or_gt_of_ne hne with q1 | q1
        · have := h.at_ q1 ha hi; rw [q, hab'] at this; omega
        · have := h.at_ q1 hi ha; rw [q, hab'] at this; omega
    · rintro (rfl | ⟨q, hne⟩)
      · exact List.mem_iff_getElem?.2 ⟨pos es b.toNat, by rw [List.getElem?_set]; simp [hl]⟩
      · obtain ⟨i, hi⟩ := List.mem_iff_getElem?.1 q
        refine List.mem_iff_getElem?.2 ⟨i, ?_⟩
        rw [List.getElem?_set, if_neg]
        · exact hi
        · rintro rfl
          rw [ha] at hi; cases hi
          exact hne hab'
  · rw [if_neg hb]
    have hb' : hasE es b.toNat = false := by simpa using hb
    have hn : ∀ e ∈ es, e.1 ≠ b := fun e he q => hb ((has_mem h).2 ⟨e, he, by rw [q]⟩)
    rw [List.mem_append, List.mem_cons]
    constructor
    · rintro (q | q | q)
      · exact .inr ⟨List.mem_of_mem_take q, hn _ (List.mem_of_mem_take q)⟩
      · exact .inl q
      · exact .inr ⟨List.mem_of_mem_drop q, hn _ (List.mem_of_mem_drop q)⟩
    · rintro (q | ⟨q, _⟩)
      · exact .inr (.inl q)
      · rw [← List.take_append_drop (pos es b.toNat) es, List.mem_append] at q
        rcases q with q | q
        · exact .inl q
        · exact .inr (.inr q)
theorem set_up (h : Up es) (b : UInt8) (x : Th) : Up (setE es b x) := by
  unfold setE
  by_cases hb : hasE es b.toNat = true
  · rw [if_pos hb]
    obtain ⟨a, ha, hab, _, hl⟩ := has_at hb
    refine List.pairwise_iff_getElem.2 fun i j hi hj hij => ?_
    rw [List.getElem_set, List.getElem_set]
    have key := List.pairwise_iff_getElem.1 h i j (by simpa using hi) (by simpa using hj) hij
    obtain ⟨_, ha'⟩ := List.getElem?_eq_some_iff.1 ha
    split
    · split
      · omega
      · rename_i q _; subst q; rw [ha'] at key; show b.toNat < _; omega
    · split
      · rename_i q; subst q; rw [ha'] at key; show _ < b.toNat; omega
      · exact key
  · rw [if_neg hb]
    obtain ⟨s1, s2⟩ := h.split b.toNat
    have hn : ∀ e ∈ es, e.1.toNat ≠ b.toNat := fun e he q => hb ((has_mem h).2 ⟨e, he, q⟩)
    refine List.pairwise_append.2 ⟨h.sublist (List.take_sublist _ _), List.pairwise_cons.2 ⟨fun e he => ?_, h.sublist (List.drop_sublist _ _)⟩, fun a ha e he => ?_⟩
    · obtain ⟨i, hi⟩ := List.mem_iff_getElem?.1 he
      rw [List.getElem?_drop] at hi
      have := s2 _ e (by omega) hi
      have := hn e (List.mem_of_mem_drop he)
      show b.toNat < _; omega
    · obtain ⟨i, hi⟩ := List.mem_iff_getElem?.1 ha
      rw [List.getElem?_take] at hi
      split at hi
      · have h1 := s1 i a (by assumption) hi
        rcases List.mem_cons.1 he with q | q
        · subst q; exact h1
        · obtain ⟨j, hj⟩ := List.mem_iff_getElem?.1 q
          rw [List.getElem?_drop] at hj
          have := s2 _ e (by omega) hj
          omega
      · cases hi
theorem look_set (h : Up es) (b : UInt8) (x : Th) (i : Nat) : look (setE es b x) i = if i = b.toNat then some x else look es i := by
  have hu := set_up h b x
  by_cases hi : i = b.toNat
  · rw [if_pos hi]
    exact (look_some hu).2 ⟨(b, x), (set_mem h).2 (.inl rfl), hi.symm, rfl⟩
  · rw [if_neg hi]
    cases hq : look es i with
    | some y =>
      obtain ⟨e, he, h1, h2⟩ := (look_some h).1 hq
      refine (look_some hu).2 ⟨e, (set_mem h).2 (.inr ⟨he, fun q => hi (by rw [← h1, q])⟩), h1, h2⟩
    | none =>
      refine (look_none hu).2 fun e he q => ?_
      rcases (set_mem h).1 he with rfl | ⟨he', _⟩
      · exact hi q.symm
      · exact (look_none h).1 hq e he' q
theorem set_length (b : UInt8) (x : Th) : (setE es b x).length = if hasE es b.toNat then es.length else es.length + 1 := by
  unfold setE
  have := pos_le es b.toNat
  split
  · simp
  · simp only [List.length_append, List.length_take, List.length_cons, List.length_drop]; omega

theorem drop_length {b : UInt8} (hb : hasE es b.toNat = true) : (dropE es b).length + 1 = es.length := by
  obtain ⟨a, ha, hab, _, hl⟩ := has_at hb
  unfold dropE
  rw [if_pos hb]
  simp only [List.length_append, List.length_take, List.length_drop]; omega

/-- One's own byte tells one's place. -/
theorem pos_at (h : Up es) {i : Nat} {e : Ent} (hi : es[i]? = some e) : pos es e.1.toNat = i := by
  refine pos_of (by have := (List.getElem?_eq_some_iff.1 hi).1; omega) (fun t a ht ha => h.at_ ht ha hi) (fun t a ht ha => ?_)
  rcases Nat.lt_or_eq_of_le ht with q | q
  · have := h.at_ q hi ha; omega
  · subst q; rw [hi] at ha; cases ha; exact Nat.le_refl _
theorem pos_behind (h : Up es) {i : Nat} {e : Ent} (hi : es[i]? = some e) : pos es (e.1.toNat + 1) = i + 1 := by
  refine pos_of (by have := (List.getElem?_eq_some_iff.1 hi).1; omega) (fun t a ht ha => ?_) (fun t a ht ha => ?_)
  · rcases Nat.lt_or_eq_of_le (show t ≤ i by omega) with q | q
    · have := h.at_ q ha hi; omega
    · subst q; rw [hi] at ha; cases ha; omega
  · have := h.at_ (show i < t by omega) hi ha; omega
/-- From where the k-th one is looked for, rising and falling. -/
def upA (es : List Ent) (k : Nat) : Nat := if k = 0 then 0 else match es[k - 1]? with | some e => e.1.toNat + 1 | none => 0
def dnA (es : List Ent) (k : Nat) : Int := if k = 0 then 255 else match es[es.length - k]? with | some e => (e.1.toNat : Int) - 1 | none => 0
theorem upA_succ {k : Nat} {e : Ent} (h : es[k]? = some e) : upA es (k + 1) = e.1.toNat + 1 := by simp [upA, h]
theorem pos_upA (h : Up es) {k : Nat} (hk : k ≤ es.length) : pos es (upA es k) = k := by
  cases k with
  | zero => exact pos_of (Nat.zero_le _) (fun t e ht => by omega) (fun t e _ _ => by simp [upA])
  | succ k =>
    have hi := List.getElem?_eq_getElem (show k < es.length by omega)
    rw [upA_succ hi]
    exact pos_behind h hi
theorem next_upA (h : Up es) {k : Nat} (hk : k ≤ es.length) (ha : upA es k ≤ 255) : nextE es (upA es k : Int) = es[k]? := by
  unfold nextE
  rw [if_neg (by omega), Int.toNat_natCast, pos_upA h hk]
theorem upA_end (h : Up es) {k : Nat} (hk : k ≤ es.length) (ha : ¬ upA es k < 256) : k = es.length := by
  rcases Nat.lt_or_eq_of_le hk with q | q
  · obtain ⟨s1, s2⟩ := h.split (upA es k)
    have := s2 k _ (by rw [pos_upA h hk]; exact Nat.le_refl _) (List.getElem?_eq_getElem q)
    have := (es[k].1).toNat_lt
    omega
  · exact q
end
end Go.Proofs.YtajpipaooaemdaaGreatDoor

namespace Go.Proofs.YtajpipaooaemdaaGreatDoor
open Go.RowKit

section
variable {es : List Ent}
theorem pos_zero (es : List Ent) : pos es 0 = 0 := by unfold pos; rw [List.countP_eq_zero]; intro e _; simp
theorem pos_all (es : List Ent) : pos es 256 = es.length := by
  unfold pos
  rw [List.countP_eq_length]
  intro e _
  have := e.1.toNat_lt
  simp; omega
/-- At most one a byte. -/
theorem pos_below (h : Up es) (c : Nat) : pos es c ≤ c := by
  induction c with
  | zero => rw [pos_zero]; exact Nat.le_refl _
  | succ c ih =>
    cases hb : hasE es c with
    | true =>
      obtain ⟨e, he, hea, _, _⟩ := has_at hb
      have hp := pos_behind h he
      rw [hea] at hp
      omega
    | false =>
      have hn := (has_no hb).2
      obtain ⟨s1, s2⟩ := h.split c
      have : pos es (c + 1) = pos es c := by
        refine pos_of (pos_le _ _) (fun t e ht he => by have := s1 t e ht he; omega) (fun t e ht he => ?_)
        have h1 := s2 t e ht he
        rcases Nat.lt_or_eq_of_le h1 with q | q
        · omega
        · exfalso
          have := pos_at h he
          rw [← q] at this
          exact hn e (by rw [this]; exact he) q.symm
      omega
theorem pos256 (h : Up es) : pos es 256 ≤ 256 := pos_below h 256
theorem pos_not (h : Up es) {a : Nat} (hb : hasE es a = false) : pos es (a + 1) = pos es a := by
  have hn := (has_no hb).2
  obtain ⟨s1, s2⟩ := h.split a
  refine pos_of (pos_le _ _) (fun t e ht he => by have := s1 t e ht he; omega) (fun t e ht he => ?_)
  have h1 := s2 t e ht he
  rcases Nat.lt_or_eq_of_le h1 with q | q
  · omega
  · exfalso
    have := pos_at h he
    rw [← q] at this
    exact hn e (by rw [this]; exact he) q.symm
/-- The one found from a place on, and from a place back. -/
def pv (es : List Ent) (c : Nat) : Option Ent := if pos es c = 0 then none else es[pos es c - 1]?
def nx (es : List Ent) (c : Nat) : Option Ent := es[pos es c]?
theorem nx_all (es : List Ent) : nx es 256 = none := by unfold nx; rw [pos_all]; exact List.getElem?_eq_none (Nat.le_refl _)
theorem nx_not (h : Up es) {a : Nat} (hb : hasE es a = false) : nx es (a + 1) = nx es a := by unfold nx; rw [pos_not h hb]
theorem nx_yes {a : Nat} (hb : hasE es a = true) : ∃ e, nx es a = some e ∧ e.1.toNat = a ∧ e.2 = getE es a := by
  obtain ⟨e, he, hea, hl, _⟩ := has_at hb
  exact ⟨e, he, hea, by unfold getE; rw [hl]; rfl⟩
theorem next_nx (es : List Ent) (a : Int) : nextE es a = if 255 < a then none else nx es a.toNat := rfl
end
end Go.Proofs.YtajpipaooaemdaaGreatDoor

namespace Go.Proofs.YtajpipaooaemdaaGreatDoor

/-- Turned at one place. -/
def turnN (f : Nat → Nat) (b n : Nat) : Nat → Nat := fun i => if i = b then n else f i
theorem turn_at (f : Nat → Nat) (b n : Nat) : turnN f b n b = n := if_pos rfl
theorem turn_far (f : Nat → Nat) {b i : Nat} (n : Nat) (h : i ≠ b) : turnN f b n i = f i := if_neg h

section
variable {es : List Ent}
theorem has_set (h : Up es) (b : UInt8) (x : Th) (i : Nat) : hasE (setE es b x) i = if i = b.toNat then true else hasE es i := by
  unfold hasE; rw [look_set h]; split <;> rfl
theorem get_set (h : Up es) (b : UInt8) (x : Th) (i : Nat) : getE (setE es b x) i = if i = b.toNat then x else getE es i := by
  unfold getE; rw [look_set h]; split <;> rfl
theorem get_no {b : Nat} (h : hasE es b = false) : getE es b = none := by unfold getE; rw [(has_no h).1]; rfl
end

/-- The things es stand at the places that tb tells (and one), in vs; the first k of lf are free. -/
structure Pl (room : Nat) (es : List Ent) (k : Nat) (tb lf : Nat → Nat) (vs : List Th) : Prop where
  up : Up es
  sum : es.length + k = vs.length
  most : vs.length ≤ room
  cap : room ≤ 256
  no : ∀ b, b < 256 → hasE es b = false → tb b = 0
  yes : ∀ b, b < 256 → hasE es b = true → ∃ q, tb b = q + 1 ∧ vs[q]? = some (getE es b)
  inj : ∀ b c, b < 256 → c < 256 → hasE es b = true → hasE es c = true → tb b = tb c → b = c
  fre : ∀ i, i < k → lf i < vs.length ∧ ∀ b, b < 256 → tb b ≠ lf i + 1
  dis : ∀ i j, i < k → j < k → lf i = lf j → i = j

section
variable {room k : Nat} {es : List Ent} {tb lf : Nat → Nat} {vs : List Th}
theorem Pl.first (h : room ≤ 256) : Pl room [] 0 (fun _ => 0) (fun _ => 0) [] :=
  ⟨Up.nil, rfl, Nat.zero_le _, h, fun _ _ _ => rfl, fun b _ q => by simp [hasE, look] at q, fun b c _ _ q => by simp [hasE, look] at q, fun i hi => by omega, fun i j hi => by omega⟩
theorem Pl.set_has (h : Pl room es k tb lf vs) {b : UInt8} (x : Th) {q : Nat} (hb : hasE es b.toNat = true) (hq : tb b.toNat = q + 1) : Pl room (setE es b x) k tb lf (vs.set q x) := by
  refine ⟨set_up h.up b x, ?_, by rw [List.length_set]; exact h.most, h.cap, fun c hc hn => ?_, fun c hc hn => ?_, fun c d hc hd h1 h2 e => ?_, fun i hi => ?_, h.dis⟩
  · rw [set_length, if_pos hb, List.length_set]; exact h.sum
  · rw [has_set h.up] at hn
    split at hn
    · cases hn
    · exact h.no c hc hn
  · obtain ⟨q0, e0, hv0⟩ := h.yes b.toNat b.toNat_lt hb
    have hlt := (List.getElem?_eq_some_iff.1 hv0).1
    rw [has_set h.up] at hn
    rw [get_set h.up]
    by_cases hcb : c = b.toNat
    · subst hcb
      refine ⟨q, hq, ?_⟩
      rw [if_pos rfl, List.getElem?_set, if_pos rfl, if_pos (by omega)]
    · rw [if_neg hcb] at hn ⊢
      obtain ⟨q1, e1, hv1⟩ := h.yes c hc hn
      refine ⟨q1, e1, ?_⟩
      have : q ≠ q1 := fun e => hcb (h.inj c b.toNat hc b.toNat_lt hn hb (by omega))
      rw [List.getElem?_set, if_neg this]
      exact hv1
  · have k1 : hasE es c = true := by rw [has_set h.up] at h1; split at h1; (rename_i q; rw [q]; exact hb); exact h1
    have k2 : hasE es d = true := by rw [has_set h.up] at h2; split at h2; (rename_i q; rw [q]; exact hb); exact h2
    exact h.inj c d hc hd k1 k2 e
  · rw [List.length_set]; exact h.fre i hi
theorem Pl.set_more (h : Pl room es k tb lf vs) {b : UInt8} (x : Th) (hb : hasE es b.toNat = false) {k' q : Nat} {vs' : List Th} (hsum : es.length + 1 + k' = vs'.length) (hmost : vs'.length ≤ room) (hk : k' ≤ k) (hle : vs.length ≤ vs'.length)
    (hq : vs'[q]? = some x) (hfar : ∀ j y, j ≠ q → vs[j]? = some y → vs'[j]? = some y) (hfree : ∀ c, c < 256 → tb c ≠ q + 1) (hnl : ∀ i, i < k' → lf i ≠ q) :
    Pl room (setE es b x) k' (turnN tb b.toNat (q + 1)) lf vs' := by
  refine ⟨set_up h.up b x, ?_, hmost, h.cap, fun c hc hn => ?_, fun c hc hn => ?_, fun c d hc hd h1 h2 e => ?_, fun i hi => ⟨?_, fun c hc => ?_⟩, fun i j hi hj e => h.dis i j (by omega) (by omega) e⟩
  · rw [set_length, if_neg (by rw [hb]; simp)]; exact hsum
  · rw [has_set h.up] at hn
    split at hn
    · cases hn
    · rename_i q'
      rw [turn_far _ _ q']; exact h.no c hc hn
  · rw [has_set h.up] at hn
    rw [get_set h.up]
    by_cases hcb : c = b.toNat
    · subst hcb
      rw [turn_at, if_pos rfl]
      exact ⟨q, rfl, hq⟩
    · rw [if_neg hcb] at hn ⊢
      rw [turn_far _ _ hcb]
      obtain ⟨q1, e1, hv1⟩ := h.yes c hc hn
      exact ⟨q1, e1, hfar q1 _ (fun e => hfree c hc (by omega)) hv1⟩
  · rw [has_set h.up] at h1 h2
    by_cases c1 : c = b.toNat
    · by_cases c2 : d = b.toNat
      · omega
      · rw [c1, turn_at, turn_far _ _ c2] at e
        exact absurd e.symm (hfree d hd)
    · by_cases c2 : d = b.toNat
      · rw [c2, turn_at, turn_far _ _ c1] at e
        exact absurd e (hfree c hc)
      · rw [if_neg c1] at h1
        rw [if_neg c2] at h2
        rw [turn_far _ _ c1, turn_far _ _ c2] at e
        exact h.inj c d hc hd h1 h2 e
  · have := (h.fre i (by omega)).1; omega
  · by_cases c1 : c = b.toNat
    · rw [c1, turn_at]; have := hnl i hi; omega
    · rw [turn_far _ _ c1]; exact (h.fre i (by omega)).2 c hc
/-- One more, at a place that was left. -/
theorem Pl.set_left (h : Pl room es (k + 1) tb lf vs) {b : UInt8} (x : Th) (hb : hasE es b.toNat = false) : Pl room (setE es b x) k (turnN tb b.toNat (lf k + 1)) lf (vs.set (lf k) x) := by
  have hf := h.fre k (by omega)
  refine h.set_more x hb (by rw [List.length_set]; have := h.sum; omega) (by rw [List.length_set]; exact h.most) (by omega) (by rw [List.length_set]; exact Nat.le_refl _) ?_ (fun j y hj hy => ?_) hf.2 (fun i hi e => ?_)
  · rw [List.getElem?_set, if_pos rfl, if_pos hf.1]
  · rw [List.getElem?_set, if_neg (fun e => hj e.symm)]; exact hy
  · have := h.dis i k (by omega) (by omega) e; omega
/-- One more, at a new place. -/
theorem Pl.set_new (h : Pl room es 0 tb lf vs) {b : UInt8} (x : Th) (hb : hasE es b.toNat = false) (hr : es.length < room) : Pl room (setE es b x) 0 (turnN tb b.toNat (vs.length + 1)) lf (vs ++ [x]) := by
  have hs := h.sum
  refine h.set_more x hb (by simp; omega) (by simp; omega) (by omega) (by simp) ?_ (fun j y hj hy => ?_) (fun c hc e => ?_) (fun i hi => by omega)
  · simp
  · rw [List.getElem?_append_left (List.getElem?_eq_some_iff.1 hy).1]; exact hy
  · cases hh : hasE es c with
    | false => rw [h.no c hc hh] at e; omega
    | true =>
      obtain ⟨q1, e1, hv1⟩ := h.yes c hc hh
      have := (List.getElem?_eq_some_iff.1 hv1).1
      omega
end
end Go.Proofs.YtajpipaooaemdaaGreatDoor

namespace Go.Proofs.YtajpipaooaemdaaGreatDoor
open Go.RowKit

set_option maxRecDepth 100000 in
theorem nan_cmp (x : Int) (w : World) : Calls Tryz.prog 150 #[.int .u8 x] w fun e w' => e = .returned (.bool false) ∧ w' = w := by
  go_enter Tryz.func150, Tryz.ntmps150
  go_wp2
  go_ret
  exact ⟨by simp, rfl⟩
set_option maxRecDepth 100000 in
theorem nan_sl (x : Int) (w : World) : Calls Tryz.prog 148 #[.int .u8 x] w fun e w' => e = .returned (.bool false) ∧ w' = w := by
  go_enter Tryz.func148, Tryz.ntmps148
  go_wp2
  go_ret
  exact ⟨by simp, rfl⟩
set_option maxRecDepth 100000 in
theorem less_any (x y : Int) (w : World) : Calls Tryz.prog 147 #[.int .u8 x, .int .u8 y] w fun e w' => e = .returned (.bool (decide (x < y))) ∧ w' = w := by
  go_enter Tryz.func147, Tryz.ntmps147
  go_wp2_with (go_at_call 150; refine (nan_cmp _ _).mono ?_; rintro e w' ⟨rfl, rfl⟩)
  go_ret
  exact ⟨rfl, rfl⟩

set_option maxHeartbeats 4000000 in
set_option maxRecDepth 100000 in
theorem search_any (g off n c : Nat) (es : List Ent) (b : UInt8) (w : World) (hn : es.length = n) (h16 : n ≤ 16)
    (hc : ∀ (j : Nat) (e : Ent), es[j]? = some e → w.cell? ⟨g, off + j, none⟩ = some (.int .u8 (e.1.toNat : Int))) (hs : Up es) :
    Calls Tryz.prog 144 #[.slice (some ⟨g, off, none⟩) n c, .int .u8 (b.toNat : Int)] w fun e w' =>
      e = .returned (.tuple #[.int .i64 (pos es b.toNat : Nat), .bool (hasE es b.toNat)]) ∧ Still w w' := by
  have HC := Lib.hid hc
  have HS := Lib.hid hs
  have HN := Lib.hid hn
  clear hc hs hn
  obtain ⟨z, hz⟩ : ∃ z : Nat, b.toNat = z := ⟨_, rfl⟩
  rw [hz]
  clear hz
  go_enter Tryz.func144, Tryz.ntmps144
  go_wp2
  go_loopg [7, 8] n (fun m s7 s8 wr => ∃ lo hi : Nat, s7 = .int .i64 lo ∧ s8 = .int .i64 hi ∧ lo ≤ hi ∧ hi ≤ n ∧ hi - lo ≤ m ∧ Still w wr ∧ (∀ t e, t < lo → es[t]? = some e → e.1.toNat < z) ∧ (∀ t e, hi ≤ t → es[t]? = some e → z ≤ e.1.toNat))
  case atStart => exact ⟨0, n, rfl, rfl, Nat.zero_le _, Nat.le_refl _, by omega, Still.refl _, fun t e ht => absurd ht (Nat.not_lt_zero _), fun t e h1 h2 => by have := (List.getElem?_eq_some_iff.1 h2).1; have := HN.out; omega⟩
  case round =>
    obtain ⟨lo, hi, rfl, rfl, hlh, hin, hg, ⟨q, rfl⟩, h1, h2⟩ := hrel
    have H1 := Lib.hid h1
    have H2 := Lib.hid h2
    clear h1 h2
    by_cases hlt : lo < hi
    · obtain ⟨y, hy⟩ : ∃ y, es[(lo + hi) / 2]? = some y := ⟨es[(lo + hi) / 2]'(by have := HN.out; omega), List.getElem?_eq_getElem _⟩
      have cm : w.cell? ⟨g, off + (lo + hi) / 2, none⟩ = some (.int .u8 (y.1.toNat : Int)) := HC.out _ _ hy
      have HY := Lib.hid hy
      clear hy
      obtain ⟨u, hu⟩ : ∃ u : Nat, y.1.toNat = u := ⟨_, rfl⟩
      have HU := Lib.hid hu
      rw [hu] at cm
      clear hu
      by_cases hyx : u < z
      · have hyx' : (u : Int) < (z : Int) := by omega
        go_wp2_with (first | (go_at_call 147; refine (less_any _ _ _).mono ?_; rintro e w' ⟨rfl, rfl⟩) | (go_at_call 148; refine (nan_sl _ _).mono ?_; rintro e w' ⟨rfl, rfl⟩))
        go_roundg (hi - ((lo + hi) / 2 + 1))
        case measure => omega
        case rel =>
          refine ⟨(lo + hi) / 2 + 1, hi, by rw [show ((lo : Int) + (hi : Int)) / 2 + 1 = (((lo + hi) / 2 + 1 : Nat) : Int) by omega], rfl, by omega, hin, Nat.le_refl _, ⟨_, rfl⟩, fun t e ht he => ?_, H2.out⟩
          rcases Nat.lt_or_eq_of_le (show t ≤ (lo + hi) / 2 by omega) with q1 | q1
          · have := HS.out.at_ q1 he HY.out; have := HU.out; omega
          · subst q1; have h5 := HY.out; rw [h5] at he; cases he; have := HU.out; omega
      · have hyx' : ¬ ((u : Int) < (z : Int)) := by omega
        go_wp2_with (first | (go_at_call 147; refine (less_any _ _ _).mono ?_; rintro e w' ⟨rfl, rfl⟩) | (go_at_call 148; refine (nan_sl _ _).mono ?_; rintro e w' ⟨rfl, rfl⟩))
        go_roundg ((lo + hi) / 2 - lo)
        case measure => omega
        case rel =>
          refine ⟨lo, (lo + hi) / 2, rfl, by rw [show ((lo : Int) + (hi : Int)) / 2 = (((lo + hi) / 2 : Nat) : Int) by omega], by omega, by omega, Nat.le_refl _, ⟨_, rfl⟩, H1.out, fun t e ht he => ?_⟩
          rcases Nat.lt_or_eq_of_le ht with q1 | q1
          · have := HS.out.at_ q1 HY.out he; have := HU.out; omega
          · subst q1; have h5 := HY.out; rw [h5] at he; cases he; have := HU.out; omega
    · have : hi = lo := by omega
      subst this
      have EP := Lib.hid (show pos es z = hi from pos_of (by have := HN.out; omega) H1.out H2.out)
      by_cases hl : hi < n
      · obtain ⟨y, hy⟩ : ∃ y, es[hi]? = some y := ⟨es[hi]'(by have := HN.out; omega), List.getElem?_eq_getElem _⟩
        have cm : w.cell? ⟨g, off + hi, none⟩ = some (.int .u8 (y.1.toNat : Int)) := HC.out _ _ hy
        have E := Lib.hid (show hasE es z = decide (y.1.toNat = z) by
          unfold hasE look
          rw [EP.out, hy]
          by_cases q : y.1.toNat = z <;> simp [q])
        clear hy
        obtain ⟨u, hu⟩ : ∃ u : Nat, y.1.toNat = u := ⟨_, rfl⟩
        rw [hu] at cm E
        clear hu
        by_cases hyx : u = z
        · subst hyx
          go_wp2_with (first | (go_at_call 147; refine (less_any _ _ _).mono ?_; rintro e w' ⟨rfl, rfl⟩) | (go_at_call 148; refine (nan_sl _ _).mono ?_; rintro e w' ⟨rfl, rfl⟩))
          go_ret2
          refine ⟨?_, ⟨_, rfl⟩⟩
          rw [EP.out, E.out]
          simp
        · have hyx' : ¬ ((u : Int) = (z : Int)) := by omega
          go_wp2_with (first | (go_at_call 147; refine (less_any _ _ _).mono ?_; rintro e w' ⟨rfl, rfl⟩) | (go_at_call 148; refine (nan_sl _ _).mono ?_; rintro e w' ⟨rfl, rfl⟩))
          go_ret2
          refine ⟨?_, ⟨_, rfl⟩⟩
          rw [EP.out, E.out]
          simp [hyx]
          omega
      · have E := Lib.hid (show hasE es z = false by
          unfold hasE look
          rw [EP.out, List.getElem?_eq_none (by have := HN.out; omega)]
          rfl)
        go_wp2_with (first | (go_at_call 147; refine (less_any _ _ _).mono ?_; rintro e w' ⟨rfl, rfl⟩) | (go_at_call 148; refine (nan_sl _ _).mono ?_; rintro e w' ⟨rfl, rfl⟩))
        go_ret2
        refine ⟨?_, ⟨_, rfl⟩⟩
        rw [EP.out, E.out]
        first | rfl | simp
end Go.Proofs.YtajpipaooaemdaaGreatDoor

namespace Go.Proofs.YtajpipaooaemdaaGreatDoor
open Go.RowKit

theorem take_map_at {α β : Type} {f : α → β} {bs : List β} {es : List α} {n j : Nat} {e : α} (h : bs.take n = es.map f) (hj : j < n) (he : es[j]? = some e) : bs[j]? = some (f e) := by
  have h1 : (bs.take n)[j]? = some (f e) := by rw [h, List.getElem?_map, he]; rfl
  rwa [List.getElem?_take, if_pos hj] at h1
/-- What is held, as a value. -/
abbrev ev (x : Th) : Value := .pointer x
/-- The byte, and the thing, of one, if there is one. -/
def eb (o : Option Ent) : Int := match o with | some e => (e.1.toNat : Int) | none => 0
def ex (o : Option Ent) : Th := match o with | some e => e.2 | none => none

/-- Block g reads as a row of this room that holds es; its things lie from A on. -/
structure Rd (w : World) (g : Nat) (room : Nat) (es : List Ent) (A : Option Addr) (c : Nat) : Prop where
  up : Up es
  few : es.length ≤ 16
  room : w.cell? ⟨g, 0, none⟩ = some (.int .i64 (room : Int))
  byt : ∀ (j : Nat) (e : Ent), es[j]? = some e → w.cell? ⟨g, 1 + j, none⟩ = some (.int .u8 (e.1.toNat : Int))
  sl : w.cell? ⟨g, 17, none⟩ = some (.slice A es.length c)
  th : ∀ (j : Nat) (e : Ent), es[j]? = some e → ∃ t, A = some ⟨t, 0, none⟩ ∧ w.cell? ⟨t, j, none⟩ = some (ev e.2)

section
variable {w w' : World} {g room c : Nat} {es : List Ent} {A : Option Addr}
theorem Rd.drewN (h : Rd w g room es A c) (n : Nat) : Rd (w.drewN n) g room es A c := ⟨h.up, h.few, h.room, h.byt, h.sl, h.th⟩
theorem Rd.still (h : Rd w g room es A c) (hs : Still w w') : Rd w' g room es A c := by obtain ⟨n, rfl⟩ := hs; exact h.drewN n
end

/-- A row that New gave: the block g has the room, sixteen bytes, and the slice of its things; the block t its things. -/
structure Sm (w : World) (g t : Nat) (room : Nat) (es : List Ent) : Prop where
  up : Up es
  few : es.length ≤ room
  lo : 1 ≤ room
  most : room ≤ 16
  ne : g ≠ t
  head : ∃ bs : List UInt8, bs.length = 16 ∧ bs.take es.length = es.map (·.1) ∧
    Lst w g (.int .i64 (room : Int) :: (bs.map (fun u => Value.int .u8 (u.toNat : Int)) ++ [.slice (some ⟨t, 0, none⟩) es.length room]))
  things : ∃ vs : List Th, vs.length = room ∧ vs.take es.length = es.map (·.2) ∧ Lst w t (vs.map ev)

section
variable {w w' : World} {g t room : Nat} {es : List Ent}
theorem Sm.rd (h : Sm w g t room es) : Rd w g room es (some ⟨t, 0, none⟩) room := by
  obtain ⟨bs, hb, ht, hl⟩ := h.head
  obtain ⟨vs, hv, hvt, hvl⟩ := h.things
  refine ⟨h.up, Nat.le_trans h.few h.most, ?_, fun j e he => ?_, ?_, fun j e he => ⟨t, rfl, ?_⟩⟩
  · rw [Lst.at_ hl]; rfl
  · rw [Lst.at_ hl, Nat.add_comm, List.getElem?_cons_succ]
    have hj : j < es.length := (List.getElem?_eq_some_iff.1 he).1
    have e1 : bs[j]? = some e.1 := take_map_at ht hj he
    have hjb : j < bs.length := (List.getElem?_eq_some_iff.1 e1).1
    rw [List.getElem?_append_left (by simpa using hjb), List.getElem?_map, e1]; rfl
  · rw [Lst.at_ hl, List.getElem?_cons_succ, List.getElem?_append_right (by simp [hb])]
    simp [hb]
  · rw [Lst.at_ hvl, List.getElem?_map]
    have hj : j < es.length := (List.getElem?_eq_some_iff.1 he).1
    have e1 : vs[j]? = some e.2 := take_map_at hvt hj he
    rw [e1]; rfl
theorem Sm.kept (h : Sm w g t room es) {D : Nat → Prop} (hk : Kept D w w') (hg : ¬ D g) (ht : ¬ D t) : Sm w' g t room es := by
  obtain ⟨bs, hb, hbt, hl⟩ := h.head
  obtain ⟨vs, hv, hvt, hvl⟩ := h.things
  exact ⟨h.up, h.few, h.lo, h.most, h.ne, ⟨bs, hb, hbt, hk.blk hl hg⟩, ⟨vs, hv, hvt, hk.blk hvl ht⟩⟩
theorem Sm.lt (h : Sm w g t room es) : g < w.heap.size ∧ t < w.heap.size := by
  obtain ⟨bs, hb, hbt, hl⟩ := h.head
  obtain ⟨vs, hv, hvt, hvl⟩ := h.things
  exact ⟨Blk.lt hl, Blk.lt hvl⟩
theorem Sm.below (h : Sm w g t room es) (hk : Below w.heap.size w w') : Sm w' g t room es := h.kept (D := fun _ => False) (Kept.of_below hk) (fun q => q) (fun q => q)
theorem Sm.drewN (h : Sm w g t room es) (n : Nat) : Sm (w.drewN n) g t room es := ⟨h.up, h.few, h.lo, h.most, h.ne, h.head, h.things⟩
theorem Sm.still (h : Sm w g t room es) (hs : Still w w') : Sm w' g t room es := by obtain ⟨n, rfl⟩ := hs; exact h.drewN n
end
end Go.Proofs.YtajpipaooaemdaaGreatDoor

namespace Go.Proofs.YtajpipaooaemdaaGreatDoor
open Go.RowKit

section
set_option maxRecDepth 100000 in
theorem arr_len : Tryz.prog.arrayLen 151 = 16 := by simp [Program.arrayLen, Tryz.underlying151]
set_option maxRecDepth 100000 in
theorem arr_elem : Tryz.prog.elem 151 = 5 := by simp [Program.elem, Tryz.underlying151]
set_option maxRecDepth 100000 in
theorem arr_und : Tryz.prog.underlying 151 = some (.array (Tryz.prog.arrayLen 151) (Tryz.prog.elem 151)) := by rw [arr_len, arr_elem]; exact Tryz.underlying151
set_option maxRecDepth 100000 in
theorem size_byte (W : World) : (sizeOf 5).run Tryz.prog W = .ok 1 W := by
  obtain ⟨i, hi, _, h1, _⟩ := info_parts (show (Tryz.prog.info? 5).map (fun i => (i.zero, i.size, i.bytes)) = some (some (.int .u8 0), 1, 1) by kernel_rfl)
  simp [sizeOf, typeInfo, hi, h1]
set_option maxRecDepth 100000 in
/-- A part of the sixteen bytes, as a slice. -/
theorem bytes_h (g n : Nat) (hn : n ≤ 16) (W : World) : (Instr.sliceAt 151 (.pointer (some ⟨g, 1, none⟩)) none (some (.int .i64 (n : Int))) none).run Tryz.prog W = .ok (.slice (some ⟨g, 1, none⟩) n 16) W := by
  rw [run_sliceAt_array_h W _ ⟨g, 1, none⟩ arr_und .i64 (n : Int) (by omega) (by rw [arr_len]; omega), arr_elem, size_byte, arr_len]
  simp [slicedAt, Addr.add]
set_option maxRecDepth 100000 in
theorem bytes_lh (g l n : Nat) (hl : l ≤ n) (hn : n ≤ 16) (W : World) : (Instr.sliceAt 151 (.pointer (some ⟨g, 1, none⟩)) (some (.int .i64 (l : Int))) (some (.int .i64 (n : Int))) none).run Tryz.prog W = .ok (.slice (some ⟨g, if 16 = l then 1 else 1 + l, none⟩) (n - l) (16 - l)) W := by
  rw [run_sliceAt_array_lh W _ ⟨g, 1, none⟩ arr_und .i64 .i64 (l : Int) (n : Int) (by omega) (by omega) (by rw [arr_len]; omega), arr_elem, size_byte, arr_len]
  simp only [Result.andThen_ok, slicedAt, Int.toNat_natCast, Nat.mul_one, Addr.add_lit]
  split <;> rfl
set_option maxRecDepth 100000 in
theorem bytes_l (g l : Nat) (hl : l ≤ 16) (W : World) : (Instr.sliceAt 151 (.pointer (some ⟨g, 1, none⟩)) (some (.int .i64 (l : Int))) none none).run Tryz.prog W = .ok (.slice (some ⟨g, if 16 = l then 1 else 1 + l, none⟩) (16 - l) (16 - l)) W := by
  rw [run_sliceAt_array_l W _ ⟨g, 1, none⟩ arr_und .i64 (l : Int) (by omega) (by rw [arr_len]; omega), arr_elem, size_byte, arr_len]
  simp only [Result.andThen_ok, slicedAt, Int.toNat_natCast, Nat.mul_one, Addr.add_lit]
  split <;> rfl
end
section
variable (w : World)
set_option maxRecDepth 100000 in
theorem len_nil : Calls Tryz.prog 136 #[.pointer none] w fun e w' => e = .returned (.int .i64 0) ∧ w' = w := by
  go_enter Tryz.func136, Tryz.ntmps136
  go_wp2
  go_ret
  exact ⟨rfl, rfl⟩
set_option maxRecDepth 100000 in
theorem nobodys_nil : Calls Tryz.prog 106 #[.pointer none] w fun e w' => e = .returned (.bool true) ∧ w' = w := by
  go_enter Tryz.func106, Tryz.ntmps106
  go_wp2
  go_ret
  exact ⟨rfl, rfl⟩
set_option maxRecDepth 100000 in
theorem place_nil (b : Int) : Calls Tryz.prog 141 #[.pointer none, .int .u8 b] w fun e w' => e = .returned (.tuple #[.int .i64 0, .bool false]) ∧ w' = w := by
  go_enter Tryz.func141, Tryz.ntmps141
  go_wp2
  go_ret2
  exact ⟨rfl, rfl⟩
set_option maxRecDepth 100000 in
theorem at_nil (i : Int) : Calls Tryz.prog 142 #[.pointer none, .int .i64 i] w fun e w' => e = .returned (.tuple #[.int .u8 0, .pointer none, .bool false]) ∧ w' = w := by
  by_cases hi : i < 0
  · go_enter Tryz.func142, Tryz.ntmps142
    go_wp2
    go_ret3
    exact ⟨rfl, rfl⟩
  · go_enter Tryz.func142, Tryz.ntmps142
    go_wp2_with (go_at_call 136; refine (len_nil _).mono ?_; rintro e w' ⟨rfl, rfl⟩)
    go_ret3
    exact ⟨rfl, rfl⟩
end

section
variable {w : World} {g room c : Nat} {es : List Ent} {A : Option Addr}
set_option maxRecDepth 100000 in
theorem len_any (h : Rd w g room es A c) : Calls Tryz.prog 136 #[.pointer (some ⟨g, 0, none⟩)] w fun e w' => e = .returned (.int .i64 (es.length : Int)) ∧ w' = w := by
  have h1 := h.sl
  clear h
  generalize es.length = n at h1 ⊢
  go_enter Tryz.func136, Tryz.ntmps136
  go_wp2
  go_ret
  exact ⟨rfl, rfl⟩
set_option maxRecDepth 100000 in
theorem room_any (h : Rd w g room es A c) : Calls Tryz.prog 139 #[.pointer (some ⟨g, 0, none⟩)] w fun e w' => e = .returned (.int .i64 (room : Int)) ∧ w' = w := by
  have h1 := h.room
  clear h
  go_enter Tryz.func139, Tryz.ntmps139
  go_wp2
  go_ret
  exact ⟨rfl, rfl⟩
set_option maxRecDepth 100000 in
theorem nobodys_any (h : Rd w g room es A c) : Calls Tryz.prog 106 #[.pointer (some ⟨g, 0, none⟩)] w fun e w' => e = .returned (.bool (decide (room = 0))) ∧ w' = w := by
  have h1 := h.room
  clear h
  go_enter Tryz.func106, Tryz.ntmps106
  go_wp2
  go_ret
  exact ⟨by by_cases q : room = 0 <;> simp [q], rfl⟩
set_option maxRecDepth 100000 in
theorem place_any (h : Rd w g room es A c) (b : UInt8) : Calls Tryz.prog 141 #[.pointer (some ⟨g, 0, none⟩), .int .u8 (b.toNat : Int)] w fun e w' =>
    e = .returned (.tuple #[.int .i64 (pos es b.toNat : Nat), .bool (hasE es b.toNat)]) ∧ Still w w' := by
  have h1 := h.sl
  have hf := h.few
  have hsl := bytes_h g es.length hf
  have C := Lib.hid (fun n k => search_any g 1 es.length k es b (w.drewN n) rfl hf h.byt h.up)
  clear h
  generalize pos es b.toNat = p at C ⊢
  generalize hasE es b.toNat = q at C ⊢
  generalize es.length = n at h1 hf C hsl ⊢
  go_enter Tryz.func141, Tryz.ntmps141
  go_wp2_with fail
  go_quiet ((go_at_call 144; exact quiet_st1 (C.out _ _)))
  go_wp2
  go_ret2
  exact ⟨rfl, ⟨_, rfl⟩⟩
end
end Go.Proofs.YtajpipaooaemdaaGreatDoor

namespace Go.Proofs.YtajpipaooaemdaaGreatDoor
open Go.RowKit

/-- The one at a place. -/
def atI (es : List Ent) (i : Int) : Option Ent := if i < 0 then none else es[i.toNat]?
abbrev entV (o : Option Ent) : Value := .tuple #[.int .u8 (eb o), ev (ex o), .bool o.isSome]

section
variable {w : World} {g room c : Nat} {es : List Ent} {A : Option Addr}
set_option maxRecDepth 100000 in
theorem sat_any (h : Rd w g room es A c) (i : Int) : Calls Tryz.prog 142 #[.pointer (some ⟨g, 0, none⟩), .int .i64 i] w fun e w' => e = .returned (entV (atI es i)) ∧ Still w w' := by
  have L := Lib.hid (fun n => len_any (h.drewN n))
  by_cases hi : i < 0
  · have E := Lib.hid (show atI es i = none by simp [atI, hi])
    clear h
    go_enter Tryz.func142, Tryz.ntmps142
    go_wp2
    go_ret3
    exact ⟨by rw [E.out]; rfl, Still.refl _⟩
  · obtain ⟨k, rfl⟩ : ∃ k : Nat, i = (k : Int) := ⟨i.toNat, by omega⟩
    have hf := h.few
    by_cases hk : k < es.length
    · obtain ⟨x, hx⟩ : ∃ x, es[k]? = some x := ⟨es[k], List.getElem?_eq_getElem hk⟩
      have E := Lib.hid (show atI es (k : Int) = some x by simp [atI, hi, hx])
      obtain ⟨t, rfl, hc2⟩ := h.th k x hx
      have hc1 := h.byt k x hx
      have hc0 := h.sl
      have L0 := Lib.hid (len_any h)
      clear h L
      clear hx
      generalize hnn : es.length = n at hc0 hk hf L0
      clear hnn
      obtain ⟨u, hu⟩ : ∃ u : Int, (x.1.toNat : Int) = u := ⟨_, rfl⟩
      have EU := Lib.hid hu
      rw [hu] at hc1
      clear hu
      go_enter Tryz.func142, Tryz.ntmps142
      go_wp2_with fail
      (with_reducible refine L0.out.mono ?_)
      rintro e w' ⟨rfl, rfl⟩
      go_wp2_with fail
      go_quiet (fail)
      go_wp2
      go_ret3
      refine ⟨?_, ⟨_, rfl⟩⟩
      rw [E.out]
      show _ = Ending.returned (.tuple #[.int .u8 ((x.1.toNat : Nat) : Int), .pointer x.2, .bool true])
      rw [EU.out]
      rfl
    · have E := Lib.hid (show atI es (k : Int) = none by simp [atI, hi]; omega)
      have L0 := Lib.hid (len_any h)
      clear h L
      generalize hnn : es.length = n at hk hf L0
      clear hnn
      go_enter Tryz.func142, Tryz.ntmps142
      go_wp2_with fail
      (with_reducible refine L0.out.mono ?_)
      rintro e w' ⟨rfl, rfl⟩
      go_wp2
      go_ret3
      exact ⟨by rw [E.out]; rfl, Still.refl _⟩

set_option maxRecDepth 100000 in
theorem sget_any (h : Rd w g room es A c) (b : UInt8) : Calls Tryz.prog 135 #[.pointer (some ⟨g, 0, none⟩), .int .u8 (b.toNat : Int)] w fun e w' => e = .returned (.tuple #[ev (getE es b.toNat), .bool (hasE es b.toNat)]) ∧ Still w w' := by
  have C := Lib.hid (place_any h b)
  cases hb : hasE es b.toNat with
  | false =>
    have E := Lib.hid (show getE es b.toNat = none by unfold getE; rw [(has_no hb).1]; rfl)
    rw [hb] at C
    clear h
    generalize pos es b.toNat = p at C
    go_enter Tryz.func135, Tryz.ntmps135
    go_wp2_with fail
    (with_reducible refine C.out.mono ?_)
    rintro e w' ⟨rfl, q, rfl⟩
    go_wp2
    go_ret2
    refine ⟨?_, ⟨_, rfl⟩⟩
    rw [E.out]
    rfl
  | true =>
    obtain ⟨x, hx, hxb, hlk, hlt⟩ := has_at hb
    have E := Lib.hid (show getE es b.toNat = x.2 by unfold getE; rw [hlk]; rfl)
    rw [hb] at C
    obtain ⟨t, rfl, hc2⟩ := h.th _ x hx
    have hc0 := h.sl
    have hf := h.few
    clear h
    clear hx hlk
    generalize hpp : pos es b.toNat = p at C hc2 hlt
    generalize hnn : es.length = n at hc0 hlt hf
    clear hpp hnn
    go_enter Tryz.func135, Tryz.ntmps135
    go_wp2_with fail
    (with_reducible refine C.out.mono ?_)
    rintro e w' ⟨rfl, q, rfl⟩
    go_wp2
    go_ret2
    refine ⟨?_, ⟨_, rfl⟩⟩
    rw [E.out]
    rfl
set_option maxRecDepth 100000 in
theorem place_z (h : Rd w g room es A c) (b : UInt8) (z : Int) (hz : z = (b.toNat : Int)) : Calls Tryz.prog 141 #[.pointer (some ⟨g, 0, none⟩), .int .u8 z] w fun e w' =>
    e = .returned (.tuple #[.int .i64 (pos es b.toNat : Nat), .bool (hasE es b.toNat)]) ∧ Still w w' := by rw [hz]; exact place_any h b
set_option maxRecDepth 100000 in
theorem snext_any (h : Rd w g room es A c) (a : Int) (ha : -9223372036854775808 ≤ a) : Calls Tryz.prog 137 #[.pointer (some ⟨g, 0, none⟩), .int .i64 a] w fun e w' => e = .returned (entV (nextE es a)) ∧ Still w w' := by
  by_cases h1 : 255 < a
  · have E := Lib.hid (show nextE es a = atI es (-1) by simp [nextE, atI, h1])
    have C := Lib.hid (sat_any h (-1))
    clear h
    go_enter Tryz.func137, Tryz.ntmps137
    go_wp2_with fail
    (with_reducible refine C.out.mono ?_)
    rintro e w' ⟨rfl, q, rfl⟩
    go_wp2
    go_ret3
    exact ⟨by rw [E.out]; rfl, ⟨_, rfl⟩⟩
  · obtain ⟨b, hb⟩ : ∃ b : UInt8, b.toNat = a.toNat := ⟨UInt8.ofNat a.toNat, by rw [UInt8.toNat_ofNat']; omega⟩
    have E := Lib.hid (show nextE es a = atI es ((pos es b.toNat : Nat) : Int) by unfold nextE atI; rw [if_neg h1, if_neg (by omega), hb]; rfl)
    have C := Lib.hid (fun (z : Int) (hz : z = (b.toNat : Int)) => place_z h b z hz)
    have D := Lib.hid (fun n => sat_any (h.drewN n) ((pos es b.toNat : Nat) : Int))
    have HB := Lib.hid (show (b.toNat : Int) = max a 0 by omega)
    clear h hb
    generalize pos es b.toNat = p at C D E
    generalize hasE es b.toNat = q at C
    by_cases hz : a ≤ 0
    · go_enter Tryz.func137, Tryz.ntmps137
      go_wp2_with fail
      all_goals
        (with_reducible refine (C.out _ (by rw [HB.out]; omega)).mono ?_)
        rintro e w' ⟨rfl, q, rfl⟩
        go_wp2_with fail
        (with_reducible refine (D.out _).mono ?_)
        rintro e w' ⟨rfl, q, rfl⟩
        go_wp2
        go_ret3
        exact ⟨by rw [E.out]; rfl, by repeat (first | exact Still.refl _ | apply Still.step)⟩
    · have ew : IntKind.u8.wrap a = a := by rw [IntKind.wrap_u8]; omega
      go_enter Tryz.func137, Tryz.ntmps137
      go_wp2_with fail
      all_goals
        (with_reducible refine (C.out _ (by rw [HB.out]; omega)).mono ?_)
        rintro e w' ⟨rfl, q, rfl⟩
        go_wp2_with fail
        (with_reducible refine (D.out _).mono ?_)
        rintro e w' ⟨rfl, q, rfl⟩
        go_wp2
        go_ret3
        exact ⟨by rw [E.out]; rfl, by repeat (first | exact Still.refl _ | apply Still.step)⟩

end
end Go.Proofs.YtajpipaooaemdaaGreatDoor

namespace Go.Proofs.YtajpipaooaemdaaGreatDoor
open Go.RowKit

section
variable {P : Program} {ops : Array Oper} {rest : List Oper} {o : Oper} {a : Act} {w w' : World} {Q : Exit → Act → World → Prop}
/-- append, copy, clear whose run is known. -/
theorem wpList_app_run (hgd : o.guard = none) (s x : Operand) (t t' : TypeId) (ho : o.op = .call { callee := .builtin .append, args := #[s, x], argTypes := #[t, t'] }) (v u : Value) (hs : a.eval s = v) (hx : a.eval x = u) {v' : Value}
    (hr : (Builtin.append_ #[t, t'] o.type #[v, u]).run P w = .ok v' w') (h : wpList P ops Q rest (a.put o.dst v') w') : wpList P ops Q (o :: rest) a w := by
  refine wpList_plain hgd fun _ hK => ?_
  unfold Oper.wp execOp
  simp only [ho, resolve, invoke, builtin, Sem.run_bind, Sem.run_pure, Result.andThen_ok, List.map_toArray, List.map_cons, List.map_nil, hs, hx, hr]
  exact hK _ _ h
theorem step_app_run {K : Act → World → Prop} {E : Prop} (hg : o.guard = none) (s x : Operand) (t t' : TypeId) (hop : o.op = .call { callee := .builtin .append, args := #[s, x], argTypes := #[t, t'] }) (v u : Value) (hs : a.eval s = v) (hx : a.eval x = u) {v' : Value}
    (hr : (Builtin.append_ #[t, t'] o.type #[v, u]).run P w = .ok v' w') (hK : K (a.put o.dst v') w') : if Region.wanted o (yielded ops a.tmps) = true then Oper.wp P o a w K Q else E := by
  rw [if_pos (by simp [Region.wanted, hg])]
  unfold Oper.wp
  simp [execOp, hop, resolve, invoke, builtin, hs, hx, hr, Result.andThen]
  exact hK
theorem step_cpy_run {K : Act → World → Prop} {E : Prop} (hg : o.guard = none) (s x : Operand) (t t' : TypeId) (hop : o.op = .call { callee := .builtin .copy, args := #[s, x], argTypes := #[t, t'] }) (v u : Value) (hs : a.eval s = v) (hx : a.eval x = u) {v' : Value}
    (hr : (Builtin.copy_ #[t, t'] o.type #[v, u]).run P w = .ok v' w') (hK : K (a.put o.dst v') w') : if Region.wanted o (yielded ops a.tmps) = true then Oper.wp P o a w K Q else E := by
  rw [if_pos (by simp [Region.wanted, hg])]
  unfold Oper.wp
  simp [execOp, hop, resolve, invoke, builtin, hs, hx, hr, Result.andThen]
  exact hK
end

theorem Lst.drewN {w : World} {g : Nat} {l : List Value} (h : Lst w g l) (n : Nat) : Lst (w.drewN n) g l := h
theorem Lst.drew {w : World} {g : Nat} {l : List Value} (h : Lst w g l) : Lst w.drew g l := h

/-- A part of a block's cells goes elsewhere, in its own block or another one. -/
theorem copy_lst {P : Program} {dT sT e : TypeId} (ty : TypeId) (hu : P.underlying dT = some (.slice e)) (hs : (P.info? e).map (·.size) = some 1) {w : World} {g g' : Nat} {l l' : List Value} (h : Lst w g l) (h' : Lst w g' l')
    (o n dc o' m sc k : Nat) (vs : List Value) (hk : k = Nat.min m n) (hvs : vs = (l'.drop o').take k) (hm : o' + k ≤ l'.length) (ho : o + k ≤ l.length) (h1 : ∀ v ∈ l', v.oneCell' = true) :
    (Builtin.copy_ #[dT, sT] ty #[.slice (some ⟨g, o, none⟩) n dc, .slice (some ⟨g', o', none⟩) m sc]).run P w = .ok (goInt k) (w.setCells g o vs) := by
  have hl : vs.length = k := by subst hvs; simp; omega
  have := run_copy_cells (P := P) w dT sT ty e g o n dc ⟨g', o', none⟩ m sc vs hu hs (by rw [hl]; exact hk)
    (fun j v hj => by
      rw [Addr.add_lit, Lst.at_ h']
      subst hvs
      rw [List.getElem?_take] at hj
      split at hj
      · rwa [List.getElem?_drop] at hj
      · cases hj)
    (fun j hj => Lst.isSome h (by omega)) (fun j hj => Blk.fz h _) (fun v hv => h1 v (by subst hvs; exact List.mem_of_mem_drop (List.mem_of_mem_take hv)))
  rw [hl] at this
  exact this

/-- One more at place i of the first n. -/
def insL {α : Type} (vs : List α) (n i : Nat) (x : α) : List α := vs.take i ++ x :: ((vs.take n).drop i ++ vs.drop (n + 1))
theorem insL_end {vs : List Value} {n : Nat} {x : Value} : spl vs n [x] = insL vs n n x := by
  simp [spl, insL]
theorem insL_mid {vs : List Value} {n i : Nat} {x : Value} (hi : i ≤ n) (hn : n < vs.length) : spl (spl vs (i + 1) ((vs.take n).drop i)) i [x] = insL vs n i x := by
  have hd : ((vs.take n).drop i).length = n - i := by simp; omega
  unfold spl insL
  rw [hd, show i + 1 + (n - i) = n + 1 from by omega]
  have e1 : (vs.take (i + 1) ++ (vs.take n).drop i ++ vs.drop (n + 1)).take i = vs.take i := by
    rw [List.append_assoc, List.take_append_of_le_length (by simp; omega), List.take_take, Nat.min_eq_left (by omega)]
  have e2 : (vs.take (i + 1) ++ (vs.take n).drop i ++ vs.drop (n + 1)).drop (i + [x].length) = (vs.take n).drop i ++ vs.drop (n + 1) := by
    rw [List.append_assoc, List.drop_append, List.drop_of_length_le (by simp; omega)]
    simp only [List.length_singleton, List.length_take, List.nil_append]
    rw [Nat.min_eq_left (by omega), Nat.sub_self, List.drop_zero]
  rw [e1, e2]
  simp

section
variable {α β : Type} {l : List α} {n i : Nat} {x : α}
theorem insL_map (f : α → β) : (insL l n i x).map f = insL (l.map f) n i (f x) := by simp [insL, List.map_take, List.map_drop]
theorem insL_length (hi : i ≤ n) (hn : n < l.length) : (insL l n i x).length = l.length := by
  simp only [insL, List.length_append, List.length_take, List.length_cons, List.length_drop]; omega
theorem insL_take (hi : i ≤ n) (hn : n < l.length) : (insL l n i x).take (n + 1) = (l.take n).take i ++ x :: (l.take n).drop i := by
  unfold insL
  rw [show l.take i ++ x :: ((l.take n).drop i ++ l.drop (n + 1)) = (l.take i ++ x :: (l.take n).drop i) ++ l.drop (n + 1) from by simp, List.take_append_of_le_length (by simp; omega), List.take_of_length_le (by simp; omega), List.take_take, Nat.min_eq_left hi]
end

set_option maxRecDepth 100000 in
theorem th_info : (Tryz.prog.info? 28).map (·.size) = some 1 := by kernel_rfl

set_option maxHeartbeats 600000 in
set_option maxRecDepth 100000 in
theorem insert_any (t n c i vb : Nat) (vs : List Value) (x : Value) (w : World) (ht : Lst w t vs) (hv : Lst w vb [x]) (hne : vb ≠ t) (hi : i ≤ n) (hn : n < c) (hc : c ≤ 16) (hl : vs.length = c)
    (h1 : ∀ v ∈ vs, v.oneCell' = true) (hx : x.oneCell' = true) :
    Calls Tryz.prog 143 #[.slice (some ⟨t, 0, none⟩) n c, .int .i64 (i : Int), .slice (some ⟨vb, 0, none⟩) 1 1] w fun e w' =>
      e = .returned (.slice (some ⟨t, 0, none⟩) (n + 1) c) ∧ Lst w' t (insL vs n i x) ∧ Kept (· = t) w w' := by
  have h1x : ∀ v ∈ [x], v.oneCell' = true := fun v hv => by simp at hv; subst hv; exact hx
  by_cases hin : i = n
  · subst hin
    obtain ⟨i0, hi0, hz1⟩ : ∃ i0, Tryz.prog.info? 28 = some i0 ∧ i0.size = 1 := by
      rcases h : Tryz.prog.info? 28 with _ | i0
      · have := th_info; rw [h] at this; cases this
      · have := th_info; rw [h] at this; exact ⟨i0, rfl, by simpa using this⟩
    have HR := Lib.hid (fun ty => run_append_room_cells (P := Tryz.prog) w 152 ty 28 i0 Tryz.underlying152 hi0 t 0 i c ⟨vb, 0, none⟩ 1 1 [x] (by rw [hz1]; rfl)
      (fun j u hj => by rw [Addr.add_lit, Lst.at_ hv]; rwa [Nat.zero_add]) h1x (by omega) (fun j hj => Lst.isSome ht (by rw [hz1]; simp at hj; omega)) (fun j hj => Blk.fz ht _))
    rw [hz1] at HR
    have HE := Lib.hid (show Lst (w.setCells t (0 + i * 1) [x]) t (insL vs i i x) ∧ Kept (· = t) w (w.setCells t (0 + i * 1) [x]) by
      rw [Nat.zero_add, Nat.mul_one]
      exact ⟨by rw [← insL_end]; exact Lst.setCells ht i [x] (by simp; omega), Kept.setCells _ _ _ _ _ rfl⟩)
    clear ht hv h1 h1x
    generalize w.setCells t (0 + i * 1) [x] = W at HR HE
    go_enter Tryz.func143, Tryz.ntmps143
    go_wp2_with (at_builtin; refine wpList_app_run rfl _ _ 152 152 rfl _ _ rfl rfl (HR.out _) ?_)
    go_ret
    exact ⟨rfl, HE.out.1, HE.out.2⟩
  · have hlt : i < n := by omega
    obtain ⟨tA, sA⟩ := Lst.shape hv
    obtain ⟨tB, sB⟩ := Lst.shape ht
    have hov : ∀ lb cb, (callFunc 145 #[.slice (some ⟨vb, 0, none⟩) 1 1, .slice (some ⟨t, i + 1, none⟩) lb cb]).run Tryz.prog w = .ok (.value (.bool false)) w := fun lb cb => by
      rw [run_callFunc_extern Tryz.func145 (by kernel_rfl) (by kernel_rfl) (by kernel_rfl) (e := Extern.SlicesOverlaps.overlaps #[152, 152] #[4]) (by kernel_rfl),
        Lib.run_overlaps_apart w 152 4 28 Tryz.underlying152 1 (fun W => by
          rcases h : Tryz.prog.info? 28 with _ | i0
          · have := th_info; rw [h] at this; cases this
          · have := th_info; rw [h] at this; simp [sizeOf, typeInfo, h]; simpa using this) ⟨vb, 0, none⟩ ⟨t, i + 1, none⟩ 1 1 lb cb hne tA tB _ _ sA sB (by omega) (Blk.fz hv _) (Blk.fz hv _)]
      rfl
    obtain ⟨ds, hds⟩ : ∃ ds, ds = (vs.take n).drop i := ⟨_, rfl⟩
    have hdl : ds.length = n - i := by subst hds; simp; omega
    have hcp1 := Lib.hid (fun ty dc sc => copy_lst (P := Tryz.prog) (dT := 152) (sT := 152) ty Tryz.underlying152 th_info (Lst.drew ht) (Lst.drew ht) (i + 1) (n - i) dc i (n + 1 - i) sc (n - i) ds
      (by simp only [Nat.min_def]; split <;> omega) (by rw [hds, List.drop_take]) (by omega) (by omega) h1)
    obtain ⟨W1, hW1⟩ : ∃ W1, W1 = w.drew.setCells t (i + 1) ds := ⟨_, rfl⟩
    have ht1 : Lst W1 t (spl vs (i + 1) ds) := by subst hW1; exact Lst.setCells (Lst.drew ht) _ _ (by omega)
    have hv1 : Lst W1 vb [x] := by subst hW1; exact (Kept.setCells (· = t) w.drew t (i + 1) ds rfl).blk (Lst.drew hv) hne
    have k1 : Kept (· = t) w W1 := by subst hW1; exact (Kept.refl _ _).drew.trans (Kept.setCells _ _ _ _ _ rfl)
    have hcp2 := Lib.hid (fun ty dc => copy_lst (P := Tryz.prog) (dT := 152) (sT := 152) ty Tryz.underlying152 th_info ht1 hv1 i (n + 1 - i) dc 0 1 1 1 [x] (by simp only [Nat.min_def]; split <;> omega) rfl (Nat.le_refl _) (by rw [spl_length (by omega)]; omega) h1x)
    have HE := Lib.hid (show Lst (W1.setCells t i [x]) t (insL vs n i x) ∧ Kept (· = t) w (W1.setCells t i [x]) from
      ⟨by rw [← insL_mid hi (by omega), ← hds]; exact Lst.setCells ht1 i [x] (by rw [spl_length (by omega)]; simp; omega), k1.trans (Kept.setCells _ _ _ _ _ rfl)⟩)
    rw [← hW1] at hcp1
    clear ht hv h1 h1x ht1 hv1 k1 hW1
    generalize W1.setCells t i [x] = W2 at hcp2 HE
    have hb2 : ¬ (c = i + 1) := by omega
    have hb4 : ¬ (c = i) := by omega
    have q1 : IntKind.i64.wrap ((i : Int) + 1) = (i : Int) + 1 := by rw [IntKind.wrap_i64]; omega
    have q2 : (0 : Int) ≤ (i : Int) + 1 := by omega
    have q3 : (i : Int) + 1 ≤ (n : Int) + 1 := by omega
    have q4 : ((i : Int) + 1).toNat = i + 1 := by omega
    have q5 : (i : Int) ≤ (n : Int) + 1 := by omega
    have q6 : ((i : Int)).toNat = i := by omega
    go_enter Tryz.func143, Tryz.ntmps143
    go_wp2_with (simp only [hov])
    go_region_law (refine step_cpy_run rfl (.tmp 73) (.tmp 76) 152 152 rfl (.slice (some ⟨t, i + 1, none⟩) (n - i) (c - (i + 1))) (.slice (some ⟨t, i, none⟩) (n + 1 - i) (c - i)) (by simp [Act.eval, Act.put]) (by simp [Act.eval, Act.put]) (hcp1.out _ _ _) ?_)
    have hcp3 := hcp2.out
    go_wp2
    go_ret
    exact ⟨rfl, HE.out.1, HE.out.2⟩

/-- One less: the one at place i of the first n. -/
def delL {α : Type} (vs : List α) (n i : Nat) (z : α) : List α := vs.take i ++ ((vs.take n).drop (i + 1) ++ z :: vs.drop n)
section
variable {α β : Type} {l : List α} {n i : Nat} {x : α}
end
end Go.Proofs.YtajpipaooaemdaaGreatDoor

namespace Go.Proofs.YtajpipaooaemdaaGreatDoor
open Go.RowKit

section
variable (w : World)
set_option maxRecDepth 100000 in
theorem scopy_nil : Calls Tryz.prog 94 #[.pointer none] w fun e w' => e = .returned (.pointer none) ∧ w' = w := by
  go_enter Tryz.func94, Tryz.ntmps94
  go_wp2_with (go_at_call 106; refine (nobodys_nil _).mono ?_; rintro e w' ⟨rfl, rfl⟩)
  go_ret
  exact ⟨rfl, rfl⟩
set_option maxRecDepth 100000 in
theorem sget_nil (b : Int) : Calls Tryz.prog 135 #[.pointer none, .int .u8 b] w fun e w' => e = .returned (.tuple #[ev none, .bool false]) ∧ w' = w := by
  go_enter Tryz.func135, Tryz.ntmps135
  go_wp2_with (go_at_call 141; refine (place_nil _ _).mono ?_; rintro e w' ⟨rfl, rfl⟩)
  go_ret2
  exact ⟨rfl, rfl⟩
set_option maxRecDepth 100000 in
theorem snext_nil (a : Int) : Calls Tryz.prog 137 #[.pointer none, .int .i64 a] w fun e w' => e = .returned (entV none) ∧ w' = w := by
  by_cases h1 : 255 < a
  all_goals
    go_enter Tryz.func137, Tryz.ntmps137
    go_wp2_with (first | (go_at_call 141; refine (place_nil _ _).mono ?_; rintro e w' ⟨rfl, rfl⟩) | (go_at_call 142; refine (at_nil _ _).mono ?_; rintro e w' ⟨rfl, rfl⟩))
  all_goals
    go_ret3
    exact ⟨rfl, rfl⟩
end

section
variable {w : World} {g c : Nat} {es : List Ent} {A : Option Addr}
end

set_option maxRecDepth 100000 in
theorem int_info : (Tryz.prog.info? 28).map (fun i => (i.zero, i.size, i.bytes)) = some (some (.pointer none), 1, 8) := by kernel_rfl
set_option maxRecDepth 100000 in
/-- make([]int, 0, k). -/
theorem make_things (k : Nat) (hk : k ≤ 16) (w : World) :
    (Instr.makeSlice 152 (.int .i64 0) (.int .i64 (k : Int))).run Tryz.prog w = .ok (.slice (some ⟨w.heap.size, 0, none⟩) 0 k) (w.alloc (.cells ((List.replicate k (none : Th)).map ev).toArray 28)) := by
  obtain ⟨i0, hi0, hz0, hz1, hz2⟩ := info_parts int_info
  have h := run_make (P := Tryz.prog) w 152 28 i0 (.pointer none) Tryz.underlying152 hi0 hz0 .i64 .i64 (0 : Int) (k : Int) (by omega) (by omega) (by rw [hz2]; omega) (by omega)
  rw [Int.toNat_natCast] at h
  have e1 : madeCells (.pointer none : Value).cells (k * i0.size) = ((List.replicate k (none : Th)).map ev).toArray := by
    rw [hz1, Nat.mul_one]
    apply Array.ext'
    simp [madeCells, Value.cells, Nat.mod_one, List.map_const']
  rw [e1] at h
  exact h

theorem Sm.first (w : World) (room : Nat) (h1 : 1 ≤ room) (h2 : room ≤ 16) :
    Sm ((w.alloc (.cells ((List.replicate room (none : Th)).map ev).toArray 28)).alloc (.cells #[.int .i64 (room : Int), .int .u8 0, .int .u8 0, .int .u8 0, .int .u8 0, .int .u8 0, .int .u8 0, .int .u8 0, .int .u8 0, .int .u8 0, .int .u8 0, .int .u8 0, .int .u8 0, .int .u8 0, .int .u8 0, .int .u8 0, .int .u8 0, .slice (some ⟨w.heap.size, 0, none⟩) 0 room] 154)) (w.heap.size + 1) w.heap.size room [] := by
  refine ⟨Up.nil, Nat.zero_le _, h1, h2, by omega, ⟨List.replicate 16 0, rfl, rfl, ?_⟩, ⟨List.replicate room (none : Th), by simp, rfl, ?_⟩⟩
  · have := Blk.new (w.alloc (.cells ((List.replicate room (none : Th)).map ev).toArray 28)) 154 #[.int .i64 (room : Int), .int .u8 0, .int .u8 0, .int .u8 0, .int .u8 0, .int .u8 0, .int .u8 0, .int .u8 0, .int .u8 0, .int .u8 0, .int .u8 0, .int .u8 0, .int .u8 0, .int .u8 0, .int .u8 0, .int .u8 0, .int .u8 0, .slice (some ⟨w.heap.size, 0, none⟩) 0 room]
    rw [World.size_alloc] at this
    exact this
  · exact (Blk.new w _ _).alloc _

set_option maxRecDepth 100000 in
theorem snew_yes (w : World) (room : Nat) (h1 : 1 ≤ room) (h2 : room ≤ 16) : Calls Tryz.prog 111 #[.int .i64 (room : Int)] w fun e w' =>
    e = .returned (.tuple #[.pointer (some ⟨w.heap.size + 1, 0, none⟩), .int .i64 0]) ∧ Sm w' (w.heap.size + 1) w.heap.size room [] ∧ Below w.heap.size w w' := by
  have HE := Lib.hid (Sm.first w room h1 h2)
  have hm := make_things room h2 w
  generalize hcs : ((List.replicate room (none : Th)).map ev).toArray = cs at hm HE
  clear hcs
  have q1 : ¬ ((room : Int) < 1) := by omega
  have q2 : ¬ ((16 : Int) < (room : Int)) := by omega
  go_enter Tryz.func111, Tryz.ntmps111
  go_wp2
  go_ret2
  exact ⟨rfl, HE.out, ((Below.refl _ _).alloc (Nat.le_refl _) _).alloc (by simp) _⟩
end Go.Proofs.YtajpipaooaemdaaGreatDoor

namespace Go.Proofs.YtajpipaooaemdaaGreatDoor
open Go.RowKit

/-- The cells of a row's own block. -/
def hdL (room : Nat) (bs : List UInt8) (t n : Nat) : List Value := .int .i64 (room : Int) :: (bs.map (fun u => Value.int .u8 (u.toNat : Int)) ++ [.slice (some ⟨t, 0, none⟩) n room])
theorem hdL_length {room t n : Nat} {bs : List UInt8} (hb : bs.length = 16) : (hdL room bs t n).length = 18 := by simp [hdL, hb]
theorem hdL_one {room t n : Nat} {bs : List UInt8} : ∀ v ∈ hdL room bs t n, v.oneCell' = true := by
  intro v hv
  simp only [hdL, List.mem_cons, List.mem_append, List.mem_map, List.not_mem_nil, or_false] at hv
  rcases hv with rfl | ⟨u, _, rfl⟩ | rfl <;> rfl
theorem hdL_bytes {room t n k m : Nat} {bs : List UInt8} (hb : bs.length = 16) (hk : k + m ≤ 16) : ((hdL room bs t n).drop (1 + k)).take m = ((bs.drop k).take m).map (fun u => Value.int .u8 (u.toNat : Int)) := by
  simp only [hdL]
  rw [Nat.add_comm 1 k, List.drop_succ_cons, List.drop_append_of_le_length (by simp [hb]; omega), List.take_append_of_le_length (by simp [hb]; omega), ← List.map_drop, ← List.map_take]
theorem hdL_spl {room t n k : Nat} {bs cs : List UInt8} (hb : bs.length = 16) (hk : k + cs.length ≤ 16) : spl (hdL room bs t n) (1 + k) (cs.map (fun u => Value.int .u8 (u.toNat : Int))) = hdL room (bs.take k ++ cs ++ bs.drop (k + cs.length)) t n := by
  simp only [spl, hdL, List.length_map]
  rw [Nat.add_comm 1 k, List.take_succ_cons, show k + 1 + cs.length = (k + cs.length) + 1 from by omega, List.drop_succ_cons, List.take_append_of_le_length (by simp [hb]; omega), List.drop_append_of_le_length (by simp [hb]; omega)]
  simp [List.map_take, List.map_drop]
theorem hdL_set {room t n k : Nat} {bs : List UInt8} {b : UInt8} (hb : bs.length = 16) (hk : k < 16) : (hdL room bs t n).set (1 + k) (.int .u8 (b.toNat : Int)) = hdL room (bs.set k b) t n := by
  simp only [hdL]
  rw [Nat.add_comm 1 k, List.set_cons_succ, List.set_append_left _ _ (by simp [hb]; omega), List.map_set]
theorem hdL_slice {room t n m : Nat} {bs : List UInt8} (hb : bs.length = 16) : (hdL room bs t n).set 17 (.slice (some ⟨t, 0, none⟩) m room) = hdL room bs t m := by
  simp only [hdL]
  rw [List.set_cons_succ, List.set_append_right _ _ (by simp [hb])]
  simp [hb]
theorem Sm.of {w : World} {g t room : Nat} {es : List Ent} (up : Up es) (few : es.length ≤ room) (lo : 1 ≤ room) (most : room ≤ 16) (ne : g ≠ t) {n : Nat} (hn : n = es.length) {bs : List UInt8} (hb : bs.length = 16) (hbt : bs.take n = es.map (·.1)) (hh : Lst w g (hdL room bs t n))
    {vs : List Th} (hv : vs.length = room) (hvt : vs.take n = es.map (·.2)) (hl : Lst w t (vs.map ev)) : Sm w g t room es := by
  subst hn
  exact ⟨up, few, lo, most, ne, ⟨bs, hb, hbt, hh⟩, ⟨vs, hv, hvt, hl⟩⟩
theorem set_ins {α : Type} {l : List α} {n p : Nat} {b : α} (hp : p ≤ n) (hn : n < l.length) : (l.take (p + 1) ++ (l.drop p).take (n - p) ++ l.drop (n + 1)).set p b = insL l n p b := by
  rw [List.append_assoc, List.set_append_left _ _ (by simp; omega), List.take_set.symm]
  unfold insL
  have e1 : (l.set p b).take (p + 1) = l.take p ++ [b] := by
    rw [List.take_add_one, List.take_set, List.set_eq_of_length_le (by simp; omega), List.getElem?_set]
    simp; omega
  rw [e1, List.drop_take]
  simp
theorem ev_one {vs : List Th} : ∀ v ∈ vs.map ev, v.oneCell' = true := by
  intro v hv
  obtain ⟨x, _, rfl⟩ := List.mem_map.1 hv
  rfl

section
variable {w : World} {g t room : Nat} {es : List Ent}
set_option maxRecDepth 100000 in
theorem sset_has (h : Sm w g t room es) (b : UInt8) (x : Th) (hb : hasE es b.toNat = true) : Calls Tryz.prog 140 #[.pointer (some ⟨g, 0, none⟩), .int .u8 (b.toNat : Int), ev x] w fun e w' =>
    e = .returned (.int .i64 0) ∧ Sm w' g t room (setE es b x) ∧ Kept (fun k => k = g ∨ k = t) w w' := by
  have C := Lib.hid (nobodys_any h.rd)
  have D := Lib.hid (place_any h.rd b)
  obtain ⟨a, ha, hab, _, hlt⟩ := has_at hb
  rw [hb] at D
  have hr : ¬ (room = 0) := by have := h.lo; omega
  rw [decide_eq_false hr] at C
  have hsl := h.rd.sl
  obtain ⟨bs, hbl, hbt, hh⟩ := h.head
  obtain ⟨vs, hvl, hvt, hl⟩ := h.things
  have hfew := Nat.le_trans h.few h.most
  have hp : pos es b.toNat < room := Nat.lt_of_lt_of_le hlt h.few
  obtain ⟨v0, hc⟩ : ∃ v0, w.cell? ⟨t, pos es b.toNat, none⟩ = some v0 := Option.isSome_iff_exists.1 (Lst.isSome hl (by simp; omega))
  have hz : w.frozen? ⟨t, pos es b.toNat, none⟩ = false := Blk.fz hl _
  have HE := Lib.hid (fun q => show Sm ((w.drewN q).setCell ⟨t, pos es b.toNat, none⟩ (ev x)) g t room (setE es b x) ∧ Kept (fun k => k = g ∨ k = t) w ((w.drewN q).setCell ⟨t, pos es b.toNat, none⟩ (ev x)) by
    have hlen : (setE es b x).length = es.length := by rw [set_length, if_pos hb]
    have hs : setE es b x = es.set (pos es b.toNat) (b, x) := by unfold setE; rw [if_pos hb]
    refine ⟨Sm.of (n := es.length) (set_up h.up b x) (by rw [hlen]; exact h.few) h.lo h.most h.ne hlen.symm hbl ?_ ?_ (vs := vs.set (pos es b.toNat) x) (by simpa using hvl) ?_ ?_, (Kept.refl _ _).drewN q |>.trans (Kept.set_ _ _ _ (.inr rfl))⟩
    · rw [hs, List.map_set, hbt]
      have ha' : (es.map (·.1))[pos es b.toNat]? = some b := by rw [List.getElem?_map, ha]; exact congrArg some (UInt8.toNat.inj hab)
      apply List.ext_getElem?
      intro i
      rw [List.getElem?_set]
      split
      · rename_i q; subst q; rw [ha']; simp [hlt]
      · rfl
    · exact (Kept.set_ (D := (· = t)) (w.drewN q) ⟨t, pos es b.toNat, none⟩ (ev x) rfl).blk (show Lst (w.drewN q) g (hdL room bs t es.length) from hh) h.ne
    · rw [hs, List.map_set, ← hvt, List.take_set]
    · rw [List.map_set]; exact Lst.set1 (show Lst (w.drewN q) t (vs.map ev) from hl) _ _)
  clear h hl hh hvt hbt ha hab hb
  generalize hpp : pos es b.toNat = p at D hc hz HE hlt
  generalize hnn : es.length = n at hsl hlt hfew
  clear hpp hnn
  go_enter Tryz.func140, Tryz.ntmps140
  go_wp2_with fail
  (with_reducible refine C.out.mono ?_)
  rintro e w' ⟨rfl, rfl⟩
  go_wp2_with fail
  (with_reducible refine D.out.mono ?_)
  rintro e w' ⟨rfl, q, rfl⟩
  go_wp2
  go_ret
  exact ⟨rfl, (HE.out q).1, (HE.out q).2⟩

set_option maxRecDepth 100000 in
theorem sset_full (h : Sm w g t room es) (b : UInt8) (x : Th) (hb : hasE es b.toNat = false) (hf : es.length = room) : Calls Tryz.prog 140 #[.pointer (some ⟨g, 0, none⟩), .int .u8 (b.toNat : Int), ev x] w fun e w' =>
    e = .returned (.int .i64 10) ∧ Still w w' := by
  have C := Lib.hid (nobodys_any h.rd)
  have D := Lib.hid (place_any h.rd b)
  rw [hb] at D
  have hr : ¬ (room = 0) := by have := h.lo; omega
  rw [decide_eq_false hr] at C
  have hsl := h.rd.sl
  have hro := h.rd.room
  rw [hf] at hsl
  clear h hb hf
  generalize pos es b.toNat = p at D
  go_enter Tryz.func140, Tryz.ntmps140
  go_wp2_with fail
  (with_reducible refine C.out.mono ?_)
  rintro e w' ⟨rfl, rfl⟩
  go_wp2_with fail
  (with_reducible refine D.out.mono ?_)
  rintro e w' ⟨rfl, q, rfl⟩
  go_wp2
  go_ret
  exact ⟨rfl, ⟨_, rfl⟩⟩

set_option maxHeartbeats 1000000 in
set_option maxRecDepth 100000 in
theorem sset_more (h : Sm w g t room es) (b : UInt8) (x : Th) (hb : hasE es b.toNat = false) (hf : es.length < room) : Calls Tryz.prog 140 #[.pointer (some ⟨g, 0, none⟩), .int .u8 (b.toNat : Int), ev x] w fun e w' =>
    e = .returned (.int .i64 0) ∧ Sm w' g t room (setE es b x) ∧ Kept (fun k => k = g ∨ k = t) w w' := by
  have C := Lib.hid (nobodys_any h.rd)
  have D := Lib.hid (place_any h.rd b)
  have HP := Lib.hid (pos_le es b.toNat)
  have HS := Lib.hid (show setE es b x = es.take (pos es b.toNat) ++ (b, x) :: es.drop (pos es b.toNat) by unfold setE; rw [hb, if_neg (by simp)])
  have HL := Lib.hid (show (setE es b x).length = es.length + 1 by rw [set_length, hb]; rfl)
  rw [hb] at D
  have hr : ¬ (room = 0) := by have := h.lo; omega
  rw [decide_eq_false hr] at C
  have HH := Lib.hid h
  clear h
  generalize hpp : pos es b.toNat = p at D HP HS
  go_enter Tryz.func140, Tryz.ntmps140
  go_wp2_with fail
  (with_reducible refine C.out.mono ?_)
  rintro e w' ⟨rfl, rfl⟩
  go_wp2_with fail
  (with_reducible refine D.out.mono ?_)
  rintro e W ⟨rfl, hst⟩
  have hW := HH.out.still hst
  have KW := Lib.hid (show Kept (fun k => k = g ∨ k = t) w' W by obtain ⟨q, rfl⟩ := hst; exact (Kept.refl _ _).drewN q)
  have hsl := hW.rd.sl
  have hro := hW.rd.room
  obtain ⟨bs, hbl, hbt, hh⟩ := hW.head
  obtain ⟨vs, hvl, hvt, hl⟩ := hW.things
  have hmost := hW.most
  have hne := hW.ne
  have hfew := hW.few
  have UP := Lib.hid hW.up
  have LO := Lib.hid hW.lo
  obtain ⟨n, hn⟩ : ∃ n, es.length = n := ⟨_, rfl⟩
  have HN := Lib.hid hn
  have hpn : p ≤ n := by have := HP.out; omega
  rw [hn] at hsl hbt hh hvt hf
  change Lst W g (hdL room bs t n) at hh
  have hnr : ¬ ((n : Int) = (room : Int)) := by omega
  clear hW hst hpp hn C D hb hfew
  obtain ⟨cs, hcs⟩ : ∃ cs, cs = (bs.drop p).take (n - p) := ⟨_, rfl⟩
  have hcl : cs.length = n - p := by subst hcs; simp [hbl]; omega
  have b1 : ∀ V, (Instr.sliceAt 151 (.pointer (some ⟨g, 1, none⟩)) (some (.int .i64 ((p : Int) + 1))) none none).run Tryz.prog V = .ok (.slice (some ⟨g, if 16 = p + 1 then 1 else 1 + (p + 1), none⟩) (16 - (p + 1)) (16 - (p + 1))) V := fun V => by
    rw [show ((p : Int) + 1) = ((p + 1 : Nat) : Int) by omega]
    exact bytes_l g (p + 1) (by omega) V
  have b2 := bytes_lh g p n hpn (by omega)
  rw [if_neg (show ¬ (16 = p) by omega)] at b2
  obtain ⟨od, hod⟩ : ∃ od, od = if 16 = p + 1 then 1 else 1 + (p + 1) := ⟨_, rfl⟩
  rw [← hod] at b1
  have hod1 : n - p ≠ 0 → od = 1 + (p + 1) := fun q => by subst hod; rw [if_neg (by omega)]
  have hod2 : od + (n - p) ≤ 18 := by
    by_cases q : n - p = 0
    · rw [q]; subst hod; split <;> omega
    · rw [hod1 q]; omega
  have hcp := Lib.hid (fun ty dc sc => copy_lst (P := Tryz.prog) (dT := 23) (sT := 23) (e := 5) ty Tryz.underlying23 (by kernel_rfl) (Lst.drew hh) (Lst.drew hh) od (16 - (p + 1)) dc (1 + p) (n - p) sc (n - p) (cs.map (fun u => Value.int .u8 (u.toNat : Int)))
    (by simp only [Nat.min_def]; split <;> omega) (by rw [hcs]; exact (hdL_bytes hbl (by omega)).symm) (by rw [hdL_length hbl]; omega) (by rw [hdL_length hbl]; omega) hdL_one)
  obtain ⟨W1, hW1⟩ : ∃ W1, W1 = W.drew.setCells g od (cs.map (fun u => Value.int .u8 (u.toNat : Int))) := ⟨_, rfl⟩
  obtain ⟨bs1, hbs1⟩ : ∃ bs1, bs1 = bs.take (p + 1) ++ cs ++ bs.drop (p + 1 + cs.length) := ⟨_, rfl⟩
  have hb1l : bs1.length = 16 := by subst hbs1; simp [hbl]; omega
  have hh1 : Lst W1 g (hdL room bs1 t n) := by
    subst hW1 hbs1
    by_cases q : n - p = 0
    · have : cs = [] := List.eq_nil_of_length_eq_zero (by omega)
      subst this
      simp only [List.map_nil, World.setCells, List.append_nil, List.length_nil, Nat.add_zero, List.take_append_drop]
      exact Lst.drew hh
    · rw [hod1 q, ← hdL_spl hbl (by omega)]
      exact Lst.setCells (Lst.drew hh) _ _ (by rw [hdL_length hbl]; simp; omega)
  have hl1 : Lst W1 t (vs.map ev) := by subst hW1; exact (Kept.setCells (· = g) W.drew g od _ rfl).blk (Lst.drew hl) (fun q => hne q.symm)
  have K1 := Lib.hid (show Kept (fun k => k = g ∨ k = t) w' W1 by subst hW1; exact KW.out.trans (((Kept.refl _ _).drew).trans (Kept.setCells _ _ _ _ _ (.inl rfl))))
  rw [← hW1] at hcp
  obtain ⟨v1, hc1⟩ : ∃ v1, W1.cell? ⟨g, 1 + p, none⟩ = some v1 := Option.isSome_iff_exists.1 (Lst.isSome hh1 (by rw [hdL_length hb1l]; omega))
  have hz1 : W1.frozen? ⟨g, 1 + p, none⟩ = false := Blk.fz hh1 _
  have hs1 : W1.cell? ⟨g, 17, none⟩ = some (.slice (some ⟨t, 0, none⟩) n room) := by rw [Lst.at_ hh1]; simp [hdL, hb1l]
  have q17 : ¬ (1 + p = 17) := by omega
  have q1 : IntKind.i64.wrap ((p : Int) + 1) = (p : Int) + 1 := by rw [IntKind.wrap_i64]; omega
  have q16 : p < 16 := by omega
  have HH1 := Lib.hid hh1
  have HL1 := Lib.hid hl1
  have HBS := Lib.hid hbs1
  have HCS := Lib.hid hcs
  have HBT := Lib.hid hbt
  have HVT := Lib.hid hvt
  have HVL := Lib.hid hvl
  have HBL := Lib.hid hbl
  have HB1L := Lib.hid hb1l
  clear hh hl hh1 hl1 hW1 hod hod1 hod2 hbs1 hcs hbt hvt hvl hbl hb1l hcl
  go_wp2_with fail
  go_region_law (refine step_cpy_run rfl (.tmp 44) (.tmp 50) 23 23 rfl (.slice (some ⟨g, od, none⟩) (16 - (p + 1)) (16 - (p + 1))) (.slice (some ⟨g, 1 + p, none⟩) (n - p) (16 - p)) (by simp [Act.eval, Act.put]) (by simp [Act.eval, Act.put]) (hcp.out _ _ _) ?_)
  go_wp2_with fail
  have k2 : Kept (· = g) W1 (W1.setCell ⟨g, 1 + p, none⟩ (.int .u8 (b.toNat : Int))) := Kept.set_ _ _ _ rfl
  have hh2 : Lst (W1.setCell ⟨g, 1 + p, none⟩ (.int .u8 (b.toNat : Int))) g (hdL room (bs1.set p b) t n) := by rw [← hdL_set HB1L.out q16]; exact Lst.set1 HH1.out _ _
  have hl2 : Lst (W1.setCell ⟨g, 1 + p, none⟩ (.int .u8 (b.toNat : Int))) t (vs.map ev) := k2.blk HL1.out (fun q => hne q.symm)
  obtain ⟨W2, hW2⟩ : ∃ W2, W2 = W1.setCell ⟨g, 1 + p, none⟩ (.int .u8 (b.toNat : Int)) := ⟨_, rfl⟩
  have hs2 : W2.heap.size = W1.heap.size := by subst hW2; simp
  rw [← hW2] at k2 hh2 hl2 ⊢
  rw [← hs2]
  have K2 := Lib.hid (K1.out.trans (k2.mono (fun q hq => Or.inl hq)))
  clear hW2 k2 hc1 hz1 hs1
  (with_reducible refine (insert_any t n room p W2.heap.size (vs.map ev) (ev x) _ (Blk.alloc hl2 _) (Blk.new W2 28 #[ev x]) (by have := Blk.lt hl2; omega) hpn hf hmost (by simpa using HVL.out) ev_one rfl).mono ?_)
  rintro e w4 ⟨rfl, h4, k4⟩
  have hh4 : Lst w4 g (hdL room (bs1.set p b) t n) := k4.blk (Blk.alloc hh2 _) hne
  have hs4 : w4.cell? ⟨g, 17, none⟩ = some (.slice (some ⟨t, 0, none⟩) n room) := by rw [Lst.at_ hh4]; simp [hdL, HB1L.out]
  have hz4 : w4.frozen? ⟨g, 17, none⟩ = false := Blk.fz hh4 _
  have HE := Lib.hid (show Sm (w4.setCell ⟨g, 17, none⟩ (.slice (some ⟨t, 0, none⟩) (n + 1) room)) g t room (setE es b x) ∧ Kept (fun k => k = g ∨ k = t) w' (w4.setCell ⟨g, 17, none⟩ (.slice (some ⟨t, 0, none⟩) (n + 1) room)) by
    have k5 := Kept.set_ (D := (· = g)) w4 ⟨g, 17, none⟩ (.slice (some ⟨t, 0, none⟩) (n + 1) room) rfl
    have hset : bs1.set p b = insL bs n p b := by
      have hb1 := HBS.out
      rw [HCS.out] at hb1
      rw [hb1, show ((bs.drop p).take (n - p)).length = n - p from by simp [HBL.out]; omega, show p + 1 + (n - p) = n + 1 from by omega]
      exact set_ins hpn (by have := HBL.out; omega)
    rw [hset] at hh4
    refine ⟨Sm.of (n := n + 1) (set_up UP.out b x) (by rw [HL.out, HN.out]; omega) LO.out hmost hne (by rw [HL.out, HN.out]) (bs := insL bs n p b) (by rw [insL_length hpn (by have := HBL.out; omega)]; exact HBL.out) ?_ ?_ (vs := insL vs n p x) (by rw [insL_length hpn (by have := HVL.out; omega)]; exact HVL.out) ?_ ?_, ?_⟩
    · rw [insL_take hpn (by have := HBL.out; omega), HBT.out, HS.out]; simp [List.map_take, List.map_drop]
    · rw [← hdL_slice (by rw [insL_length hpn (by have := HBL.out; omega)]; exact HBL.out)]; exact Lst.set1 hh4 _ _
    · rw [insL_take hpn (by have := HVL.out; omega), HVT.out, HS.out]; simp [List.map_take, List.map_drop]
    · rw [insL_map]; exact k5.blk h4 (fun q => hne q.symm)
    · exact ((K2.out.trans (Kept.of_below ((Below.refl _ _).alloc (Nat.le_refl _) _))).trans (k4.mono (fun q hq => Or.inr hq))).trans (k5.mono (fun q hq => Or.inl hq)))
  clear hh4 h4 k4 hh2 hl2
  go_wp2
  go_ret
  exact ⟨rfl, HE.out.1, HE.out.2⟩

end
end Go.Proofs.YtajpipaooaemdaaGreatDoor

namespace Go.Proofs.YtajpipaooaemdaaGreatDoor
open Go.RowKit

theorem size_setCells (w : World) (g o : Nat) (vs : List Value) : (w.setCells g o vs).heap.size = w.heap.size := by
  induction vs generalizing w o with
  | nil => rfl
  | cons v r ih => rw [World.setCells, ih]; simp
set_option maxRecDepth 100000 in
theorem row_info : (Tryz.prog.info? 154).map (·.size) = some 18 := by kernel_rfl

set_option maxHeartbeats 1000000 in
set_option maxRecDepth 100000 in
theorem scopy_any {w : World} {g t room : Nat} {es : List Ent} (h : Sm w g t room es) : Calls Tryz.prog 94 #[.pointer (some ⟨g, 0, none⟩)] w fun e w' =>
    e = .returned (.pointer (some ⟨w.heap.size, 0, none⟩)) ∧ Sm w' w.heap.size (w.heap.size + 1) room es ∧ Below w.heap.size w w' := by
  have C := Lib.hid (nobodys_any h.rd)
  have hr : ¬ (room = 0) := by have := h.lo; omega
  rw [decide_eq_false hr] at C
  obtain ⟨hg, ht⟩ := h.lt
  obtain ⟨bs, hbl, hbt, hh⟩ := h.head
  obtain ⟨vs, hvl, hvt, hl⟩ := h.things
  have hmost := h.most
  have hfew := h.few
  obtain ⟨n, hn⟩ : ∃ n, es.length = n := ⟨_, rfl⟩
  have HN := Lib.hid hn
  have HP := Lib.hid (And.intro h.up (And.intro h.lo h.ne))
  rw [hn] at hbt hh hvt hfew
  change Lst w g (hdL room bs t n) at hh
  clear hn h
  have h18 := hdL_length (room := room) (t := t) (n := n) hbl
  have HR := Lib.hid (Lst.all hh)
  have H18 := Lib.hid (show (Tryz.prog.info? 154).map (·.size) = some (hdL room bs t n).length by rw [h18]; exact row_info)
  have H18' := Lib.hid (show (Tryz.prog.info? 154).map (·.size) = some (hdL room bs t n).toArray.size by rw [List.size_toArray, h18]; exact row_info)
  -- the block that the copy is laid into
  have HZ := Lib.hid (Blk.new w 154 #[.int .i64 0, .int .u8 0, .int .u8 0, .int .u8 0, .int .u8 0, .int .u8 0, .int .u8 0, .int .u8 0, .int .u8 0, .int .u8 0, .int .u8 0, .int .u8 0, .int .u8 0, .int .u8 0, .int .u8 0, .int .u8 0, .int .u8 0, .slice none 0 0])
  have HT := Lib.hid (Lst.there HZ.out (o := 0) (n := (hdL room bs t n).toArray.size) (by rw [List.size_toArray, h18]; exact Nat.le_refl _))
  obtain ⟨W1, hW1⟩ : ∃ W1, W1 = (w.alloc (.cells #[.int .i64 0, .int .u8 0, .int .u8 0, .int .u8 0, .int .u8 0, .int .u8 0, .int .u8 0, .int .u8 0, .int .u8 0, .int .u8 0, .int .u8 0, .int .u8 0, .int .u8 0, .int .u8 0, .int .u8 0, .int .u8 0, .int .u8 0, .slice none 0 0] 154)).setCells w.heap.size 0 (hdL room bs t n).toArray.toList := ⟨_, rfl⟩
  have hh1 : Lst W1 w.heap.size (hdL room bs t n) := by
    subst hW1
    have := Lst.setCells HZ.out 0 (hdL room bs t n) (by rw [h18]; exact Nat.le_refl _)
    have e : spl [.int .i64 0, .int .u8 0, .int .u8 0, .int .u8 0, .int .u8 0, .int .u8 0, .int .u8 0, .int .u8 0, .int .u8 0, .int .u8 0, .int .u8 0, .int .u8 0, .int .u8 0, .int .u8 0, .int .u8 0, .int .u8 0, .int .u8 0, .slice none 0 0] 0 (hdL room bs t n) = hdL room bs t n := by
      unfold spl
      rw [h18]
      simp
    rw [e] at this
    exact this
  have k1 : Kept (· = w.heap.size) w W1 := by subst hW1; exact (Kept.of_below ((Below.refl _ _).alloc (Nat.le_refl _) _)).trans (Kept.setCells _ _ _ _ _ rfl)
  have hg1 : Lst W1 g (hdL room bs t n) := k1.blk hh (by omega)
  have hl1 : Lst W1 t (vs.map ev) := k1.blk hl (by omega)
  have hs1 : W1.heap.size = w.heap.size + 1 := by
    subst hW1
    rw [size_setCells, World.size_alloc]
  have HW1 := Lib.hid hW1
  clear hW1 hh hl
  -- the things' copy
  obtain ⟨i0, hi0, hz0, hz1, hz2⟩ := info_parts int_info
  obtain ⟨W2, hW2⟩ : ∃ W2, W2 = W1.drew.alloc (.cells ((List.replicate room (none : Th)).map ev).toArray 28) := ⟨_, rfl⟩
  have ht2 : Lst W2 (w.heap.size + 1) ((List.replicate room (none : Th)).map ev) := by subst hW2; have := Blk.new W1.drew 28 ((List.replicate room (none : Th)).map ev).toArray; rw [show W1.drew.heap.size = w.heap.size + 1 from hs1] at this; exact this
  have k2 : Kept (fun _ => False) W1 W2 := by subst hW2; exact (Kept.refl _ _).drew.trans (Kept.of_below ((Below.refl _ _).alloc (Nat.le_refl _) _))
  have hg2 : Lst W2 g (hdL room bs t n) := k2.blk hg1 (fun q => q)
  have hh2 : Lst W2 w.heap.size (hdL room bs t n) := k2.blk hh1 (fun q => q)
  have hl2 : Lst W2 t (vs.map ev) := k2.blk hl1 (fun q => q)
  obtain ⟨ns, hns⟩ : ∃ ns, ns = (vs.take n).map ev := ⟨_, rfl⟩
  have hnl : ns.length = n := by subst hns; simp; omega
  have HA := Lib.hid (fun ty c => run_append_room_cells (P := Tryz.prog) W2 152 ty 28 i0 Tryz.underlying152 hi0 (w.heap.size + 1) 0 0 room ⟨t, 0, none⟩ n c ns (by rw [hz1]; omega)
    (fun j u hj => by
      rw [Addr.add_lit, Lst.at_ hl2, Nat.zero_add]
      subst hns
      rw [List.map_take, List.getElem?_take] at hj
      split at hj
      · exact hj
      · cases hj) (fun u hu => by subst hns; exact ev_one u hu) (by omega) (fun j hj => Lst.isSome ht2 (by rw [hz1]; simp; omega)) (fun j hj => Blk.fz ht2 _))
  rw [Nat.zero_mul, Nat.zero_add, Nat.zero_add] at HA
  obtain ⟨W3, hW3⟩ : ∃ W3, W3 = W2.setCells (w.heap.size + 1) 0 ns := ⟨_, rfl⟩
  have k3 : Kept (· = w.heap.size + 1) W2 W3 := by subst hW3; exact Kept.setCells _ _ _ _ _ rfl
  have ht3 : Lst W3 (w.heap.size + 1) ((vs.take n ++ List.replicate (room - n) (none : Th)).map ev) := by
    subst hW3
    have := Lst.setCells ht2 0 ns (by rw [hnl]; simp; omega)
    have e : spl ((List.replicate room (none : Th)).map ev) 0 ns = (vs.take n ++ List.replicate (room - n) (none : Th)).map ev := by
      unfold spl
      rw [hnl, hns]
      simp
    rw [e] at this
    exact this
  have hh3 : Lst W3 w.heap.size (hdL room bs t n) := k3.blk hh2 (by omega)
  rw [← hW3] at HA
  have hc3 : W3.cell? ⟨w.heap.size, 17, none⟩ = some (.slice (some ⟨t, 0, none⟩) n room) := by rw [Lst.at_ hh3]; simp [hdL, hbl]
  have hz3 : W3.frozen? ⟨w.heap.size, 17, none⟩ = false := Blk.fz hh3 _
  have HE := Lib.hid (show Sm (W3.setCell ⟨w.heap.size, 17, none⟩ (.slice (some ⟨w.heap.size + 1, 0, none⟩) n room)) w.heap.size (w.heap.size + 1) room es ∧ Below w.heap.size w (W3.setCell ⟨w.heap.size, 17, none⟩ (.slice (some ⟨w.heap.size + 1, 0, none⟩) n room)) by
    have k4 := Kept.set_ (D := (· = w.heap.size)) W3 ⟨w.heap.size, 17, none⟩ (.slice (some ⟨w.heap.size + 1, 0, none⟩) n room) rfl
    refine ⟨Sm.of (n := n) HP.out.1 (by rw [HN.out]; exact hfew) HP.out.2.1 hmost (by omega) HN.out.symm (bs := bs) hbl hbt ?_ (vs := vs.take n ++ List.replicate (room - n) (none : Th)) (by simp; omega) (by rw [List.take_append_of_le_length (by simp; omega), List.take_take, Nat.min_self]; exact hvt) ?_, ?_⟩
    · have := Lst.set1 hh3 17 (.slice (some ⟨w.heap.size + 1, 0, none⟩) n room)
      have e : (hdL room bs t n).set 17 (.slice (some ⟨w.heap.size + 1, 0, none⟩) n room) = hdL room bs (w.heap.size + 1) n := by
        simp only [hdL]
        rw [List.set_cons_succ, List.set_append_right _ _ (by simp [hbl])]
        simp [hbl]
      rw [e] at this
      exact this
    · exact k4.blk ht3 (by omega)
    · exact ((((k1.mono (D' := fun k => w.heap.size ≤ k) (fun q hq => by omega)).trans (k2.mono (fun q hq => hq.elim))).trans (k3.mono (fun q hq => by omega))).trans (k4.mono (fun q hq => by omega))).below (Nat.le_refl _) (fun q hq => hq))
  have hm1 := make_things room hmost W1.drew
  rw [← hW2, show W1.drew.heap.size = w.heap.size + 1 from hs1] at hm1
  have hgr : W1.cell? ⟨g, 0, none⟩ = some (.int .i64 (room : Int)) := by rw [Lst.at_ hg1]; rfl
  have hgs : W1.cell? ⟨g, 17, none⟩ = some (.slice (some ⟨t, 0, none⟩) n room) := by rw [Lst.at_ hg1]; simp [hdL, hbl]
  have hgs2 : W2.cell? ⟨g, 17, none⟩ = some (.slice (some ⟨t, 0, none⟩) n room) := by rw [Lst.at_ hg2]; simp [hdL, hbl]
  have ONE := Lib.hid (all_oneCell_toArray (hdL_one (room := room) (bs := bs) (t := t) (n := n)))
  clear hg1 hl1 hh1 ht2 k1 k2 hg2 hh2 hl2 hns hnl hW2 hW3 k3 ht3 hh3 hbt hvt hvl hbl h18 hz0 hz1 hz2 hi0
  generalize hdL room bs t n = hd at HR H18 H18' HT HW1 ONE
  go_enter Tryz.func94, Tryz.ntmps94
  go_wp2_with fail
  (with_reducible refine C.out.mono ?_)
  rintro e w' ⟨rfl, rfl⟩
  go_wp2_with (first
    | (refine wpList_load_mid rfl 154 (.tmp 7) rfl g 0 rfl hd _ HR.out Tryz.underlying154 rfl H18.out ?_)
    | (refine wpList_store_mid rfl 154 (.tmp 3) (.tmp 8) rfl w'.heap.size 0 hd.toArray rfl rfl HT.out H18'.out ONE.out ?_; rw [← HW1.out]))
  go_region_law (refine step_app_run rfl (.tmp 13) (.tmp 17) 152 152 rfl (.slice (some ⟨w'.heap.size + 1, 0, none⟩) 0 room) (.slice (some ⟨t, 0, none⟩) n room) (by simp [Act.eval]) (by simp [Act.eval]) (HA.out _ _) ?_)
  all_goals
    go_wp2
    go_ret
    exact ⟨rfl, HE.out.1, HE.out.2⟩

/-- What Set answers, and leaves; what Drop answers. -/
def setN (room : Nat) (es : List Ent) (b : UInt8) : Int := if hasE es b.toNat = false ∧ es.length = room then 10 else 0
def setR (room : Nat) (es : List Ent) (b : UInt8) (x : Th) : List Ent := if hasE es b.toNat = false ∧ es.length = room then es else setE es b x
def dropN (es : List Ent) (b : UInt8) : Int := if hasE es b.toNat = true then 0 else 6
section
variable {w : World} {g t room : Nat} {es : List Ent}
theorem Kept.still {D : Nat → Prop} {w w' : World} (h : Still w w') : Kept D w w' := by obtain ⟨n, rfl⟩ := h; exact (Kept.refl _ _).drewN n
set_option maxRecDepth 100000 in
theorem sset_any (h : Sm w g t room es) (b : UInt8) (x : Th) (z : Int) (hz : z = (b.toNat : Int)) : Calls Tryz.prog 140 #[.pointer (some ⟨g, 0, none⟩), .int .u8 z, ev x] w fun e w' =>
    e = .returned (.int .i64 (setN room es b)) ∧ Sm w' g t room (setR room es b x) ∧ Kept (fun k => k = g ∨ k = t) w w' := by
  subst hz
  cases hb : hasE es b.toNat with
  | true =>
    refine (sset_has h b x hb).mono ?_
    rintro e w' ⟨rfl, h1, h2⟩
    exact ⟨by simp [setN, hb], by simpa [setR, hb] using h1, h2⟩
  | false =>
    by_cases hf : es.length = room
    · refine (sset_full h b x hb hf).mono ?_
      rintro e w' ⟨rfl, hs⟩
      exact ⟨by simp [setN, hb, hf], by simpa [setR, hb, hf] using h.still hs, Kept.still hs⟩
    · refine (sset_more h b x hb (by have := h.few; omega)).mono ?_
      rintro e w' ⟨rfl, h1, h2⟩
      exact ⟨by simp [setN, hf], by simpa [setR, hf] using h1, h2⟩
end
end Go.Proofs.YtajpipaooaemdaaGreatDoor

namespace Go.Proofs.YtajpipaooaemdaaGreatDoor
open Go.RowKit

/-- A variable of a great type. -/
theorem wpList_alloc_z {P : Program} {ops : Array Oper} {rest : List Oper} {o : Oper} {a : Act} {w : World} {Q : Exit → Act → World → Prop} (hgd : o.guard = none) (ty : TypeId) (ho : o.op = .alloc ty) (z : Array Value)
    (hz : (P.info? ty).map (·.zero) = some (some (.agg z))) (h : wpList P ops Q rest (a.put o.dst (.pointer (some ⟨w.heap.size, 0, none⟩))) (w.alloc (.cells z ty))) : wpList P ops Q (o :: rest) a w := by
  refine wpList_plain hgd fun _ hK => ?_
  obtain ⟨i, hi, h0⟩ : ∃ i, P.info? ty = some i ∧ i.zero = some (.agg z) := by
    rcases hq : P.info? ty with _ | i
    · rw [hq] at hz; cases hz
    · rw [hq] at hz; exact ⟨i, rfl, by simpa using hz⟩
  unfold Oper.wp execOp
  simp [ho, Instr.alloc, zeroValue, typeInfo, hi, h0, newVar, newRow, newObj, Value.cells]
  exact hK _ _ h

theorem wpList_build_is {P : Program} {ops : Array Oper} {rest : List Oper} {o : Oper} {a : Act} {w : World} {Q : Exit → Act → World → Prop} (hgd : o.guard = none) (t : TypeId) (parts : Array (Nat × Operand)) (ho : o.op = .build t parts)
    (ps : List (Nat × Value)) (hp : (parts.map fun (i, x) => (i, a.eval x)).toList = ps) (cells : Array Value) (hb : P.built t ps = some cells) (h : wpList P ops Q rest (a.put o.dst (.agg cells)) w) : wpList P ops Q (o :: rest) a w := by
  refine wpList_build hgd t parts ho (by rw [hp, hb]; rfl) ?_
  rw [hp, hb]
  exact h
section
variable {room : Nat} {es : List Ent}
end
end Go.Proofs.YtajpipaooaemdaaGreatDoor
