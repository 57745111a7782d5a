/-
  Few things by their bytes, as a list that rises: where a byte stands, what is held by it, what is next, what is ahead, one more, one less; and the same as a table of 256 places. Nothing of the program is used.
  The place of a byte, the one that is next, the one ahead, as a count goes on. Nothing of the program is used.
  Many things by their bytes, each at a place: a table of the places, the places that are free; one more, one put over, one less. Nothing of the program is used.
-/
import Derived.WalkKit
namespace Go.Proofs.YtfmkhafpbfmadaaGreat

/-- What is held by a byte. -/
abbrev Th := (Option Addr)
abbrev Ent := UInt8 × Th

/-- The bytes rise. -/
def Up (es : List Ent) : Prop := es.Pairwise (fun a b => a.1.toNat < b.1.toNat)
/-- How many stand ahead of a number. -/
def pos (es : List Ent) (b : Nat) : Nat := es.countP (fun e => e.1.toNat < b)
/-- What is held by a place's number. -/
def look (es : List Ent) (b : Nat) : Option Th := match es[pos es b]? with
  | some e => if e.1.toNat = b then some e.2 else none
  | none => none
def hasE (es : List Ent) (b : Nat) : Bool := (look es b).isSome
def getE (es : List Ent) (b : Nat) : Th := (look es b).getD none
def setE (es : List Ent) (b : UInt8) (x : Th) : List Ent :=
  if hasE es b.toNat then es.set (pos es b.toNat) (b, x) else es.take (pos es b.toNat) ++ (b, x) :: es.drop (pos es b.toNat)
def dropE (es : List Ent) (b : UInt8) : List Ent :=
  if hasE es b.toNat then es.take (pos es b.toNat) ++ es.drop (pos es b.toNat + 1) else es
/-- The least one that is not below a number; the greatest one that is not above it. -/
def nextE (es : List Ent) (a : Int) : Option Ent := if 255 < a then none else es[pos es a.toNat]?
def prevE (es : List Ent) (a : Int) : Option Ent := if a < 0 then none else
  if hasE es (min a 255).toNat then es[pos es (min a 255).toNat]? else if pos es (min a 255).toNat = 0 then none else es[pos es (min a 255).toNat - 1]?

section
variable {es : List Ent}
theorem Up.at_ (h : Up es) {i j : Nat} {a b : Ent} (hij : i < j) (ha : es[i]? = some a) (hb : es[j]? = some b) : a.1.toNat < b.1.toNat := by
  obtain ⟨hi, rfl⟩ := List.getElem?_eq_some_iff.1 ha
  obtain ⟨hj, rfl⟩ := List.getElem?_eq_some_iff.1 hb
  exact List.pairwise_iff_getElem.1 h i j hi hj hij
theorem Up.nil : Up [] := List.Pairwise.nil
theorem pos_le (es : List Ent) (b : Nat) : pos es b ≤ es.length := List.countP_le_length
/-- The place is told by what stands ahead and behind. -/
theorem pos_of {k b : Nat} (hk : k ≤ es.length) (h1 : ∀ t e, t < k → es[t]? = some e → e.1.toNat < b) (h2 : ∀ t e, k ≤ t → es[t]? = some e → b ≤ e.1.toNat) : pos es b = k := by
  unfold pos
  rw [← List.take_append_drop k es, List.countP_append]
  have e1 : (es.take k).countP (fun e => decide (e.1.toNat < b)) = k := by
    rw [List.countP_eq_length.2]
    · simp; omega
    · intro e he
      obtain ⟨i, hi⟩ := List.mem_iff_getElem?.1 he
      rw [List.getElem?_take] at hi
      split at hi
      · exact decide_eq_true (h1 i e (by assumption) hi)
      · cases hi
  have e2 : (es.drop k).countP (fun e => decide (e.1.toNat < b)) = 0 := by
    rw [List.countP_eq_zero]
    intro e he
    obtain ⟨i, hi⟩ := List.mem_iff_getElem?.1 he
    rw [List.getElem?_drop] at hi
    have := h2 (k + i) e (by omega) hi
    simp only [decide_eq_true_eq]; omega
  rw [e1, e2]; rfl
theorem Up.tail {e : Ent} (h : Up (e :: es)) : Up es := (List.pairwise_cons.1 h).2
theorem Up.head {e : Ent} (h : Up (e :: es)) : ∀ x ∈ es, e.1.toNat < x.1.toNat := (List.pairwise_cons.1 h).1
/-- What stands ahead of the place is below the number, what stands from it on is not. -/
theorem Up.split (h : Up es) (b : Nat) : (∀ t e, t < pos es b → es[t]? = some e → e.1.toNat < b) ∧ (∀ t e, pos es b ≤ t → es[t]? = some e → b ≤ e.1.toNat) := by
  induction es with
  | nil => exact ⟨fun t e _ q => by simp at q, fun t e _ q => by simp at q⟩
  | cons a r ih =>
    obtain ⟨i1, i2⟩ := ih h.tail
    by_cases ha : a.1.toNat < b
    · have ep : pos (a :: r) b = pos r b + 1 := by simp [pos, ha]
      rw [ep]
      refine ⟨fun t e ht he => ?_, fun t e ht he => ?_⟩
      · cases t with
        | zero => simp at he; subst he; exact ha
        | succ t => exact i1 t e (by omega) (by simpa using he)
      · cases t with
        | zero => omega
        | succ t => exact i2 t e (by omega) (by simpa using he)
    · have hr : ∀ x ∈ r, b ≤ x.1.toNat := fun x hx => by have := h.head x hx; omega
      have ep : pos (a :: r) b = 0 := by
        unfold pos
        rw [List.countP_eq_zero]
        intro x hx
        rcases List.mem_cons.1 hx with q | q
        · subst q; simpa using ha
        · have := hr x q; simp; omega
      rw [ep]
      refine ⟨fun t e ht => by omega, fun t e _ he => ?_⟩
      cases t with
      | zero => simp at he; subst he; omega
      | succ t => exact hr e (List.mem_of_getElem? (by simpa using he))
theorem look_some (h : Up es) {b : Nat} {x : Th} : look es b = some x ↔ ∃ e ∈ es, e.1.toNat = b ∧ e.2 = x := by
  obtain ⟨s1, s2⟩ := h.split b
  constructor
  · intro q
    unfold look at q
    split at q
    · rename_i e he
      split at q
      · rename_i hb
        exact ⟨e, List.mem_of_getElem? he, hb, by simpa using q⟩
      · cases q
    · cases q
  · rintro ⟨e, he, rfl, rfl⟩
    obtain ⟨i, hi⟩ := List.mem_iff_getElem?.1 he
    have hp : pos es e.1.toNat = i := by
      refine pos_of (by have := (List.getElem?_eq_some_iff.1 hi).1; omega) (fun t a ht ha => h.at_ ht ha hi) (fun t a ht ha => ?_)
      rcases Nat.lt_or_eq_of_le ht with q | q
      · have := h.at_ q hi ha; omega
      · subst q; rw [hi] at ha; cases ha; exact Nat.le_refl _
    unfold look
    rw [hp, hi]
    simp
theorem look_none (h : Up es) {b : Nat} : look es b = none ↔ ∀ e ∈ es, e.1.toNat ≠ b := by
  constructor
  · intro q e he hb
    have := (look_some h (b := b) (x := e.2)).2 ⟨e, he, hb, rfl⟩
    rw [q] at this; cases this
  · intro q
    cases hx : look es b with
    | none => rfl
    | some x =>
      obtain ⟨e, he, hb, _⟩ := (look_some h).1 hx
      exact absurd hb (q e he)
/-- What is held stands at its place. -/
theorem has_at {b : Nat} (hb : hasE es b = true) : ∃ e, es[pos es b]? = some e ∧ e.1.toNat = b ∧ look es b = some e.2 ∧ pos es b < es.length := by
  unfold hasE look at hb
  unfold look
  split at hb
  · rename_i e he
    split at hb
    · rename_i q
      exact ⟨e, he, q, by simp [q], (List.getElem?_eq_some_iff.1 he).1⟩
    · cases hb
  · cases hb
theorem has_no {b : Nat} (hb : hasE es b = false) : look es b = none ∧ ∀ e, es[pos es b]? = some e → e.1.toNat ≠ b := by
  have : look es b = none := by unfold hasE at hb; cases hq : look es b with
    | none => rfl
    | some x => rw [hq] at hb; cases hb
  refine ⟨this, fun e he q => ?_⟩
  unfold look at this
  rw [he] at this
  simp [q] at this
theorem has_mem (h : Up es) {b : Nat} : hasE es b = true ↔ ∃ e ∈ es, e.1.toNat = b := by
  unfold hasE
  rw [Option.isSome_iff_exists]
  constructor
  · rintro ⟨x, hx⟩
    obtain ⟨e, he, hb, _⟩ := (look_some h).1 hx
    exact ⟨e, he, hb⟩
  · rintro ⟨e, he, hb⟩
    exact ⟨e.2, (look_some h).2 ⟨e, he, hb, rfl⟩⟩

/-- One more. -/
theorem set_mem (h : Up es) {b : UInt8} {x : Th} {e : Ent} : e ∈ setE es b x ↔ e = (b, x) ∨ (e ∈ es ∧ e.1 ≠ b) := by
  unfold setE
  by_cases hb : hasE es b.toNat = true
  · rw [if_pos hb]
    obtain ⟨a, ha, hab, _, hl⟩ := has_at hb
    have hab' : a.1 = b := UInt8.toNat.inj hab
    constructor
    · intro q
      obtain ⟨i, hi⟩ := List.mem_iff_getElem?.1 q
      rw [List.getElem?_set] at hi
      split at hi
      · left; simp only [Option.some.injEq] at hi; exact hi.symm
      · right
        rename_i hne
        refine ⟨List.mem_of_getElem? hi, fun q => ?_⟩
        rcases Nat.lt_or_gt_of_ne hne with q1 | q1
        · have := h.at_ q1 ha hi; rw [q, hab'] at this; omega
        · have := h.at_ q1 hi ha; rw [q, hab'] at this; omega
    · rintro (rfl | ⟨q, hne⟩)
      · exact List.mem_iff_getElem?.2 ⟨pos es b.toNat, by rw [List.getElem?_set]; simp [hl]⟩
      · obtain ⟨i, hi⟩ := List.mem_iff_getElem?.1 q
        refine List.mem_iff_getElem?.2 ⟨i, ?_⟩
        rw [List.getElem?_set, if_neg]
        · exact hi
        · rintro rfl
          rw [ha] at hi; cases hi
          exact hne hab'
  · rw [if_neg hb]
    have hb' : hasE es b.toNat = false := by simpa using hb
    have hn : ∀ e ∈ es, e.1 ≠ b := fun e he q => hb ((has_mem h).2 ⟨e, he, by rw [q]⟩)
    rw [List.mem_append, List.mem_cons]
    constructor
    · rintro (q | q | q)
      · exact .inr ⟨List.mem_of_mem_take q, hn _ (List.mem_of_mem_take q)⟩
      · exact .inl q
      · exact .inr ⟨List.mem_of_mem_drop q, hn _ (List.mem_of_mem_drop q)⟩
    · rintro (q | ⟨q, _⟩)
      · exact .inr (.inl q)
      · rw [← List.take_append_drop (pos es b.toNat) es, List.mem_append] at q
        rcases q with q | q
        · exact .inl q
        · exact .inr (.inr q)
theorem set_up (h : Up es) (b : UInt8) (x : Th) : Up (setE es b x) := by
  unfold setE
  by_cases hb : hasE es b.toNat = true
  · rw [if_pos hb]
    obtain ⟨a, ha, hab, _, hl⟩ := has_at hb
    refine List.pairwise_iff_getElem.2 fun i j hi hj hij => ?_
    rw [List.getElem_set, List.getElem_set]
    have key := List.pairwise_iff_getElem.1 h i j (by simpa using hi) (by simpa using hj) hij
    obtain ⟨_, ha'⟩ := List.getElem?_eq_some_iff.1 ha
    split
    · split
      · omega
      · rename_i q _; subst q; rw [ha'] at key; show b.toNat < _; omega
    · split
      · rename_i q; subst q; rw [ha'] at key; show _ < b.toNat; omega
      · exact key
  · rw [if_neg hb]
    obtain ⟨s1, s2⟩ := h.split b.toNat
    have hn : ∀ e ∈ es, e.1.toNat ≠ b.toNat := fun e he q => hb ((has_mem h).2 ⟨e, he, q⟩)
    refine List.pairwise_append.2 ⟨h.sublist (List.take_sublist _ _), List.pairwise_cons.2 ⟨fun e he => ?_, h.sublist (List.drop_sublist _ _)⟩, fun a ha e he => ?_⟩
    · obtain ⟨i, hi⟩ := List.mem_iff_getElem?.1 he
      rw [List.getElem?_drop] at hi
      have := s2 _ e (by omega) hi
      have := hn e (List.mem_of_mem_drop he)
      show b.toNat < _; omega
    · obtain ⟨i, hi⟩ := List.mem_iff_getElem?.1 ha
      rw [List.getElem?_take] at hi
      split at hi
      · have h1 := s1 i a (by assumption) hi
        rcases List.mem_cons.1 he with q | q
        · subst q; exact h1
        · obtain ⟨j, hj⟩ := List.mem_iff_getElem?.1 q
          rw [List.getElem?_drop] at hj
          have := s2 _ e (by omega) hj
          omega
      · cases hi
theorem look_set (h : Up es) (b : UInt8) (x : Th) (i : Nat) : look (setE es b x) i = if i = b.toNat then some x else look es i := by
  have hu := set_up h b x
  by_cases hi : i = b.toNat
  · rw [if_pos hi]
    exact (look_some hu).2 ⟨(b, x), (set_mem h).2 (.inl rfl), hi.symm, rfl⟩
  · rw [if_neg hi]
    cases hq : look es i with
    | some y =>
      obtain ⟨e, he, h1, h2⟩ := (look_some h).1 hq
      refine (look_some hu).2 ⟨e, (set_mem h).2 (.inr ⟨he, fun q => hi (by rw [← h1, q])⟩), h1, h2⟩
    | none =>
      refine (look_none hu).2 fun e he q => ?_
      rcases (set_mem h).1 he with rfl | ⟨he', _⟩
      · exact hi q.symm
      · exact (look_none h).1 hq e he' q
theorem set_length (b : UInt8) (x : Th) : (setE es b x).length = if hasE es b.toNat then es.length else es.length + 1 := by
  unfold setE
  have := pos_le es b.toNat
  split
  · simp
  · simp only [List.length_append, List.length_take, List.length_cons, List.length_drop]; omega

/-- One less. -/
theorem drop_mem (h : Up es) {b : UInt8} {e : Ent} : e ∈ dropE es b ↔ e ∈ es ∧ e.1 ≠ b := by
  unfold dropE
  by_cases hb : hasE es b.toNat = true
  · rw [if_pos hb]
    obtain ⟨a, ha, hab, _, hl⟩ := has_at hb
    have hab' : a.1 = b := UInt8.toNat.inj hab
    rw [List.mem_append]
    constructor
    · rintro (q | q)
      · refine ⟨List.mem_of_mem_take q, fun hq => ?_⟩
        obtain ⟨i, hi⟩ := List.mem_iff_getElem?.1 q
        rw [List.getElem?_take] at hi
        split at hi
        · have := h.at_ (by assumption) hi ha; rw [hq, hab'] at this; omega
        · cases hi
      · refine ⟨List.mem_of_mem_drop q, fun hq => ?_⟩
        obtain ⟨i, hi⟩ := List.mem_iff_getElem?.1 q
        rw [List.getElem?_drop] at hi
        have := h.at_ (by omega) ha hi; rw [hq, hab'] at this; omega
    · rintro ⟨q, hne⟩
      obtain ⟨i, hi⟩ := List.mem_iff_getElem?.1 q
      rcases Nat.lt_trichotomy i (pos es b.toNat) with q1 | q1 | q1
      · left; exact List.mem_iff_getElem?.2 ⟨i, by rw [List.getElem?_take, if_pos q1]; exact hi⟩
      · subst q1; rw [ha] at hi; cases hi; exact absurd hab' hne
      · right; exact List.mem_iff_getElem?.2 ⟨i - (pos es b.toNat + 1), by rw [List.getElem?_drop, show pos es b.toNat + 1 + (i - (pos es b.toNat + 1)) = i from by omega]; exact hi⟩
  · rw [if_neg hb]
    exact ⟨fun q => ⟨q, fun hq => hb ((has_mem h).2 ⟨e, q, by rw [hq]⟩)⟩, fun q => q.1⟩
theorem drop_up (h : Up es) (b : UInt8) : Up (dropE es b) := by
  unfold dropE
  split
  · have := h.sublist (show List.Sublist (es.take (pos es b.toNat) ++ es.drop (pos es b.toNat + 1)) es by
      conv => rhs; rw [← List.take_append_drop (pos es b.toNat) es]
      exact List.Sublist.append (List.Sublist.refl _) (by rw [show es.drop (pos es b.toNat + 1) = (es.drop (pos es b.toNat)).drop 1 from by rw [List.drop_drop]]; exact List.drop_sublist _ _))
    exact this
  · exact h
theorem look_drop (h : Up es) (b : UInt8) (i : Nat) : look (dropE es b) i = if i = b.toNat then none else look es i := by
  have hu := drop_up h b
  by_cases hi : i = b.toNat
  · rw [if_pos hi]
    exact (look_none hu).2 fun e he q => ((drop_mem h).1 he).2 (UInt8.toNat.inj (q.trans hi))
  · rw [if_neg hi]
    cases hq : look es i with
    | some y =>
      obtain ⟨e, he, h1, h2⟩ := (look_some h).1 hq
      exact (look_some hu).2 ⟨e, (drop_mem h).2 ⟨he, fun q => hi (by rw [← h1, q])⟩, h1, h2⟩
    | none => exact (look_none hu).2 fun e he q => (look_none h).1 hq e ((drop_mem h).1 he).1 q
theorem drop_length {b : UInt8} (hb : hasE es b.toNat = true) : (dropE es b).length + 1 = es.length := by
  obtain ⟨a, ha, hab, _, hl⟩ := has_at hb
  unfold dropE
  rw [if_pos hb]
  simp only [List.length_append, List.length_take, List.length_drop]; omega

/-- One's own byte tells one's place. -/
theorem pos_at (h : Up es) {i : Nat} {e : Ent} (hi : es[i]? = some e) : pos es e.1.toNat = i := by
  refine pos_of (by have := (List.getElem?_eq_some_iff.1 hi).1; omega) (fun t a ht ha => h.at_ ht ha hi) (fun t a ht ha => ?_)
  rcases Nat.lt_or_eq_of_le ht with q | q
  · have := h.at_ q hi ha; omega
  · subst q; rw [hi] at ha; cases ha; exact Nat.le_refl _
theorem pos_behind (h : Up es) {i : Nat} {e : Ent} (hi : es[i]? = some e) : pos es (e.1.toNat + 1) = i + 1 := by
  refine pos_of (by have := (List.getElem?_eq_some_iff.1 hi).1; omega) (fun t a ht ha => ?_) (fun t a ht ha => ?_)
  · rcases Nat.lt_or_eq_of_le (show t ≤ i by omega) with q | q
    · have := h.at_ q ha hi; omega
    · subst q; rw [hi] at ha; cases ha; omega
  · have := h.at_ (show i < t by omega) hi ha; omega
theorem has_own (h : Up es) {i : Nat} {e : Ent} (hi : es[i]? = some e) : hasE es e.1.toNat = true ∧ getE es e.1.toNat = e.2 := by
  have hp := pos_at h hi
  have : look es e.1.toNat = some e.2 := by unfold look; rw [hp, hi]; simp
  exact ⟨by unfold hasE; rw [this]; rfl, by unfold getE; rw [this]; rfl⟩
/-- The greatest one that is not above a. -/
theorem prev_is (h : Up es) {a : Nat} (ha : a ≤ 255) : prevE es (a : Int) = if pos es (a + 1) = 0 then none else es[pos es (a + 1) - 1]? := by
  have e1 : (min (a : Int) 255).toNat = a := by omega
  unfold prevE
  rw [if_neg (by omega), e1]
  cases hb : hasE es a with
  | true =>
    obtain ⟨e, he, hea, _, _⟩ := has_at hb
    have hp := pos_behind h he
    rw [hea] at hp
    rw [if_pos rfl, hp, if_neg (by omega), Nat.add_sub_cancel]
  | false =>
    have hn := (has_no hb).2
    obtain ⟨s1, s2⟩ := h.split a
    have hp : pos es (a + 1) = pos es a := by
      refine pos_of (pos_le _ _) (fun t e ht he => by have := s1 t e ht he; omega) (fun t e ht he => ?_)
      have h1 := s2 t e ht he
      rcases Nat.lt_or_eq_of_le h1 with q | q
      · omega
      · exfalso
        have := pos_at h he
        rw [← q] at this
        exact hn e (by rw [this]; exact he) q.symm
    rw [if_neg (by simp), hp]

/-- From where the k-th one is looked for, rising and falling. -/
def upA (es : List Ent) (k : Nat) : Nat := if k = 0 then 0 else match es[k - 1]? with | some e => e.1.toNat + 1 | none => 0
def dnA (es : List Ent) (k : Nat) : Int := if k = 0 then 255 else match es[es.length - k]? with | some e => (e.1.toNat : Int) - 1 | none => 0
theorem upA_succ {k : Nat} {e : Ent} (h : es[k]? = some e) : upA es (k + 1) = e.1.toNat + 1 := by simp [upA, h]
theorem dnA_succ {k : Nat} {e : Ent} (h : es[es.length - (k + 1)]? = some e) : dnA es (k + 1) = (e.1.toNat : Int) - 1 := by simp [dnA, h]
theorem upA_le (es : List Ent) (k : Nat) : upA es k ≤ 256 := by
  unfold upA
  split
  · omega
  · split
    · rename_i e _; have := e.1.toNat_lt; omega
    · omega
theorem dnA_in (es : List Ent) (k : Nat) : -1 ≤ dnA es k ∧ dnA es k ≤ 255 := by
  unfold dnA
  split
  · omega
  · split
    · rename_i e _; have := e.1.toNat_lt; omega
    · omega
theorem pos_upA (h : Up es) {k : Nat} (hk : k ≤ es.length) : pos es (upA es k) = k := by
  cases k with
  | zero => exact pos_of (Nat.zero_le _) (fun t e ht => by omega) (fun t e _ _ => by simp [upA])
  | succ k =>
    have hi := List.getElem?_eq_getElem (show k < es.length by omega)
    rw [upA_succ hi]
    exact pos_behind h hi
theorem next_upA (h : Up es) {k : Nat} (hk : k ≤ es.length) (ha : upA es k ≤ 255) : nextE es (upA es k : Int) = es[k]? := by
  unfold nextE
  rw [if_neg (by omega), Int.toNat_natCast, pos_upA h hk]
theorem upA_end (h : Up es) {k : Nat} (hk : k ≤ es.length) (ha : ¬ upA es k < 256) : k = es.length := by
  rcases Nat.lt_or_eq_of_le hk with q | q
  · obtain ⟨s1, s2⟩ := h.split (upA es k)
    have := s2 k _ (by rw [pos_upA h hk]; exact Nat.le_refl _) (List.getElem?_eq_getElem q)
    have := (es[k].1).toNat_lt
    omega
  · exact q
theorem pos_dnA (h : Up es) {k : Nat} (hk : k ≤ es.length) (ha : 0 ≤ dnA es k) : pos es ((dnA es k).toNat + 1) = es.length - k := by
  cases k with
  | zero => exact pos_of (by omega) (fun t e ht he => by have := e.1.toNat_lt; simp [dnA]; omega) (fun t e ht he => by have := (List.getElem?_eq_some_iff.1 he).1; omega)
  | succ k =>
    have hi := List.getElem?_eq_getElem (show es.length - (k + 1) < es.length by omega)
    rw [dnA_succ hi] at ha ⊢
    rw [show ((es[es.length - (k + 1)].1.toNat : Int) - 1).toNat + 1 = es[es.length - (k + 1)].1.toNat by omega]
    exact pos_at h hi
theorem prev_dnA (h : Up es) {k : Nat} (hk : k ≤ es.length) (ha : 0 ≤ dnA es k) : prevE es (dnA es k) = if k = es.length then none else es[es.length - (k + 1)]? := by
  have hin := dnA_in es k
  have := prev_is h (a := (dnA es k).toNat) (by omega)
  rw [show (((dnA es k).toNat : Nat) : Int) = dnA es k by omega, pos_dnA h hk ha] at this
  rw [this]
  by_cases q : k = es.length
  · rw [if_pos (by omega), if_pos q]
  · rw [if_neg (by omega), if_neg q, show es.length - k - 1 = es.length - (k + 1) by omega]
theorem dnA_end (h : Up es) {k : Nat} (hk : k ≤ es.length) (ha : dnA es k < 0) : k = es.length := by
  cases k with
  | zero => simp [dnA] at ha
  | succ k =>
    have hi := List.getElem?_eq_getElem (show es.length - (k + 1) < es.length by omega)
    rw [dnA_succ hi] at ha
    rcases Nat.eq_zero_or_pos (es.length - (k + 1)) with q | q
    · omega
    · exfalso
      have h0 := List.getElem?_eq_getElem (show 0 < es.length by omega)
      have := h.at_ q h0 hi
      omega
/-- What is left behind the first k, and what is left of it without its first one. -/
theorem drop_first (h : Up es) {k : Nat} {e : Ent} (hi : es[k]? = some e) : Up (es.drop k) ∧ hasE (es.drop k) e.1.toNat = true ∧ dropE (es.drop k) e.1 = es.drop (k + 1) := by
  have hu : Up (es.drop k) := h.sublist (List.drop_sublist _ _)
  have h0 : (es.drop k)[0]? = some e := by rw [List.getElem?_drop]; simpa using hi
  obtain ⟨hh, _⟩ := has_own hu h0
  refine ⟨hu, hh, ?_⟩
  unfold dropE
  rw [if_pos hh, pos_at hu h0]
  simp
end
end Go.Proofs.YtfmkhafpbfmadaaGreat

namespace Go.Proofs.YtfmkhafpbfmadaaGreat
open Go.RowKit

section
variable {es : List Ent}
theorem pos_zero (es : List Ent) : pos es 0 = 0 := by unfold pos; rw [List.countP_eq_zero]; intro e _; simp
theorem pos_all (es : List Ent) : pos es 256 = es.length := by
  unfold pos
  rw [List.countP_eq_length]
  intro e _
  have := e.1.toNat_lt
  simp; omega
/-- At most one a byte. -/
theorem pos_below (h : Up es) (c : Nat) : pos es c ≤ c := by
  induction c with
  | zero => rw [pos_zero]; exact Nat.le_refl _
  | succ c ih =>
    cases hb : hasE es c with
    | true =>
      obtain ⟨e, he, hea, _, _⟩ := has_at hb
      have hp := pos_behind h he
      rw [hea] at hp
      omega
    | false =>
      have hn := (has_no hb).2
      obtain ⟨s1, s2⟩ := h.split c
      have : pos es (c + 1) = pos es c := by
        refine pos_of (pos_le _ _) (fun t e ht he => by have := s1 t e ht he; omega) (fun t e ht he => ?_)
        have h1 := s2 t e ht he
        rcases Nat.lt_or_eq_of_le h1 with q | q
        · omega
        · exfalso
          have := pos_at h he
          rw [← q] at this
          exact hn e (by rw [this]; exact he) q.symm
      omega
theorem pos256 (h : Up es) : pos es 256 ≤ 256 := pos_below h 256
theorem pos_yes (h : Up es) {a : Nat} (hb : hasE es a = true) : pos es (a + 1) = pos es a + 1 := by
  obtain ⟨e, he, hea, _, _⟩ := has_at hb
  have hp := pos_behind h he
  rwa [hea] at hp
theorem pos_not (h : Up es) {a : Nat} (hb : hasE es a = false) : pos es (a + 1) = pos es a := by
  have hn := (has_no hb).2
  obtain ⟨s1, s2⟩ := h.split a
  refine pos_of (pos_le _ _) (fun t e ht he => by have := s1 t e ht he; omega) (fun t e ht he => ?_)
  have h1 := s2 t e ht he
  rcases Nat.lt_or_eq_of_le h1 with q | q
  · omega
  · exfalso
    have := pos_at h he
    rw [← q] at this
    exact hn e (by rw [this]; exact he) q.symm
/-- The one found from a place on, and from a place back. -/
def pv (es : List Ent) (c : Nat) : Option Ent := if pos es c = 0 then none else es[pos es c - 1]?
theorem pv_zero (es : List Ent) : pv es 0 = none := by simp [pv, pos_zero]
theorem pv_not (h : Up es) {a : Nat} (hb : hasE es a = false) : pv es (a + 1) = pv es a := by unfold pv; rw [pos_not h hb]
theorem pv_yes (h : Up es) {a : Nat} (hb : hasE es a = true) : ∃ e, pv es (a + 1) = some e ∧ e.1.toNat = a ∧ e.2 = getE es a := by
  obtain ⟨e, he, hea, hl, _⟩ := has_at hb
  refine ⟨e, ?_, hea, by unfold getE; rw [hl]; rfl⟩
  unfold pv
  rw [pos_yes h hb, if_neg (by omega), Nat.add_sub_cancel]
  exact he
theorem prev_pv (h : Up es) (a : Int) : prevE es a = if a < 0 then none else pv es ((min a 255).toNat + 1) := by
  by_cases ha : a < 0
  · rw [if_pos ha]; unfold prevE; rw [if_pos ha]
  · rw [if_neg ha]
    have e : prevE es a = prevE es (((min a 255).toNat : Nat) : Int) := by
      unfold prevE
      have h0 : ¬ ((((min a 255).toNat : Nat) : Int) < 0) := by omega
      rw [if_neg ha, if_neg h0, show min (((min a 255).toNat : Nat) : Int) 255 = min a 255 by omega]
    rw [e, prev_is h (by omega)]
    rfl
def nx (es : List Ent) (c : Nat) : Option Ent := es[pos es c]?
theorem nx_all (es : List Ent) : nx es 256 = none := by unfold nx; rw [pos_all]; exact List.getElem?_eq_none (Nat.le_refl _)
theorem nx_not (h : Up es) {a : Nat} (hb : hasE es a = false) : nx es (a + 1) = nx es a := by unfold nx; rw [pos_not h hb]
theorem nx_yes {a : Nat} (hb : hasE es a = true) : ∃ e, nx es a = some e ∧ e.1.toNat = a ∧ e.2 = getE es a := by
  obtain ⟨e, he, hea, hl, _⟩ := has_at hb
  exact ⟨e, he, hea, by unfold getE; rw [hl]; rfl⟩
theorem next_nx (es : List Ent) (a : Int) : nextE es a = if 255 < a then none else nx es a.toNat := rfl
end
end Go.Proofs.YtfmkhafpbfmadaaGreat

namespace Go.Proofs.YtfmkhafpbfmadaaGreat

/-- Turned at one place. -/
def turnN (f : Nat → Nat) (b n : Nat) : Nat → Nat := fun i => if i = b then n else f i
theorem turn_at (f : Nat → Nat) (b n : Nat) : turnN f b n b = n := if_pos rfl
theorem turn_far (f : Nat → Nat) {b i : Nat} (n : Nat) (h : i ≠ b) : turnN f b n i = f i := if_neg h

section
variable {es : List Ent}
theorem has_set (h : Up es) (b : UInt8) (x : Th) (i : Nat) : hasE (setE es b x) i = if i = b.toNat then true else hasE es i := by
  unfold hasE; rw [look_set h]; split <;> rfl
theorem get_set (h : Up es) (b : UInt8) (x : Th) (i : Nat) : getE (setE es b x) i = if i = b.toNat then x else getE es i := by
  unfold getE; rw [look_set h]; split <;> rfl
theorem has_drop (h : Up es) (b : UInt8) (i : Nat) : hasE (dropE es b) i = if i = b.toNat then false else hasE es i := by
  unfold hasE; rw [look_drop h]; split <;> rfl
theorem get_drop (h : Up es) (b : UInt8) (i : Nat) : getE (dropE es b) i = if i = b.toNat then none else getE es i := by
  unfold getE; rw [look_drop h]; split <;> rfl
theorem get_no {b : Nat} (h : hasE es b = false) : getE es b = none := by unfold getE; rw [(has_no h).1]; rfl
end

/-- The things es stand at the places that tb tells (and one), in vs; the first k of lf are free. -/
structure Pl (room : Nat) (es : List Ent) (k : Nat) (tb lf : Nat → Nat) (vs : List Th) : Prop where
  up : Up es
  sum : es.length + k = vs.length
  most : vs.length ≤ room
  cap : room ≤ 256
  no : ∀ b, b < 256 → hasE es b = false → tb b = 0
  yes : ∀ b, b < 256 → hasE es b = true → ∃ q, tb b = q + 1 ∧ vs[q]? = some (getE es b)
  inj : ∀ b c, b < 256 → c < 256 → hasE es b = true → hasE es c = true → tb b = tb c → b = c
  fre : ∀ i, i < k → lf i < vs.length ∧ ∀ b, b < 256 → tb b ≠ lf i + 1
  dis : ∀ i j, i < k → j < k → lf i = lf j → i = j

section
variable {room k : Nat} {es : List Ent} {tb lf : Nat → Nat} {vs : List Th}
theorem Pl.first (h : room ≤ 256) : Pl room [] 0 (fun _ => 0) (fun _ => 0) [] :=
  ⟨Up.nil, rfl, Nat.zero_le _, h, fun _ _ _ => rfl, fun b _ q => by simp [hasE, look] at q, fun b c _ _ q => by simp [hasE, look] at q, fun i hi => by omega, fun i j hi => by omega⟩
theorem Pl.tb_le (h : Pl room es k tb lf vs) {b : Nat} (hb : b < 256) : tb b ≤ 256 := by
  cases hh : hasE es b with
  | false => rw [h.no b hb hh]; omega
  | true =>
    obtain ⟨q, e, hq⟩ := h.yes b hb hh
    have := (List.getElem?_eq_some_iff.1 hq).1
    have := h.most
    have := h.cap
    omega
theorem Pl.set_has (h : Pl room es k tb lf vs) {b : UInt8} (x : Th) {q : Nat} (hb : hasE es b.toNat = true) (hq : tb b.toNat = q + 1) : Pl room (setE es b x) k tb lf (vs.set q x) := by
  refine ⟨set_up h.up b x, ?_, by rw [List.length_set]; exact h.most, h.cap, fun c hc hn => ?_, fun c hc hn => ?_, fun c d hc hd h1 h2 e => ?_, fun i hi => ?_, h.dis⟩
  · rw [set_length, if_pos hb, List.length_set]; exact h.sum
  · rw [has_set h.up] at hn
    split at hn
    · cases hn
    · exact h.no c hc hn
  · obtain ⟨q0, e0, hv0⟩ := h.yes b.toNat b.toNat_lt hb
    have hlt := (List.getElem?_eq_some_iff.1 hv0).1
    rw [has_set h.up] at hn
    rw [get_set h.up]
    by_cases hcb : c = b.toNat
    · subst hcb
      refine ⟨q, hq, ?_⟩
      rw [if_pos rfl, List.getElem?_set, if_pos rfl, if_pos (by omega)]
    · rw [if_neg hcb] at hn ⊢
      obtain ⟨q1, e1, hv1⟩ := h.yes c hc hn
      refine ⟨q1, e1, ?_⟩
      have : q ≠ q1 := fun e => hcb (h.inj c b.toNat hc b.toNat_lt hn hb (by omega))
      rw [List.getElem?_set, if_neg this]
      exact hv1
  · have k1 : hasE es c = true := by rw [has_set h.up] at h1; split at h1; (rename_i q; rw [q]; exact hb); exact h1
    have k2 : hasE es d = true := by rw [has_set h.up] at h2; split at h2; (rename_i q; rw [q]; exact hb); exact h2
    exact h.inj c d hc hd k1 k2 e
  · rw [List.length_set]; exact h.fre i hi
theorem Pl.set_more (h : Pl room es k tb lf vs) {b : UInt8} (x : Th) (hb : hasE es b.toNat = false) {k' q : Nat} {vs' : List Th} (hsum : es.length + 1 + k' = vs'.length) (hmost : vs'.length ≤ room) (hk : k' ≤ k) (hle : vs.length ≤ vs'.length)
    (hq : vs'[q]? = some x) (hfar : ∀ j y, j ≠ q → vs[j]? = some y → vs'[j]? = some y) (hfree : ∀ c, c < 256 → tb c ≠ q + 1) (hnl : ∀ i, i < k' → lf i ≠ q) :
    Pl room (setE es b x) k' (turnN tb b.toNat (q + 1)) lf vs' := by
  refine ⟨set_up h.up b x, ?_, hmost, h.cap, fun c hc hn => ?_, fun c hc hn => ?_, fun c d hc hd h1 h2 e => ?_, fun i hi => ⟨?_, fun c hc => ?_⟩, fun i j hi hj e => h.dis i j (by omega) (by omega) e⟩
  · rw [set_length, if_neg (by rw [hb]; simp)]; exact hsum
  · rw [has_set h.up] at hn
    split at hn
    · cases hn
    · rename_i q'
      rw [turn_far _ _ q']; exact h.no c hc hn
  · rw [has_set h.up] at hn
    rw [get_set h.up]
    by_cases hcb : c = b.toNat
    · subst hcb
      rw [turn_at, if_pos rfl]
      exact ⟨q, rfl, hq⟩
    · rw [if_neg hcb] at hn ⊢
      rw [turn_far _ _ hcb]
      obtain ⟨q1, e1, hv1⟩ := h.yes c hc hn
      exact ⟨q1, e1, hfar q1 _ (fun e => hfree c hc (by omega)) hv1⟩
  · rw [has_set h.up] at h1 h2
    by_cases c1 : c = b.toNat
    · by_cases c2 : d = b.toNat
      · omega
      · rw [c1, turn_at, turn_far _ _ c2] at e
        exact absurd e.symm (hfree d hd)
    · by_cases c2 : d = b.toNat
      · rw [c2, turn_at, turn_far _ _ c1] at e
        exact absurd e (hfree c hc)
      · rw [if_neg c1] at h1
        rw [if_neg c2] at h2
        rw [turn_far _ _ c1, turn_far _ _ c2] at e
        exact h.inj c d hc hd h1 h2 e
  · have := (h.fre i (by omega)).1; omega
  · by_cases c1 : c = b.toNat
    · rw [c1, turn_at]; have := hnl i hi; omega
    · rw [turn_far _ _ c1]; exact (h.fre i (by omega)).2 c hc
/-- One more, at a place that was left. -/
theorem Pl.set_left (h : Pl room es (k + 1) tb lf vs) {b : UInt8} (x : Th) (hb : hasE es b.toNat = false) : Pl room (setE es b x) k (turnN tb b.toNat (lf k + 1)) lf (vs.set (lf k) x) := by
  have hf := h.fre k (by omega)
  refine h.set_more x hb (by rw [List.length_set]; have := h.sum; omega) (by rw [List.length_set]; exact h.most) (by omega) (by rw [List.length_set]; exact Nat.le_refl _) ?_ (fun j y hj hy => ?_) hf.2 (fun i hi e => ?_)
  · rw [List.getElem?_set, if_pos rfl, if_pos hf.1]
  · rw [List.getElem?_set, if_neg (fun e => hj e.symm)]; exact hy
  · have := h.dis i k (by omega) (by omega) e; omega
/-- One more, at a new place. -/
theorem Pl.set_new (h : Pl room es 0 tb lf vs) {b : UInt8} (x : Th) (hb : hasE es b.toNat = false) (hr : es.length < room) : Pl room (setE es b x) 0 (turnN tb b.toNat (vs.length + 1)) lf (vs ++ [x]) := by
  have hs := h.sum
  refine h.set_more x hb (by simp; omega) (by simp; omega) (by omega) (by simp) ?_ (fun j y hj hy => ?_) (fun c hc e => ?_) (fun i hi => by omega)
  · simp
  · rw [List.getElem?_append_left (List.getElem?_eq_some_iff.1 hy).1]; exact hy
  · cases hh : hasE es c with
    | false => rw [h.no c hc hh] at e; omega
    | true =>
      obtain ⟨q1, e1, hv1⟩ := h.yes c hc hh
      have := (List.getElem?_eq_some_iff.1 hv1).1
      omega
theorem Pl.drop_has (h : Pl room es k tb lf vs) {b : UInt8} {q : Nat} (hb : hasE es b.toNat = true) (hq : tb b.toNat = q + 1) : Pl room (dropE es b) (k + 1) (turnN tb b.toNat 0) (turnN lf k q) (vs.set q none) := by
  have hl := drop_length hb
  have hs := h.sum
  obtain ⟨q0, e0, hv0⟩ := h.yes b.toNat b.toNat_lt hb
  obtain rfl : q0 = q := by omega
  have hlt := (List.getElem?_eq_some_iff.1 hv0).1
  refine ⟨drop_up h.up b, by rw [List.length_set]; omega, by rw [List.length_set]; exact h.most, h.cap, fun c hc hn => ?_, fun c hc hn => ?_, fun c d hc hd h1 h2 e => ?_, fun i hi => ⟨?_, fun c hc => ?_⟩, fun i j hi hj e => ?_⟩
  · rw [has_drop h.up] at hn
    by_cases c1 : c = b.toNat
    · rw [c1, turn_at]
    · rw [if_neg c1] at hn; rw [turn_far _ _ c1]; exact h.no c hc hn
  · rw [has_drop h.up] at hn
    by_cases c1 : c = b.toNat
    · rw [if_pos c1] at hn; cases hn
    · rw [if_neg c1] at hn
      rw [turn_far _ _ c1, get_drop h.up, if_neg c1]
      obtain ⟨q1, e1, hv1⟩ := h.yes c hc hn
      refine ⟨q1, e1, ?_⟩
      have : q0 ≠ q1 := fun e => c1 (h.inj c b.toNat hc b.toNat_lt hn hb (by omega))
      rw [List.getElem?_set, if_neg this]
      exact hv1
  · rw [has_drop h.up] at h1 h2
    by_cases c1 : c = b.toNat
    · rw [if_pos c1] at h1; cases h1
    · by_cases c2 : d = b.toNat
      · rw [if_pos c2] at h2; cases h2
      · rw [if_neg c1] at h1
        rw [if_neg c2] at h2
        rw [turn_far _ _ c1, turn_far _ _ c2] at e
        exact h.inj c d hc hd h1 h2 e
  · rw [List.length_set]
    by_cases c1 : i = k
    · rw [c1, turn_at]; exact hlt
    · rw [turn_far _ _ c1]; exact (h.fre i (by omega)).1
  · by_cases c1 : i = k
    · rw [c1, turn_at]
      by_cases c2 : c = b.toNat
      · rw [c2, turn_at]; omega
      · rw [turn_far _ _ c2]
        intro e
        cases hh : hasE es c with
        | false => rw [h.no c hc hh] at e; omega
        | true => exact c2 (h.inj c b.toNat hc b.toNat_lt hh hb (by omega))
    · rw [turn_far _ _ c1]
      by_cases c2 : c = b.toNat
      · rw [c2, turn_at]; omega
      · rw [turn_far _ _ c2]; exact (h.fre i (by omega)).2 c hc
  · by_cases c1 : i = k
    · by_cases c2 : j = k
      · omega
      · rw [c1, turn_at, turn_far _ _ c2] at e
        exact absurd hq ((e ▸ (h.fre j (by omega)).2 b.toNat b.toNat_lt))
    · by_cases c2 : j = k
      · rw [c2, turn_at, turn_far _ _ c1] at e
        exact absurd hq ((e ▸ (h.fre i (by omega)).2 b.toNat b.toNat_lt))
      · rw [turn_far _ _ c1, turn_far _ _ c2] at e
        exact h.dis i j (by omega) (by omega) e
end
end Go.Proofs.YtfmkhafpbfmadaaGreat
