/-
  Few things by their bytes, as a list that rises: where a byte stands, what is held by it, what is next, what is ahead, one more, one less; and the same as a table of 256 places. Nothing of the program is used.
-/
import Derived.WalkKit
namespace Go.Proofs.YtgelmhldicmmdaaGreat

/-- What is held by a byte. -/
abbrev Th := (Option Addr)
abbrev Ent := UInt8 × Th

/-- The bytes rise. -/
def Up (es : List Ent) : Prop := es.Pairwise (fun a b => a.1.toNat < b.1.toNat)
/-- How many stand ahead of a number. -/
def pos (es : List Ent) (b : Nat) : Nat := es.countP (fun e => e.1.toNat < b)
/-- What is held by a place's number. -/
def look (es : List Ent) (b : Nat) : Option Th := match es[pos es b]? with
  | some e => if e.1.toNat = b then some e.2 else none
  | none => none
def hasE (es : List Ent) (b : Nat) : Bool := (look es b).isSome
def getE (es : List Ent) (b : Nat) : Th := (look es b).getD none
def setE (es : List Ent) (b : UInt8) (x : Th) : List Ent :=
  if hasE es b.toNat then es.set (pos es b.toNat) (b, x) else es.take (pos es b.toNat) ++ (b, x) :: es.drop (pos es b.toNat)
def dropE (es : List Ent) (b : UInt8) : List Ent :=
  if hasE es b.toNat then es.take (pos es b.toNat) ++ es.drop (pos es b.toNat + 1) else es
/-- The least one that is not below a number; the greatest one that is not above it. -/
def nextE (es : List Ent) (a : Int) : Option Ent := if 255 < a then none else es[pos es a.toNat]?
def prevE (es : List Ent) (a : Int) : Option Ent := if a < 0 then none else
  if hasE es (min a 255).toNat then es[pos es (min a 255).toNat]? else if pos es (min a 255).toNat = 0 then none else es[pos es (min a 255).toNat - 1]?

section
variable {es : List Ent}
theorem Up.at_ (h : Up es) {i j : Nat} {a b : Ent} (hij : i < j) (ha : es[i]? = some a) (hb : es[j]? = some b) : a.1.toNat < b.1.toNat := by
  obtain ⟨hi, rfl⟩ := List.getElem?_eq_some_iff.1 ha
  obtain ⟨hj, rfl⟩ := List.getElem?_eq_some_iff.1 hb
  exact List.pairwise_iff_getElem.1 h i j hi hj hij
theorem Up.nil : Up [] := List.Pairwise.nil
theorem pos_le (es : List Ent) (b : Nat) : pos es b ≤ es.length := List.countP_le_length
/-- The place is told by what stands ahead and behind. -/
theorem pos_of {k b : Nat} (hk : k ≤ es.length) (h1 : ∀ t e, t < k → es[t]? = some e → e.1.toNat < b) (h2 : ∀ t e, k ≤ t → es[t]? = some e → b ≤ e.1.toNat) : pos es b = k := by
  unfold pos
  rw [← List.take_append_drop k es, List.countP_append]
  have e1 : (es.take k).countP (fun e => decide (e.1.toNat < b)) = k := by
    rw [List.countP_eq_length.2]
    · simp; omega
    · intro e he
      obtain ⟨i, hi⟩ := List.mem_iff_getElem?.1 he
      rw [List.getElem?_take] at hi
      split at hi
      · exact decide_eq_true (h1 i e (by assumption) hi)
      · cases hi
  have e2 : (es.drop k).countP (fun e => decide (e.1.toNat < b)) = 0 := by
    rw [List.countP_eq_zero]
    intro e he
    obtain ⟨i, hi⟩ := List.mem_iff_getElem?.1 he
    rw [List.getElem?_drop] at hi
    have := h2 (k + i) e (by omega) hi
    simp only [decide_eq_true_eq]; omega
  rw [e1, e2]; rfl
theorem Up.tail {e : Ent} (h : Up (e :: es)) : Up es := (List.pairwise_cons.1 h).2
theorem Up.head {e : Ent} (h : Up (e :: es)) : ∀ x ∈ es, e.1.toNat < x.1.toNat := (List.pairwise_cons.1 h).1
/-- What stands ahead of the place is below the number, what stands from it on is not. -/
theorem Up.split (h : Up es) (b : Nat) : (∀ t e, t < pos es b → es[t]? = some e → e.1.toNat < b) ∧ (∀ t e, pos es b ≤ t → es[t]? = some e → b ≤ e.1.toNat) := by
  induction es with
  | nil => exact ⟨fun t e _ q => by simp at q, fun t e _ q => by simp at q⟩
  | cons a r ih =>
    obtain ⟨i1, i2⟩ := ih h.tail
    by_cases ha : a.1.toNat < b
    · have ep : pos (a :: r) b = pos r b + 1 := by simp [pos, ha]
      rw [ep]
      refine ⟨fun t e ht he => ?_, fun t e ht he => ?_⟩
      · cases t with
        | zero => simp at he; subst he; exact ha
        | succ t => exact i1 t e (by omega) (by simpa using he)
      · cases t with
        | zero => omega
        | succ t => exact i2 t e (by omega) (by simpa using he)
    · have hr : ∀ x ∈ r, b ≤ x.1.toNat := fun x hx => by have := h.head x hx; omega
      have ep : pos (a :: r) b = 0 := by
        unfold pos
        rw [List.countP_eq_zero]
        intro x hx
        rcases List.mem_cons.1 hx with q | q
        · subst q; simpa using ha
        · have := hr x q; simp; omega
      rw [ep]
      refine ⟨fun t e ht => by omega, fun t e _ he => ?_⟩
      cases t with
      | zero => simp at he; subst he; omega
      | succ t => exact hr e (List.mem_of_getElem? (by simpa using he))
theorem look_some (h : Up es) {b : Nat} {x : Th} : look es b = some x ↔ ∃ e ∈ es, e.1.toNat = b ∧ e.2 = x := by
  obtain ⟨s1, s2⟩ := h.split b
  constructor
  · intro q
    unfold look at q
    split at q
    · rename_i e he
      split at q
      · rename_i hb
        exact ⟨e, List.mem_of_getElem? he, hb, by simpa using q⟩
      · cases q
    · cases q
  · rintro ⟨e, he, rfl, rfl⟩
    obtain ⟨i, hi⟩ := List.mem_iff_getElem?.1 he
    have hp : pos es e.1.toNat = i := by
      refine pos_of (by have := (List.getElem?_eq_some_iff.1 hi).1; omega) (fun t a ht ha => h.at_ ht ha hi) (fun t a ht ha => ?_)
      rcases Nat.lt_or_eq_of_le ht with q | q
      · have := h.at_ q hi ha; omega
      · subst q; rw [hi] at ha; cases ha; exact Nat.le_refl _
    unfold look
    rw [hp, hi]
    simp
theorem look_none (h : Up es) {b : Nat} : look es b = none ↔ ∀ e ∈ es, e.1.toNat ≠ b := by
  constructor
  · intro q e he hb
    have := (look_some h (b := b) (x := e.2)).2 ⟨e, he, hb, rfl⟩
    rw [q] at this; cases this
  · intro q
    cases hx : look es b with
    | none => rfl
    | some x =>
      obtain ⟨e, he, hb, _⟩ := (look_some h).1 hx
      exact absurd hb (q e he)
/-- What is held stands at its place. -/
theorem has_at {b : Nat} (hb : hasE es b = true) : ∃ e, es[pos es b]? = some e ∧ e.1.toNat = b ∧ look es b = some e.2 ∧ pos es b < es.length := by
  unfold hasE look at hb
  unfold look
  split at hb
  · rename_i e he
    split at hb
    · rename_i q
      exact ⟨e, he, q, by simp [q], (List.getElem?_eq_some_iff.1 he).1⟩
    · cases hb
  · cases hb
theorem has_no {b : Nat} (hb : hasE es b = false) : look es b = none ∧ ∀ e, es[pos es b]? = some e → e.1.toNat ≠ b := by
  have : look es b = none := by unfold hasE at hb; cases hq : look es b with
    | none => rfl
    | some x => rw [hq] at hb; cases hb
  refine ⟨this, fun e he q => ?_⟩
  unfold look at this
  rw [he] at this
  simp [q] at this
theorem has_mem (h : Up es) {b : Nat} : hasE es b = true ↔ ∃ e ∈ es, e.1.toNat = b := by
  unfold hasE
  rw [Option.isSome_iff_exists]
  constructor
  · rintro ⟨x, hx⟩
    obtain ⟨e, he, hb, _⟩ := (look_some h).1 hx
    exact ⟨e, he, hb⟩
  · rintro ⟨e, he, hb⟩
    exact ⟨e.2, (look_some h).2 ⟨e, he, hb, rfl⟩⟩

/-- One more. -/
theorem set_mem (h : Up es) {b : UInt8} {x : Th} {e : Ent} : e ∈ setE es b x ↔ e = (b, x) ∨ (e ∈ es ∧ e.1 ≠ b) := by
  unfold setE
  by_cases hb : hasE es b.toNat = true
  · rw [if_pos hb]
    obtain ⟨a, ha, hab, _, hl⟩ := has_at hb
    have hab' : a.1 = b := UInt8.toNat.inj hab
    constructor
    · intro q
      obtain ⟨i, hi⟩ := List.mem_iff_getElem?.1 q
      rw [List.getElem?_set] at hi
      split at hi
      · left; simp only [Option.some.injEq] at hi; exact hi.symm
      · right
        rename_i hne
        refine ⟨List.mem_of_getElem? hi, fun q => ?_⟩
        rcases Nat.lt_or_gt_of_ne hne with q1 | q1
        · have := h.at_ q1 ha hi; rw [q, hab'] at this; omega
        · have := h.at_ q1 hi ha; rw [q, hab'] at this; omega
    · rintro (rfl | ⟨q, hne⟩)
      · exact List.mem_iff_getElem?.2 ⟨pos es b.toNat, by rw [List.getElem?_set]; simp [hl]⟩
      · obtain ⟨i, hi⟩ := List.mem_iff_getElem?.1 q
        refine List.mem_iff_getElem?.2 ⟨i, ?_⟩
        rw [List.getElem?_set, if_neg]
        · exact hi
        · rintro rfl
          rw [ha] at hi; cases hi
          exact hne hab'
  · rw [if_neg hb]
    have hb' : hasE es b.toNat = false := by simpa using hb
    have hn : ∀ e ∈ es, e.1 ≠ b := fun e he q => hb ((has_mem h).2 ⟨e, he, by rw [q]⟩)
    rw [List.mem_append, List.mem_cons]
    constructor
    · rintro (q | q | q)
      · exact .inr ⟨List.mem_of_mem_take q, hn _ (List.mem_of_mem_take q)⟩
      · exact .inl q
      · exact .inr ⟨List.mem_of_mem_drop q, hn _ (List.mem_of_mem_drop q)⟩
    · rintro (q | ⟨q, _⟩)
      · exact .inr (.inl q)
      · rw [← List.take_append_drop (pos es b.toNat) es, List.mem_append] at q
        rcases q with q | q
        · exact .inl q
        · exact .inr (.inr q)
theorem set_up (h : Up es) (b : UInt8) (x : Th) : Up (setE es b x) := by
  unfold setE
  by_cases hb : hasE es b.toNat = true
  · rw [if_pos hb]
    obtain ⟨a, ha, hab, _, hl⟩ := has_at hb
    refine List.pairwise_iff_getElem.2 fun i j hi hj hij => ?_
    rw [List.getElem_set, List.getElem_set]
    have key := List.pairwise_iff_getElem.1 h i j (by simpa using hi) (by simpa using hj) hij
    obtain ⟨_, ha'⟩ := List.getElem?_eq_some_iff.1 ha
    split
    · split
      · omega
      · rename_i q _; subst q; rw [ha'] at key; show b.toNat < _; omega
    · split
      · rename_i q; subst q; rw [ha'] at key; show _ < b.toNat; omega
      · exact key
  · rw [if_neg hb]
    obtain ⟨s1, s2⟩ := h.split b.toNat
    have hn : ∀ e ∈ es, e.1.toNat ≠ b.toNat := fun e he q => hb ((has_mem h).2 ⟨e, he, q⟩)
    refine List.pairwise_append.2 ⟨h.sublist (List.take_sublist _ _), List.pairwise_cons.2 ⟨fun e he => ?_, h.sublist (List.drop_sublist _ _)⟩, fun a ha e he => ?_⟩
    · obtain ⟨i, hi⟩ := List.mem_iff_getElem?.1 he
      rw [List.getElem?_drop] at hi
      have := s2 _ e (by omega) hi
      have := hn e (List.mem_of_mem_drop he)
      show b.toNat < _; omega
    · obtain ⟨i, hi⟩ := List.mem_iff_getElem?.1 ha
      rw [List.getElem?_take] at hi
      split at hi
      · have h1 := s1 i a (by assumption) hi
        rcases List.mem_cons.1 he with q | q
        · subst q; exact h1
        · obtain ⟨j, hj⟩ := List.mem_iff_getElem?.1 q
          rw [List.getElem?_drop] at hj
          have := s2 _ e (by omega) hj
          omega
      · cases hi
theorem look_set (h : Up es) (b : UInt8) (x : Th) (i : Nat) : look (setE es b x) i = if i = b.toNat then some x else look es i := by
  have hu := set_up h b x
  by_cases hi : i = b.toNat
  · rw [if_pos hi]
    exact (look_some hu).2 ⟨(b, x), (set_mem h).2 (.inl rfl), hi.symm, rfl⟩
  · rw [if_neg hi]
    cases hq : look es i with
    | some y =>
      obtain ⟨e, he, h1, h2⟩ := (look_some h).1 hq
      refine (look_some hu).2 ⟨e, (set_mem h).2 (.inr ⟨he, fun q => hi (by rw [← h1, q])⟩), h1, h2⟩
    | none =>
      refine (look_none hu).2 fun e he q => ?_
      rcases (set_mem h).1 he with rfl | ⟨he', _⟩
      · exact hi q.symm
      · exact (look_none h).1 hq e he' q
theorem set_length (b : UInt8) (x : Th) : (setE es b x).length = if hasE es b.toNat then es.length else es.length + 1 := by
  unfold setE
  have := pos_le es b.toNat
  split
  · simp
  · simp only [List.length_append, List.length_take, List.length_cons, List.length_drop]; omega

/-- One less. -/
theorem drop_mem (h : Up es) {b : UInt8} {e : Ent} : e ∈ dropE es b ↔ e ∈ es ∧ e.1 ≠ b := by
  unfold dropE
  by_cases hb : hasE es b.toNat = true
  · rw [if_pos hb]
    obtain ⟨a, ha, hab, _, hl⟩ := has_at hb
    have hab' : a.1 = b := UInt8.toNat.inj hab
    rw [List.mem_append]
    constructor
    · rintro (q | q)
      · refine ⟨List.mem_of_mem_take q, fun hq => ?_⟩
        obtain ⟨i, hi⟩ := List.mem_iff_getElem?.1 q
        rw [List.getElem?_take] at hi
        split at hi
        · have := h.at_ (by assumption) hi ha; rw [hq, hab'] at this; omega
        · cases hi
      · refine ⟨List.mem_of_mem_drop q, fun hq => ?_⟩
        obtain ⟨i, hi⟩ := List.mem_iff_getElem?.1 q
        rw [List.getElem?_drop] at hi
        have := h.at_ (by omega) ha hi; rw [hq, hab'] at this; omega
    · rintro ⟨q, hne⟩
      obtain ⟨i, hi⟩ := List.mem_iff_getElem?.1 q
      rcases Nat.lt_trichotomy i (pos es b.toNat) with q1 | q1 | q1
      · left; exact List.mem_iff_getElem?.2 ⟨i, by rw [List.getElem?_take, if_pos q1]; exact hi⟩
      · subst q1; rw [ha] at hi; cases hi; exact absurd hab' hne
      · right; exact List.mem_iff_getElem?.2 ⟨i - (pos es b.toNat + 1), by rw [List.getElem?_drop, show pos es b.toNat + 1 + (i - (pos es b.toNat + 1)) = i from by omega]; exact hi⟩
  · rw [if_neg hb]
    exact ⟨fun q => ⟨q, fun hq => hb ((has_mem h).2 ⟨e, q, by rw [hq]⟩)⟩, fun q => q.1⟩
theorem drop_up (h : Up es) (b : UInt8) : Up (dropE es b) := by
  unfold dropE
  split
  · have := h.sublist (show List.Sublist (es.take (pos es b.toNat) ++ es.drop (pos es b.toNat + 1)) es by
      conv => rhs; rw [← List.take_append_drop (pos es b.toNat) es]
      exact List.Sublist.append (List.Sublist.refl _) (by rw [show es.drop (pos es b.toNat + 1) = (es.drop (pos es b.toNat)).drop 1 from by rw [List.drop_drop]]; exact List.drop_sublist _ _))
    exact this
  · exact h
theorem look_drop (h : Up es) (b : UInt8) (i : Nat) : look (dropE es b) i = if i = b.toNat then none else look es i := by
  have hu := drop_up h b
  by_cases hi : i = b.toNat
  · rw [if_pos hi]
    exact (look_none hu).2 fun e he q => ((drop_mem h).1 he).2 (UInt8.toNat.inj (q.trans hi))
  · rw [if_neg hi]
    cases hq : look es i with
    | some y =>
      obtain ⟨e, he, h1, h2⟩ := (look_some h).1 hq
      exact (look_some hu).2 ⟨e, (drop_mem h).2 ⟨he, fun q => hi (by rw [← h1, q])⟩, h1, h2⟩
    | none => exact (look_none hu).2 fun e he q => (look_none h).1 hq e ((drop_mem h).1 he).1 q
theorem drop_length {b : UInt8} (hb : hasE es b.toNat = true) : (dropE es b).length + 1 = es.length := by
  obtain ⟨a, ha, hab, _, hl⟩ := has_at hb
  unfold dropE
  rw [if_pos hb]
  simp only [List.length_append, List.length_take, List.length_drop]; omega

/-- One's own byte tells one's place. -/
theorem pos_at (h : Up es) {i : Nat} {e : Ent} (hi : es[i]? = some e) : pos es e.1.toNat = i := by
  refine pos_of (by have := (List.getElem?_eq_some_iff.1 hi).1; omega) (fun t a ht ha => h.at_ ht ha hi) (fun t a ht ha => ?_)
  rcases Nat.lt_or_eq_of_le ht with q | q
  · have := h.at_ q hi ha; omega
  · subst q; rw [hi] at ha; cases ha; exact Nat.le_refl _
theorem pos_behind (h : Up es) {i : Nat} {e : Ent} (hi : es[i]? = some e) : pos es (e.1.toNat + 1) = i + 1 := by
  refine pos_of (by have := (List.getElem?_eq_some_iff.1 hi).1; omega) (fun t a ht ha => ?_) (fun t a ht ha => ?_)
  · rcases Nat.lt_or_eq_of_le (show t ≤ i by omega) with q | q
    · have := h.at_ q ha hi; omega
    · subst q; rw [hi] at ha; cases ha; omega
  · have := h.at_ (show i < t by omega) hi ha; omega
theorem has_own (h : Up es) {i : Nat} {e : Ent} (hi : es[i]? = some e) : hasE es e.1.toNat = true ∧ getE es e.1.toNat = e.2 := by
  have hp := pos_at h hi
  have : look es e.1.toNat = some e.2 := by unfold look; rw [hp, hi]; simp
  exact ⟨by unfold hasE; rw [this]; rfl, by unfold getE; rw [this]; rfl⟩
/-- The greatest one that is not above a. -/
theorem prev_is (h : Up es) {a : Nat} (ha : a ≤ 255) : prevE es (a : Int) = if pos es (a + 1) = 0 then none else es[pos es (a + 1) - 1]? := by
  have e1 : (min (a : Int) 255).toNat = a := by omega
  unfold prevE
  rw [if_neg (by omega), e1]
  cases hb : hasE es a with
  | true =>
    obtain ⟨e, he, hea, _, _⟩ := has_at hb
    have hp := pos_behind h he
    rw [hea] at hp
    rw [if_pos rfl, hp, if_neg (by omega), Nat.add_sub_cancel]
  | false =>
    have hn := (has_no hb).2
    obtain ⟨s1, s2⟩ := h.split a
    have hp : pos es (a + 1) = pos es a := by
      refine pos_of (pos_le _ _) (fun t e ht he => by have := s1 t e ht he; omega) (fun t e ht he => ?_)
      have h1 := s2 t e ht he
      rcases Nat.lt_or_eq_of_le h1 with q | q
      · omega
      · exfalso
        have := pos_at h he
        rw [← q] at this
        exact hn e (by rw [this]; exact he) q.symm
    rw [if_neg (by simp), hp]

/-- From where the k-th one is looked for, rising and falling. -/
def upA (es : List Ent) (k : Nat) : Nat := if k = 0 then 0 else match es[k - 1]? with | some e => e.1.toNat + 1 | none => 0
def dnA (es : List Ent) (k : Nat) : Int := if k = 0 then 255 else match es[es.length - k]? with | some e => (e.1.toNat : Int) - 1 | none => 0
theorem upA_succ {k : Nat} {e : Ent} (h : es[k]? = some e) : upA es (k + 1) = e.1.toNat + 1 := by simp [upA, h]
theorem dnA_succ {k : Nat} {e : Ent} (h : es[es.length - (k + 1)]? = some e) : dnA es (k + 1) = (e.1.toNat : Int) - 1 := by simp [dnA, h]
theorem upA_le (es : List Ent) (k : Nat) : upA es k ≤ 256 := by
  unfold upA
  split
  · omega
  · split
    · rename_i e _; have := e.1.toNat_lt; omega
    · omega
theorem dnA_in (es : List Ent) (k : Nat) : -1 ≤ dnA es k ∧ dnA es k ≤ 255 := by
  unfold dnA
  split
  · omega
  · split
    · rename_i e _; have := e.1.toNat_lt; omega
    · omega
theorem pos_upA (h : Up es) {k : Nat} (hk : k ≤ es.length) : pos es (upA es k) = k := by
  cases k with
  | zero => exact pos_of (Nat.zero_le _) (fun t e ht => by omega) (fun t e _ _ => by simp [upA])
  | succ k =>
    have hi := List.getElem?_eq_getElem (show k < es.length by omega)
    rw [upA_succ hi]
    exact pos_behind h hi
theorem next_upA (h : Up es) {k : Nat} (hk : k ≤ es.length) (ha : upA es k ≤ 255) : nextE es (upA es k : Int) = es[k]? := by
  unfold nextE
  rw [if_neg (by omega), Int.toNat_natCast, pos_upA h hk]
theorem upA_end (h : Up es) {k : Nat} (hk : k ≤ es.length) (ha : ¬ upA es k < 256) : k = es.length := by
  rcases Nat.lt_or_eq_of_le hk with q | q
  · obtain ⟨s1, s2⟩ := h.split (upA es k)
    have := s2 k _ (by rw [pos_upA h hk]; exact Nat.le_refl _) (List.getElem?_eq_getElem q)
    have := (es[k].1).toNat_lt
    omega
  · exact q
theorem pos_dnA (h : Up es) {k : Nat} (hk : k ≤ es.length) (ha : 0 ≤ dnA es k) : pos es ((dnA es k).toNat + 1) = es.length - k := by
  cases k with
  | zero => exact pos_of (by omega) (fun t e ht he => by have := e.1.toNat_lt; simp [dnA]; omega) (fun t e ht he => by have := (List.getElem?_eq_some_iff.1 he).1; omega)
  | succ k =>
    have hi := List.getElem?_eq_getElem (show es.length - (k + 1) < es.length by omega)
    rw [dnA_succ hi] at ha ⊢
    rw [show ((es[es.length - (k + 1)].1.toNat : Int) - 1).toNat + 1 = es[es.length - (k + 1)].1.toNat by omega]
    exact pos_at h hi
theorem prev_dnA (h : Up es) {k : Nat} (hk : k ≤ es.length) (ha : 0 ≤ dnA es k) : prevE es (dnA es k) = if k = es.length then none else es[es.length - (k + 1)]? := by
  have hin := dnA_in es k
  have := prev_is h (a := (dnA es k).toNat) (by omega)
  rw [show (((dnA es k).toNat : Nat) : Int) = dnA es k by omega, pos_dnA h hk ha] at this
  rw [this]
  by_cases q : k = es.length
  · rw [if_pos (by omega), if_pos q]
  · rw [if_neg (by omega), if_neg q, show es.length - k - 1 = es.length - (k + 1) by omega]
theorem dnA_end (h : Up es) {k : Nat} (hk : k ≤ es.length) (ha : dnA es k < 0) : k = es.length := by
  cases k with
  | zero => simp [dnA] at ha
  | succ k =>
    have hi := List.getElem?_eq_getElem (show es.length - (k + 1) < es.length by omega)
    rw [dnA_succ hi] at ha
    rcases Nat.eq_zero_or_pos (es.length - (k + 1)) with q | q
    · omega
    · exfalso
      have h0 := List.getElem?_eq_getElem (show 0 < es.length by omega)
      have := h.at_ q h0 hi
      omega
/-- What is left behind the first k, and what is left of it without its first one. -/
theorem drop_first (h : Up es) {k : Nat} {e : Ent} (hi : es[k]? = some e) : Up (es.drop k) ∧ hasE (es.drop k) e.1.toNat = true ∧ dropE (es.drop k) e.1 = es.drop (k + 1) := by
  have hu : Up (es.drop k) := h.sublist (List.drop_sublist _ _)
  have h0 : (es.drop k)[0]? = some e := by rw [List.getElem?_drop]; simpa using hi
  obtain ⟨hh, _⟩ := has_own hu h0
  refine ⟨hu, hh, ?_⟩
  unfold dropE
  rw [if_pos hh, pos_at hu h0]
  simp
end
end Go.Proofs.YtgelmhldicmmdaaGreat
