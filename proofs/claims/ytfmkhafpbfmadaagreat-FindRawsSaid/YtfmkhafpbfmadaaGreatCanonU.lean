/-
  A fine tree is the canonical one of its pairs; a tree's pairs rise. No program is run.
-/
import Derived.Test.YtfmkhafpbfmadaaGreatCanonP
namespace Go.Proofs.YtfmkhafpbfmadaaGreat

def Fo.above (b : UInt8) : Fo → Prop
  | .nil => True
  | .cons b' _ _ _ => b.toNat < b'.toNat
/-- A leaf has a value and no kids; what has no value has 0; the owner is o. -/
def wfN (o : Int) (x : Nn) (k : Fo) : Prop := (x.leaf = true → k = .nil ∧ x.has = true) ∧ (x.has = false → x.val = 0) ∧ x.ow = o
def Fo.wf (o : Int) : Fo → Prop
  | .nil => True
  | .cons b x k r => r.above b ∧ wfN o x k ∧ k.wf o ∧ r.wf o
theorem Fo.list_app (a : List UInt8) : ∀ (f : Fo) (w : List UInt8), f.list (a ++ w) = (f.list w).map fun p => (a ++ p.1, p.2)
  | .nil, _ => rfl
  | .cons b x k r, w => by
    simp only [Fo.list]
    rw [show ((a ++ w) ++ [b]) ++ x.part = a ++ ((w ++ [b]) ++ x.part) by simp, Fo.list_app a k, Fo.list_app a r]
    cases x.has <;> simp
theorem tlist_app (a : List UInt8) (x : Nn) (k : Fo) (w : List UInt8) : tlist x k (a ++ w) = (tlist x k w).map fun p => (a ++ p.1, p.2) := by
  unfold tlist
  rw [List.append_assoc, Fo.list_app a k]
  cases x.has <;> simp
theorem tlist_one (b : UInt8) (x : Nn) (k : Fo) : tlist x k [b] = (tlist x k []).map fun p => (b :: p.1, p.2) := by
  have := tlist_app [b] x k []
  simpa using this
theorem Fo.list_nil_cons (b : UInt8) (x : Nn) (k r : Fo) : (Fo.cons b x k r).list [] = ((tlist x k []).map fun p => (b :: p.1, p.2)) ++ r.list [] := by
  rw [Fo.list_cons, List.nil_append, tlist_one]
theorem tlist_part (x : Nn) (k : Fo) : tlist x k [] = (if x.has then [(x.part, x.val)] else []) ++ (k.list []).map fun p => (x.part ++ p.1, p.2) := by
  have := Fo.list_app x.part k []
  rw [List.append_nil] at this
  unfold tlist
  rw [List.nil_append, this]
/-- A forest's keys begin with its bytes. -/
theorem Fo.heads {o : Int} : ∀ {f : Fo} {b : UInt8}, f.wf o → f.above b → ∀ p ∈ f.list [], ∃ c t, p.1 = c :: t ∧ b.toNat < c.toNat
  | .nil, _, _, _, p, hp => by cases hp
  | .cons b' x k r, b, ⟨h1, h2, h3, h4⟩, ha, p, hp => by
    rw [Fo.list_nil_cons] at hp
    rcases List.mem_append.1 hp with q | q
    · obtain ⟨u, _, rfl⟩ := List.mem_map.1 q
      exact ⟨b', u.1, rfl, ha⟩
    · obtain ⟨c, t, e, hc⟩ := Fo.heads h4 h1 p q
      exact ⟨c, t, e, Nat.lt_trans ha hc⟩
theorem cmp_pre (a : List UInt8) (l m : List UInt8) : cmpL (a ++ l) (a ++ m) < 0 ↔ cmpL l m < 0 := by
  induction a with
  | nil => exact Iff.rfl
  | cons c a ih => rw [List.cons_append, List.cons_append, lt_cons]; simp [ih]
theorem cmp_longer (a : List UInt8) (c : UInt8) (t : List UInt8) : cmpL a (a ++ c :: t) < 0 := by
  induction a with
  | nil => simp [cmpL]
  | cons d a ih => rw [List.cons_append, lt_cons]; exact .inr ⟨rfl, ih⟩
theorem rise_pre {L : List KV} (a : List UInt8) (h : Rise L) : Rise (L.map fun p => (a ++ p.1, p.2)) := by
  unfold Rise at *
  rw [List.pairwise_map]
  exact h.imp fun hab => (cmp_pre a _ _).2 hab
theorem tree_rise {o : Int} {x : Nn} {k : Fo} (hk : k.wf o) (ih : Rise (k.list [])) : Rise (tlist x k []) := by
  rw [tlist_part]
  have h1 := rise_pre x.part ih
  have hh : ∀ p ∈ k.list [], ∃ c t, p.1 = c :: t := by
    cases k with
    | nil => intro p hp; cases hp
    | cons b y k' r =>
      obtain ⟨g1, g2, g3, g4⟩ := hk
      intro p hp
      rw [Fo.list_nil_cons] at hp
      rcases List.mem_append.1 hp with q | q
      · obtain ⟨u, _, rfl⟩ := List.mem_map.1 q
        exact ⟨b, u.1, rfl⟩
      · obtain ⟨c, t, e, _⟩ := Fo.heads g4 g1 p q
        exact ⟨c, t, e⟩
  cases x.has with
  | false => exact h1
  | true =>
    refine List.pairwise_cons.2 ⟨fun p hp => ?_, h1⟩
    obtain ⟨u, hu, rfl⟩ := List.mem_map.1 hp
    obtain ⟨c, t, e⟩ := hh u hu
    simp only [e]
    exact cmp_longer _ _ _
theorem Fo.rise {o : Int} : ∀ {f : Fo}, f.wf o → Rise (f.list [])
  | .nil, _ => List.Pairwise.nil
  | .cons b x k r, ⟨h1, h2, h3, h4⟩ => by
    rw [Fo.list_nil_cons]
    refine List.pairwise_append.2 ⟨rise_pre [b] (tree_rise (x := x) h3 (Fo.rise h3)), Fo.rise h4, fun p hp q hq => ?_⟩
    obtain ⟨u, _, rfl⟩ := List.mem_map.1 hp
    obtain ⟨c, t, e, hc⟩ := Fo.heads h4 h1 q hq
    rw [e]
    exact lt_cons.2 (.inl hc)

theorem tgood_ne {x : Nn} {k : Fo} (h : tgood x k) : tlist x k [] ≠ [] := fun q => by
  have := (tgood_points h [] 1).1
  rw [q] at this
  simp at this
theorem lcp_app (a l m : List UInt8) : lcp (a ++ l) (a ++ m) = a.length + lcp l m := by
  induction a with
  | nil => simp
  | cons c a ih => rw [List.cons_append, List.cons_append, lcp_same, ih, List.length_cons]; omega
theorem cut_pre (a : List UInt8) (L : List KV) : cut a.length (L.map fun p => (a ++ p.1, p.2)) = L := by
  unfold cut
  rw [List.map_map]
  conv => rhs; rw [← List.map_id L]
  exact List.map_congr_left fun p _ => by simp
/-- A fine tree is the canonical one of its pairs: the step at a node. -/
theorem tree_can {o : Int} {x : Nn} {k : Fo} (hx : wfN o x k) (hk : k.wf o) (hg : okN x k) (hkg : k.good) (ih : ∀ f, (∀ p ∈ k.list [], p.1.length ≤ f) → mkF (cT o f) (grp (k.list [])) = k) (f : Nat) (hf : ∀ p ∈ tlist x k [], p.1.length < f) : cT o f (tlist x k []) = (x, k) := by
  obtain ⟨w1, w2, w3⟩ := hx
  obtain ⟨xl, xo, xp, xv, xh⟩ := x
  simp only at w1 w2 w3
  subst w3
  cases hl : xl with
  | true =>
    subst hl
    obtain ⟨rfl, rfl⟩ := w1 rfl
    rw [tlist_part]
    cases f <;> simp [Fo.list, cT]
  | false =>
    subst hl
    unfold okN at hg
    simp only [Bool.false_eq_true, if_false] at hg
    obtain ⟨f', rfl⟩ : ∃ f', f = f' + 1 := by
      rcases f with _ | f'
      · have hne := tgood_ne (x := ⟨false, xo, xp, xv, xh⟩) (k := k) ⟨by unfold okN; simpa using hg, hkg⟩
        rcases ht : tlist ⟨false, xo, xp, xv, xh⟩ k [] with _ | ⟨p, r⟩
        · exact absurd ht hne
        · have := hf p (by rw [ht]; simp)
          omega
      · exact ⟨f', rfl⟩
    have hfk : ∀ p ∈ k.list [], p.1.length ≤ f' := fun p hp => by
      have := hf (xp ++ p.1, p.2) (by rw [tlist_part]; exact List.mem_append_right _ (List.mem_map.2 ⟨p, hp, rfl⟩))
      simp at this
      omega
    have hi := ih f' hfk
    rw [tlist_part]
    cases k with
    | nil => cases xh <;> simp [Fo.len] at hg
    | cons b y k1 r =>
      obtain ⟨h1, h2, h3, h4⟩ := hk
      obtain ⟨g1, g2, g3⟩ := hkg
      rcases hM : (Fo.cons b y k1 r).list [] with _ | ⟨m0, ms⟩
      · rw [Fo.list_nil_cons] at hM
        have := (List.append_eq_nil_iff.1 hM).1
        exact absurd (List.map_eq_nil_iff.1 this) (tgood_ne ⟨g1, g2⟩)
      · have hb0 : ∃ t, m0.1 = b :: t := by
          rw [Fo.list_nil_cons] at hM
          rcases ht : tlist y k1 [] with _ | ⟨u, us⟩
          · exact absurd ht (tgood_ne ⟨g1, g2⟩)
          · rw [ht] at hM
            simp only [List.map_cons, List.cons_append, List.cons.injEq] at hM
            exact ⟨u.1, by rw [← hM.1]⟩
        obtain ⟨t0, ht0⟩ := hb0
        cases xh with
        | true =>
          simp only [if_true, List.map_cons, List.singleton_append]
          unfold cT
          have hlast : ∃ u, (((xp ++ m0.1, m0.2) :: ms.map fun p => (xp ++ p.1, p.2)).getLast (by simp)).1 = xp ++ u := by
            have hm := List.getLast_mem (l := ((xp ++ m0.1, m0.2) :: ms.map fun p => (xp ++ p.1, p.2))) (by simp)
            rcases List.mem_cons.1 hm with q | q
            · exact ⟨m0.1, by rw [q]⟩
            · obtain ⟨u, _, hu⟩ := List.mem_map.1 q
              exact ⟨u.1, by rw [← hu]⟩
          obtain ⟨u, hu⟩ := hlast
          have he : lcp xp (xp ++ u) = xp.length := by
            have := lcp_app xp [] u
            rw [List.append_nil] at this
            rw [this]
            cases u <;> simp [lcp]
          simp only [hu, he, if_true]
          rw [show ((xp ++ m0.1, m0.2) :: ms.map fun p => (xp ++ p.1, p.2)) = (m0 :: ms).map fun p => (xp ++ p.1, p.2) from rfl, cut_pre, ← hM, hi]
          simp
        | false =>
          obtain rfl : xv = 0 := w2 rfl
          simp only [Bool.false_eq_true, if_false, List.nil_append, List.map_cons]
          simp only [Fo.len, Bool.false_eq_true, if_false, Nat.add_zero] at hg
          have hr2 : r.list [] ≠ [] := by
            cases r with
            | nil => simp [Fo.len] at hg
            | cons b' y' k' r' =>
              intro q
              rw [Fo.list_nil_cons] at q
              have := (List.append_eq_nil_iff.1 q).1
              exact absurd (List.map_eq_nil_iff.1 this) (tgood_ne ⟨g3.1, g3.2.1⟩)
          rcases ms with _ | ⟨m1, ms⟩
          · exfalso
            rw [Fo.list_nil_cons] at hM
            have h5 := congrArg List.length hM
            have h6 : 0 < (tlist y k1 []).length := List.length_pos_iff.2 (tgood_ne ⟨g1, g2⟩)
            have h7 : 0 < (r.list []).length := List.length_pos_iff.2 hr2
            simp at h5
            omega
          · simp only [List.map_cons]
            unfold cT
            have hlast : ∃ c t, (((xp ++ m1.1, m1.2) :: ms.map fun p => (xp ++ p.1, p.2)).getLast (by simp)).1 = xp ++ c :: t ∧ b.toNat < c.toNat := by
              have e1 : ((xp ++ m1.1, m1.2) :: ms.map fun p => (xp ++ p.1, p.2)) = (m1 :: ms).map fun p => (xp ++ p.1, p.2) := rfl
              have e2 : (m1 :: ms).getLast (by simp) = (r.list []).getLast hr2 := by
                have e3 : (m0 :: m1 :: ms).getLast (by simp) = (m1 :: ms).getLast (by simp) := List.getLast_cons (by simp)
                rw [← e3]
                have e4 : (m0 :: m1 :: ms) = ((tlist y k1 []).map fun p => (b :: p.1, p.2)) ++ r.list [] := by rw [← hM, Fo.list_nil_cons]
                simp only [e4]
                exact List.getLast_append_of_ne_nil _ hr2
              obtain ⟨c, t, e, hc⟩ := Fo.heads h4 h1 _ (List.getLast_mem hr2)
              refine ⟨c, t, ?_, hc⟩
              simp only [e1]
              rw [List.getLast_map, e2, e]
            obtain ⟨c, t, hu, hc⟩ := hlast
            have he : lcp (xp ++ m0.1) (xp ++ c :: t) = xp.length := by
              rw [lcp_app, ht0, lcp_ne (fun q => by rw [q] at hc; omega)]
              omega
            simp only [hu, he]
            rw [if_neg (by rw [ht0]; simp)]
            rw [show ((xp ++ m0.1, m0.2) :: (xp ++ m1.1, m1.2) :: ms.map fun p => (xp ++ p.1, p.2)) = (m0 :: m1 :: ms).map fun p => (xp ++ p.1, p.2) from rfl, cut_pre, ← hM, hi]
            simp
theorem Fo.can {o : Int} : ∀ (k : Fo), k.wf o → k.good → ∀ f, (∀ p ∈ k.list [], p.1.length ≤ f) → mkF (cT o f) (grp (k.list [])) = k
  | .nil, _, _, _, _ => rfl
  | .cons b x k r, ⟨h1, h2, h3, h4⟩, ⟨g1, g2, g3⟩, f, hf => by
    rw [Fo.list_nil_cons] at hf ⊢
    rw [grp_step (fun p r' hp => by
      cases r with
      | nil => cases hp
      | cons b' y k' r'' =>
        obtain ⟨c, t, e, hc⟩ := Fo.heads h4 h1 p (by rw [hp]; simp)
        exact ⟨c, t, e, fun q => by rw [q] at hc; omega⟩) _ (tgood_ne ⟨g1, g2⟩)]
    have e1 := tree_can h2 h3 g1 g2 (fun f' hf' => Fo.can k h3 g2 f' hf') f (fun p hp => by
      have := hf (b :: p.1, p.2) (List.mem_append_left _ (List.mem_map.2 ⟨p, hp, rfl⟩))
      simp at this
      omega)
    rw [mkF, e1, Fo.can r h4 g3 f (fun p hp => hf p (List.mem_append_right _ hp))]
theorem canon_is {o : Int} {x : Nn} {k : Fo} (hx : wfN o x k) (hk : k.wf o) (hg : tgood x k) (f : Nat) (hf : ∀ p ∈ tlist x k [], p.1.length < f) : cT o f (tlist x k []) = (x, k) :=
  tree_can hx hk hg.1 hg.2 (fun f' hf' => Fo.can k hk hg.2 f' hf') f hf
end Go.Proofs.YtfmkhafpbfmadaaGreat
