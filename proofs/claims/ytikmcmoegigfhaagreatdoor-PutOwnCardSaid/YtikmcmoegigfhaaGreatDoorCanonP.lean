/-
  Trees without memory: their pairs, and what holds of a canonical tree: it has just its pairs, each inner node has two occupants or more. No program is run.
-/
import Derived.Test.YtikmcmoegigfhaaGreatDoorCanon
import Derived.Test.YtikmcmoegigfhaaGreatDoorCanRead
namespace Go.Proofs.YtikmcmoegigfhaaGreatDoor

def ungrp : List (UInt8 × List KV) → List KV
  | [] => []
  | (b, g) :: gs => g.map (fun p => (b :: p.1, p.2)) ++ ungrp gs
theorem grp_spec : ∀ (L : List KV), (∀ p ∈ L, p.1 ≠ []) → Rise L → ungrp (grp L) = L ∧ (∀ x ∈ grp L, x.2 ≠ [] ∧ Rise x.2) ∧ (grp L).Pairwise fun a b => a.1.toNat < b.1.toNat
  | [], _, _ => ⟨rfl, fun x hx => (by cases hx), List.Pairwise.nil⟩
  | ([], v) :: r, h, _ => absurd rfl (h _ (List.mem_cons_self ..))
  | (b :: k, v) :: r, h, hr => by
    obtain ⟨h1, h2⟩ := List.pairwise_cons.1 hr
    obtain ⟨i1, i2, i3⟩ := grp_spec r (fun p hp => h p (List.mem_cons_of_mem _ hp)) h2
    show ungrp (gput b (k, v) (grp r)) = _ ∧ (∀ x ∈ gput b (k, v) (grp r), _) ∧ (gput b (k, v) (grp r)).Pairwise _
    rcases hg : grp r with _ | ⟨⟨b', g'⟩, gs⟩
    · rw [hg] at i1
      have hr0 : r = [] := i1.symm
      subst hr0
      exact ⟨rfl, fun x hx => by simp [gput] at hx; subst hx; exact ⟨by simp, List.pairwise_singleton _ _⟩, by simp [gput]⟩
    · rw [hg] at i1 i2 i3
      have hin : ∀ p ∈ g', (b' :: p.1, p.2) ∈ r := fun p hp => by
        rw [← i1]
        exact List.mem_append_left _ (List.mem_map.2 ⟨p, hp, rfl⟩)
      obtain ⟨n1, n2⟩ := i2 (b', g') (List.mem_cons_self ..)
      obtain ⟨j1, j2⟩ := List.pairwise_cons.1 i3
      by_cases hb : b = b'
      · subst hb
        rw [gput_same]
        refine ⟨?_, fun x hx => ?_, ?_⟩
        · simp only [ungrp, List.map_cons, List.cons_append]
          rw [← i1]
          rfl
        · rcases List.mem_cons.1 hx with rfl | hx
          · refine ⟨by simp, List.pairwise_cons.2 ⟨fun p hp => ?_, n2⟩⟩
            have := h1 _ (hin p hp)
            rw [lt_cons] at this
            rcases this with q | ⟨_, q⟩
            · omega
            · exact q
          · exact i2 x (List.mem_cons_of_mem _ hx)
        · exact List.pairwise_cons.2 ⟨j1, j2⟩
      · rw [gput_far _ hb]
        have hlt : b.toNat < b'.toNat := by
          rcases g' with _ | ⟨p, g'⟩
          · exact absurd rfl n1
          · have := h1 _ (hin p (List.mem_cons_self ..))
            rw [lt_cons] at this
            rcases this with q | ⟨q, _⟩
            · exact q
            · exact absurd q hb
        refine ⟨?_, fun x hx => ?_, ?_⟩
        · rw [← i1]
          rfl
        · rcases List.mem_cons.1 hx with rfl | hx
          · exact ⟨by simp, List.pairwise_singleton _ _⟩
          · exact i2 x hx
        · refine List.pairwise_cons.2 ⟨fun x hx => ?_, i3⟩
          rcases List.mem_cons.1 hx with rfl | hx
          · exact hlt
          · exact Nat.lt_trans hlt (j1 x hx)

/-- A forest's pairs, behind some bytes; a tree's. -/
def Fo.list : Fo → List UInt8 → List KV
  | .nil, _ => []
  | .cons b x k r, pw => ((if x.has then [((pw ++ [b]) ++ x.part, x.val)] else []) ++ k.list ((pw ++ [b]) ++ x.part)) ++ r.list pw
def tlist (x : Nn) (k : Fo) (pw : List UInt8) : List KV := (if x.has then [(pw ++ x.part, x.val)] else []) ++ k.list (pw ++ x.part)
theorem Fo.list_cons (b : UInt8) (x : Nn) (k r : Fo) (pw : List UInt8) : (Fo.cons b x k r).list pw = tlist x k (pw ++ [b]) ++ r.list pw := rfl
/-- A leaf has a value and no kids, an inner node at least two occupants. -/
def okN (x : Nn) (k : Fo) : Prop := if x.leaf then k = .nil ∧ x.has = true else 2 ≤ k.len + (if x.has then 1 else 0)
def Fo.good : Fo → Prop
  | .nil => True
  | .cons _ x k r => okN x k ∧ k.good ∧ r.good
def tgood (x : Nn) (k : Fo) : Prop := okN x k ∧ k.good

theorem kv_list (x : Nn) (w : List UInt8) : (if x.has then [(w, x.val)] else [] : List KV).length = if x.has then 1 else 0 := by cases x.has <;> rfl
theorem Fo.vis_cnt : ∀ (f : Fo) (pw : List UInt8) (d : Nat), listV (f.vis pw d) = (f.list pw).map fun p => (p.1, [.int .u64 p.2])
  | .nil, _, _ => rfl
  | .cons b x k r, pw, d => by
    have e1 := Fo.vis_cnt k ((pw ++ [b]) ++ x.part) (d + 1)
    have e2 := Fo.vis_cnt r pw d
    unfold listV at e1 e2 ⊢
    simp only [Fo.vis, Fo.list, List.filterMap_cons, List.filterMap_append, List.map_append, e1, e2]
    cases x.has <;> simp
theorem tvis_list (x : Nn) (k : Fo) (pw : List UInt8) (d : Nat) : listV (tvis x k pw d) = (tlist x k pw).map fun p => (p.1, [.int .u64 p.2]) := by
  have e1 := Fo.vis_cnt k (pw ++ x.part) (d + 1)
  unfold listV at e1 ⊢
  simp only [tvis, tlist, List.filterMap_cons, List.map_append, e1]
  cases x.has <;> simp
theorem listV_len (vs : List Vt) : (listV vs).length = cntV vs := by
  induction vs with
  | nil => rfl
  | cons v vs ih =>
    unfold listV cntV at *
    rw [List.filterMap_cons, List.countP_cons]
    cases v.x.has <;> simp [ih]
theorem pointV_len (vs : List Vt) : (pointV vs).length = vs.countP fun v => !v.x.leaf := by
  induction vs with
  | nil => rfl
  | cons v vs ih =>
    unfold pointV at *
    rw [List.filterMap_cons, List.countP_cons]
    cases v.x.leaf <;> simp [ih]
theorem Fo.good_points : ∀ (f : Fo) (pw : List UInt8) (d : Nat), f.good → (f.vis pw d).countP (fun v => !v.x.leaf) + f.len ≤ (f.list pw).length ∧ (f.vis pw d).length ≤ (f.vis pw d).countP (fun v => !v.x.leaf) + (f.list pw).length
  | .nil, _, _, _ => by simp [Fo.vis, Fo.len, Fo.list]
  | .cons b x k r, pw, d, ⟨h1, h2, h3⟩ => by
    obtain ⟨a1, a2⟩ := Fo.good_points k ((pw ++ [b]) ++ x.part) (d + 1) h2
    obtain ⟨b1, b2⟩ := Fo.good_points r pw d h3
    simp only [Fo.vis, Fo.len, Fo.list, List.countP_cons, List.countP_append, List.length_cons, List.length_append, kv_list]
    unfold okN at h1
    cases hl : x.leaf with
    | true =>
      rw [hl] at h1
      simp only [if_true] at h1
      obtain ⟨rfl, hh⟩ := h1
      rw [hh]
      simp [Fo.vis, Fo.list] at *
      omega
    | false =>
      rw [hl] at h1
      simp only [Bool.false_eq_true, if_false] at h1
      cases hh : x.has <;> rw [hh] at h1 <;> simp at * <;> omega
theorem tgood_points {x : Nn} {k : Fo} (h : tgood x k) (pw : List UInt8) (d : Nat) : (tvis x k pw d).countP (fun v => !v.x.leaf) + 1 ≤ (tlist x k pw).length ∧ (tvis x k pw d).length ≤ (tvis x k pw d).countP (fun v => !v.x.leaf) + (tlist x k pw).length := by
  obtain ⟨h1, h2⟩ := h
  obtain ⟨a1, a2⟩ := Fo.good_points k (pw ++ x.part) (d + 1) h2
  simp only [tvis, tlist, List.countP_cons, List.length_cons, List.length_append, kv_list]
  unfold okN at h1
  cases hl : x.leaf with
  | true =>
    rw [hl] at h1
    simp only [if_true] at h1
    obtain ⟨rfl, hh⟩ := h1
    rw [hh]
    simp [Fo.vis, Fo.list] at *
  | false =>
    rw [hl] at h1
    simp only [Bool.false_eq_true, if_false] at h1
    cases hh : x.has <;> rw [hh] at h1 <;> simp at * <;> omega
theorem Fo.vis_len : ∀ (f : Fo) (pw : List UInt8) (d : Nat), (f.vis pw d).length = f.tn
  | .nil, _, _ => rfl
  | .cons b x k r, pw, d => by
    simp only [Fo.vis, Fo.tn, List.length_cons, List.length_append, Fo.vis_len k, Fo.vis_len r]
    omega
theorem tvis_len (x : Nn) (k : Fo) (pw : List UInt8) (d : Nat) : (tvis x k pw d).length = 1 + k.tn := by
  simp only [tvis, List.length_cons, Fo.vis_len]
  omega
theorem Fo.vis_deep : ∀ (f : Fo) (pw : List UInt8) (d : Nat) (v : Vt), v ∈ f.vis pw d → v.deep + pw.length + 1 ≤ d + v.way.length
  | .nil, _, _, _, h => by cases h
  | .cons b x k r, pw, d, v, h => by
    simp only [Fo.vis, List.mem_cons, List.mem_append] at h
    rcases h with rfl | h | h
    · simp; omega
    · have := Fo.vis_deep k _ _ v h
      simp at this
      omega
    · exact Fo.vis_deep r _ _ v h
theorem tvis_deep {x : Nn} {k : Fo} {v : Vt} (h : v ∈ tvis x k [] 1) : v.deep ≤ v.way.length + 1 := by
  simp only [tvis, List.mem_cons] at h
  rcases h with rfl | h
  · simp
  · have := Fo.vis_deep k _ _ v h
    omega
theorem Fo.good_way : ∀ (f : Fo) (pw : List UInt8) (d : Nat), f.good → (∀ v ∈ f.vis pw d, ∃ p ∈ f.list pw, v.way.length ≤ p.1.length) ∧ (f.len ≠ 0 → ∃ p ∈ f.list pw, pw.length < p.1.length)
  | .nil, _, _, _ => ⟨fun v hv => (by cases hv), fun h => absurd rfl h⟩
  | .cons b x k r, pw, d, ⟨h1, h2, h3⟩ => by
    obtain ⟨a1, a2⟩ := Fo.good_way k ((pw ++ [b]) ++ x.part) (d + 1) h2
    obtain ⟨b1, _⟩ := Fo.good_way r pw d h3
    have hx : ∃ p ∈ tlist x k (pw ++ [b]), ((pw ++ [b]) ++ x.part).length ≤ p.1.length := by
      unfold okN at h1
      unfold tlist
      cases hh : x.has with
      | true => exact ⟨((pw ++ [b]) ++ x.part, x.val), by simp, Nat.le_refl _⟩
      | false =>
        rw [hh] at h1
        cases hl : x.leaf with
        | true => rw [hl] at h1; simp at h1
        | false =>
          rw [hl] at h1
          simp only [Bool.false_eq_true, if_false] at h1
          obtain ⟨p, hp, hlen⟩ := a2 (by omega)
          exact ⟨p, by simpa using hp, by omega⟩
    obtain ⟨p, hp, hlen⟩ := hx
    refine ⟨fun v hv => ?_, fun _ => ⟨p, by rw [Fo.list_cons]; exact List.mem_append_left _ hp, by simp at hlen; omega⟩⟩
    simp only [Fo.vis, List.mem_cons, List.mem_append] at hv
    rcases hv with rfl | hv | hv
    · exact ⟨p, by rw [Fo.list_cons]; exact List.mem_append_left _ hp, hlen⟩
    · obtain ⟨p', hp', hl'⟩ := a1 v hv
      exact ⟨p', by rw [Fo.list_cons]; exact List.mem_append_left _ (List.mem_append_right _ hp'), hl'⟩
    · obtain ⟨p', hp', hl'⟩ := b1 v hv
      exact ⟨p', by rw [Fo.list_cons]; exact List.mem_append_right _ hp', hl'⟩
theorem tgood_way {x : Nn} {k : Fo} (h : tgood x k) (pw : List UInt8) (d : Nat) : ∀ v ∈ tvis x k pw d, ∃ p ∈ tlist x k pw, v.way.length ≤ p.1.length := by
  obtain ⟨h1, h2⟩ := h
  obtain ⟨a1, a2⟩ := Fo.good_way k (pw ++ x.part) (d + 1) h2
  intro v hv
  simp only [tvis, List.mem_cons] at hv
  rcases hv with rfl | hv
  · unfold okN at h1
    unfold tlist
    cases hh : x.has with
    | true => exact ⟨(pw ++ x.part, x.val), by simp, Nat.le_refl _⟩
    | false =>
      rw [hh] at h1
      cases hl : x.leaf with
      | true => rw [hl] at h1; simp at h1
      | false =>
        rw [hl] at h1
        simp only [Bool.false_eq_true, if_false] at h1
        obtain ⟨p, hp, hlen⟩ := a2 (by omega)
        exact ⟨p, by simpa using hp, by dsimp only; omega⟩
  · obtain ⟨p', hp', hl'⟩ := a1 v hv
    exact ⟨p', List.mem_append_right _ hp', hl'⟩

theorem mkF_len (c : List KV → Nn × Fo) (gs : List (UInt8 × List KV)) : (mkF c gs).len = gs.length := by
  induction gs with
  | nil => rfl
  | cons g gs ih => obtain ⟨b, g⟩ := g; simp only [mkF, Fo.len, ih, List.length_cons]
theorem mkF_list (c : List KV → Nn × Fo) (pw : List UInt8) : ∀ gs : List (UInt8 × List KV), (∀ x ∈ gs, ∀ w, tlist (c x.2).1 (c x.2).2 w = x.2.map fun p => (w ++ p.1, p.2)) → (mkF c gs).list pw = (ungrp gs).map fun p => (pw ++ p.1, p.2)
  | [], _ => rfl
  | (b, g) :: gs, h => by
    rw [mkF, Fo.list_cons, mkF_list c pw gs (fun x hx => h x (List.mem_cons_of_mem _ hx)), h (b, g) (List.mem_cons_self ..), ungrp, List.map_append, List.map_map]
    congr 1
    exact List.map_congr_left fun p _ => by simp
theorem mkF_good (c : List KV → Nn × Fo) : ∀ gs : List (UInt8 × List KV), (∀ x ∈ gs, tgood (c x.2).1 (c x.2).2) → (mkF c gs).good
  | [], _ => trivial
  | (b, g) :: gs, h => ⟨(h (b, g) (List.mem_cons_self ..)).1, (h (b, g) (List.mem_cons_self ..)).2, mkF_good c gs fun x hx => h x (List.mem_cons_of_mem _ hx)⟩
theorem lcp_take : ∀ {p u : List UInt8} {e : Nat}, e ≤ lcp p u → u = p.take e ++ u.drop e
  | _, _, 0, _ => by simp
  | [], _, _ + 1, h => by simp [lcp] at h
  | _ :: _, [], _ + 1, h => by simp [lcp] at h
  | a :: p, b :: u, e + 1, h => by
    by_cases hb : a = b
    · subst hb
      rw [lcp_same] at h
      simp only [List.take_succ_cons, List.drop_succ_cons, List.cons_append]
      rw [← lcp_take (Nat.le_of_succ_le_succ h)]
    · rw [lcp_ne hb] at h; omega
theorem lcp_same2 : ∀ x : List UInt8, lcp x x = x.length
  | [] => rfl
  | a :: x => by rw [lcp_same, lcp_same2 x]; rfl
theorem lcp_differ : ∀ {p z : List UInt8}, lcp p z < p.length → lcp p z < z.length → p[lcp p z]? ≠ z[lcp p z]?
  | [], _, h, _ => by simp at h
  | _ :: _, [], _, h => by simp at h
  | a :: p, b :: z, h1, h2 => by
    by_cases hb : a = b
    · subst hb
      rw [lcp_same] at *
      simp only [List.getElem?_cons_succ]
      exact lcp_differ (by simpa using h1) (by simpa using h2)
    · rw [lcp_ne hb]
      simp [hb]
theorem ungrp_len1 {b : UInt8} {g : List KV} : ∀ p ∈ ungrp [(b, g)], p.1[0]? = some b := by
  intro p hp
  simp only [ungrp, List.append_nil, List.mem_map] at hp
  obtain ⟨q, _, rfl⟩ := hp
  rfl

theorem mem_ungrp : ∀ {gs : List (UInt8 × List KV)} {x : UInt8 × List KV} {u : KV}, x ∈ gs → u ∈ x.2 → (x.1 :: u.1, u.2) ∈ ungrp gs
  | (b, g) :: gs, x, u, hx, hu => by
    rcases List.mem_cons.1 hx with rfl | hx
    · exact List.mem_append_left _ (List.mem_map.2 ⟨u, hu, rfl⟩)
    · exact List.mem_append_right _ (mem_ungrp hx hu)
theorem cT_spec (o : Int) : ∀ (f : Nat) (L : List KV), L ≠ [] → Rise L → (∀ p ∈ L, p.1.length < f) → (∀ pw, tlist (cT o f L).1 (cT o f L).2 pw = L.map fun p => (pw ++ p.1, p.2)) ∧ tgood (cT o f L).1 (cT o f L).2
  | 0, L, h, _, hf => by
    rcases L with _ | ⟨p, L⟩
    · exact absurd rfl h
    · have := hf p (List.mem_cons_self ..); omega
  | f + 1, [], h, _, _ => absurd rfl h
  | f + 1, [p], _, _, _ => ⟨fun pw => by simp [cT, tlist, Fo.list], by simp [cT, tgood, okN, Fo.good]⟩
  | f + 1, p :: q :: r, _, hr, hf => by
    have hends := rise_ends hr
    obtain ⟨z, hz⟩ : ∃ z, (q :: r).getLast (by simp) = z := ⟨_, rfl⟩
    rw [hz] at hends
    obtain ⟨e, he⟩ : ∃ e, lcp p.1 z.1 = e := ⟨_, rfl⟩
    rw [he] at hends
    have hzm : z ∈ q :: r := by rw [← hz]; exact List.getLast_mem _
    have hep : e ≤ p.1.length := by rw [← he]; exact lcp_le_left _ _
    -- what is parted by its next byte
    have part : ∀ rest : List KV, (∀ u ∈ rest, e ≤ lcp p.1 u.1 ∧ e < u.1.length ∧ u.1.length < f + 1) → Rise rest →
        (∀ pw, (mkF (cT o f) (grp (cut e rest))).list (pw ++ p.1.take e) = rest.map fun u => (pw ++ u.1, u.2)) ∧ (mkF (cT o f) (grp (cut e rest))).good ∧ ungrp (grp (cut e rest)) = cut e rest := by
      intro rest h1 h2
      have hcr : Rise (cut e rest) := cut_rise p.1 h2 (fun u hu => (h1 u hu).1)
      obtain ⟨s1, s2, s3⟩ := grp_spec (cut e rest) (fun u hu => by
        unfold cut at hu
        obtain ⟨v, hv, rfl⟩ := List.mem_map.1 hu
        have := (h1 v hv).2.1
        intro q
        have := congrArg List.length q
        simp at this
        omega) hcr
      have hin : ∀ x ∈ grp (cut e rest), ∀ u ∈ x.2, u.1.length < f := fun x hx u hu => by
        have : (x.1 :: u.1, u.2) ∈ ungrp (grp (cut e rest)) := mem_ungrp hx hu
        rw [s1] at this
        unfold cut at this
        obtain ⟨v, hv, e2⟩ := List.mem_map.1 this
        have := congrArg (fun y : KV => y.1.length) e2
        simp at this
        have := (h1 v hv).2.2
        omega
      have ih := fun x hx => cT_spec o f x.2 (s2 x hx).1 (s2 x hx).2 (hin x hx)
      refine ⟨fun pw => ?_, mkF_good _ _ (fun x hx => (ih x hx).2), s1⟩
      rw [mkF_list _ _ _ (fun x hx => (ih x hx).1), s1]
      unfold cut
      rw [List.map_map]
      refine List.map_congr_left fun u hu => ?_
      simp only [Function.comp]
      rw [List.append_assoc, ← lcp_take (h1 u hu).1]
    have hall : ∀ u ∈ q :: r, e ≤ lcp p.1 u.1 ∧ e < u.1.length ∧ u.1.length < f + 1 := fun u hu => ⟨(hends u hu).1, (hends u hu).2, hf u (List.mem_cons_of_mem _ hu)⟩
    unfold cT
    simp only [hz, he]
    by_cases hp : p.1.length = e
    · rw [if_pos hp]
      obtain ⟨k1, k2, k3⟩ := part (q :: r) hall (List.pairwise_cons.1 hr).2
      have hpt : p.1.take e = p.1 := List.take_of_length_le (by omega)
      rw [hpt] at k1
      refine ⟨fun pw => ?_, ?_, k2⟩
      · unfold tlist
        simp only [hpt, k1, if_true, List.singleton_append, List.map_cons]
      · unfold okN
        simp only [Bool.false_eq_true, if_false, if_true, mkF_len]
        rcases hg : grp (cut e (q :: r)) with _ | ⟨x, gs⟩
        · rw [hg] at k3; simp [ungrp, cut] at k3
        · simp
    · rw [if_neg hp]
      have hp2 : e < p.1.length := by omega
      obtain ⟨k1, k2, k3⟩ := part (p :: q :: r) (fun u hu => by
        rcases List.mem_cons.1 hu with rfl | hu
        · exact ⟨by rw [lcp_same2]; exact hep, hp2, hf _ (List.mem_cons_self ..)⟩
        · exact hall u hu) hr
      refine ⟨fun pw => ?_, ?_, k2⟩
      · unfold tlist
        simp only [Bool.false_eq_true, if_false, List.nil_append, k1]
      · unfold okN
        simp only [Bool.false_eq_true, if_false, mkF_len, Nat.add_zero]
        rcases hg : grp (cut e (p :: q :: r)) with _ | ⟨x, _ | ⟨y, gs⟩⟩
        · rw [hg] at k3; simp [ungrp, cut] at k3
        · exfalso
          rw [hg] at k3
          obtain ⟨b, g⟩ := x
          have h0 : (p.1.drop e)[0]? = some b := ungrp_len1 (g := g) (p.1.drop e, p.2) (by rw [k3]; unfold cut; exact List.mem_map.2 ⟨p, by simp, rfl⟩)
          have h1 : (z.1.drop e)[0]? = some b := ungrp_len1 (g := g) (z.1.drop e, z.2) (by rw [k3]; unfold cut; exact List.mem_map.2 ⟨z, List.mem_cons_of_mem _ hzm, rfl⟩)
          rw [List.getElem?_drop, Nat.add_zero] at h0 h1
          have := lcp_differ (p := p.1) (z := z.1) (by omega) (by have := (hends z hzm).2; omega)
          rw [he, h0, h1] at this
          exact this rfl
        · simp
end Go.Proofs.YtikmcmoegigfhaaGreatDoor
