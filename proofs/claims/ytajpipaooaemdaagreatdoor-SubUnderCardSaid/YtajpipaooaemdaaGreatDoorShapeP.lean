/-
  Trees without memory: their pairs, and what holds of a canonical tree: it has just its pairs, each inner node has two occupants or more. No program is run.
  Trees are told by their shapes; a tree that is fine is the canonical one of its pairs. No program is run.
  A fine tree is the canonical one of its pairs; a tree's pairs rise. No program is run.
-/
import Derived.Test.YtajpipaooaemdaaGreatDoorCanon
import Derived.Test.YtajpipaooaemdaaGreatDoorCanRead
import Derived.Test.YtajpipaooaemdaaGreatDoorShape
namespace Go.Proofs.YtajpipaooaemdaaGreatDoor

def ungrp : List (UInt8 × List KV) → List KV
  | [] => []
  | (b, g) :: gs => g.map (fun p => (b :: p.1, p.2)) ++ ungrp gs
theorem grp_spec : ∀ (L : List KV), (∀ p ∈ L, p.1 ≠ []) → Rise L → ungrp (grp L) = L ∧ (∀ x ∈ grp L, x.2 ≠ [] ∧ Rise x.2) ∧ (grp L).Pairwise fun a b => a.1.toNat < b.1.toNat
  | [], _, _ => ⟨rfl, fun x hx => (by cases hx), List.Pairwise.nil⟩
  | ([], v) :: r, h, _ => absurd rfl (h _ (List.mem_cons_self ..))
  | (b :: k, v) :: r, h, hr => by
    obtain ⟨h1, h2⟩ := List.pairwise_cons.1 hr
    obtain ⟨i1, i2, i3⟩ := grp_spec r (fun p hp => h p (List.mem_cons_of_mem _ hp)) h2
    show ungrp (gput b (k, v) (grp r)) = _ ∧ (∀ x ∈ gput b (k, v) (grp r), _) ∧ (gput b (k, v) (grp r)).Pairwise _
    rcases hg : grp r with _ | ⟨⟨b', g'⟩, gs⟩
    · rw [hg] at i1
      have hr0 : r = [] := i1.symm
      subst hr0
      exact ⟨rfl, fun x hx => by simp [gput] at hx; subst hx; exact ⟨by simp, List.pairwise_singleton _ _⟩, by simp [gput]⟩
    · rw [hg] at i1 i2 i3
      have hin : ∀ p ∈ g', (b' :: p.1, p.2) ∈ r := fun p hp => by
        rw [← i1]
        exact List.mem_append_left _ (List.mem_map.2 ⟨p, hp, rfl⟩)
      obtain ⟨n1, n2⟩ := i2 (b', g') (List.mem_cons_self ..)
      obtain ⟨j1, j2⟩ := List.pairwise_cons.1 i3
      by_cases hb : b = b'
      · subst hb
        rw [gput_same]
        refine ⟨?_, fun x hx => ?_, ?_⟩
        · simp only [ungrp, List.map_cons, List.cons_append]
          rw [← i1]
          rfl
        · rcases List.mem_cons.1 hx with rfl | hx
          · refine ⟨by simp, List.pairwise_cons.2 ⟨fun p hp => ?_, n2⟩⟩
            have := h1 _ (hin p hp)
            rw [lt_cons] at this
            rcases this with q | ⟨_, q⟩
            · omega
            · exact q
          · exact i2 x (List.mem_cons_of_mem _ hx)
        · exact List.pairwise_cons.2 ⟨j1, j2⟩
      · rw [gput_far _ hb]
        have hlt : b.toNat < b'.toNat := by
          rcases g' with _ | ⟨p, g'⟩
          · exact absurd rfl n1
          · have := h1 _ (hin p (List.mem_cons_self ..))
            rw [lt_cons] at this
            rcases this with q | ⟨q, _⟩
            · exact q
            · exact absurd q hb
        refine ⟨?_, fun x hx => ?_, ?_⟩
        · rw [← i1]
          rfl
        · rcases List.mem_cons.1 hx with rfl | hx
          · exact ⟨by simp, List.pairwise_singleton _ _⟩
          · exact i2 x hx
        · refine List.pairwise_cons.2 ⟨fun x hx => ?_, i3⟩
          rcases List.mem_cons.1 hx with rfl | hx
          · exact hlt
          · exact Nat.lt_trans hlt (j1 x hx)

/-- A forest's pairs, behind some bytes; a tree's. -/
def Fo.list : Fo → List UInt8 → List KV
  | .nil, _ => []
  | .cons b x k r, pw => ((if x.has then [((pw ++ [b]) ++ x.part, x.val)] else []) ++ k.list ((pw ++ [b]) ++ x.part)) ++ r.list pw
def tlist (x : Nn) (k : Fo) (pw : List UInt8) : List KV := (if x.has then [(pw ++ x.part, x.val)] else []) ++ k.list (pw ++ x.part)
theorem Fo.list_cons (b : UInt8) (x : Nn) (k r : Fo) (pw : List UInt8) : (Fo.cons b x k r).list pw = tlist x k (pw ++ [b]) ++ r.list pw := rfl
/-- A leaf has a value and no kids, an inner node at least two occupants. -/
def okN (x : Nn) (k : Fo) : Prop := if x.leaf then k = .nil ∧ x.has = true else 2 ≤ k.len + (if x.has then 1 else 0)
def Fo.good : Fo → Prop
  | .nil => True
  | .cons _ x k r => okN x k ∧ k.good ∧ r.good
def tgood (x : Nn) (k : Fo) : Prop := okN x k ∧ k.good

theorem kv_list (x : Nn) (w : List UInt8) : (if x.has then [(w, x.val)] else [] : List KV).length = if x.has then 1 else 0 := by cases x.has <;> rfl
theorem Fo.vis_cnt : ∀ (f : Fo) (pw : List UInt8) (d : Nat), listV (f.vis pw d) = (f.list pw).map fun p => (p.1, [.int .u64 p.2])
  | .nil, _, _ => rfl
  | .cons b x k r, pw, d => by
    have e1 := Fo.vis_cnt k ((pw ++ [b]) ++ x.part) (d + 1)
    have e2 := Fo.vis_cnt r pw d
    unfold listV at e1 e2 ⊢
    simp only [Fo.vis, Fo.list, List.filterMap_cons, List.filterMap_append, List.map_append, e1, e2]
    cases x.has <;> simp
theorem tvis_list (x : Nn) (k : Fo) (pw : List UInt8) (d : Nat) : listV (tvis x k pw d) = (tlist x k pw).map fun p => (p.1, [.int .u64 p.2]) := by
  have e1 := Fo.vis_cnt k (pw ++ x.part) (d + 1)
  unfold listV at e1 ⊢
  simp only [tvis, tlist, List.filterMap_cons, List.map_append, e1]
  cases x.has <;> simp
theorem listV_len (vs : List Vt) : (listV vs).length = cntV vs := by
  induction vs with
  | nil => rfl
  | cons v vs ih =>
    unfold listV cntV at *
    rw [List.filterMap_cons, List.countP_cons]
    cases v.x.has <;> simp [ih]
theorem pointV_len (vs : List Vt) : (pointV vs).length = vs.countP fun v => !v.x.leaf := by
  induction vs with
  | nil => rfl
  | cons v vs ih =>
    unfold pointV at *
    rw [List.filterMap_cons, List.countP_cons]
    cases v.x.leaf <;> simp [ih]
theorem Fo.good_points : ∀ (f : Fo) (pw : List UInt8) (d : Nat), f.good → (f.vis pw d).countP (fun v => !v.x.leaf) + f.len ≤ (f.list pw).length ∧ (f.vis pw d).length ≤ (f.vis pw d).countP (fun v => !v.x.leaf) + (f.list pw).length
  | .nil, _, _, _ => by simp [Fo.vis, Fo.len, Fo.list]
  | .cons b x k r, pw, d, ⟨h1, h2, h3⟩ => by
    obtain ⟨a1, a2⟩ := Fo.good_points k ((pw ++ [b]) ++ x.part) (d + 1) h2
    obtain ⟨b1, b2⟩ := Fo.good_points r pw d h3
    simp only [Fo.vis, Fo.len, Fo.list, List.countP_cons, List.countP_append, List.length_cons, List.length_append, kv_list]
    unfold okN at h1
    cases hl : x.leaf with
    | true =>
      rw [hl] at h1
      simp only [if_true] at h1
      obtain ⟨rfl, hh⟩ := h1
      rw [hh]
      simp [Fo.vis, Fo.list] at *
      omega
    | false =>
      rw [hl] at h1
      simp only [Bool.false_eq_true, if_false] at h1
      cases hh : x.has <;> rw [hh] at h1 <;> simp at * <;> omega
theorem tgood_points {x : Nn} {k : Fo} (h : tgood x k) (pw : List UInt8) (d : Nat) : (tvis x k pw d).countP (fun v => !v.x.leaf) + 1 ≤ (tlist x k pw).length ∧ (tvis x k pw d).length ≤ (tvis x k pw d).countP (fun v => !v.x.leaf) + (tlist x k pw).length := by
  obtain ⟨h1, h2⟩ := h
  obtain ⟨a1, a2⟩ := Fo.good_points k (pw ++ x.part) (d + 1) h2
  simp only [tvis, tlist, List.countP_cons, List.length_cons, List.length_append, kv_list]
  unfold okN at h1
  cases hl : x.leaf with
  | true =>
    rw [hl] at h1
    simp only [if_true] at h1
    obtain ⟨rfl, hh⟩ := h1
    rw [hh]
    simp [Fo.vis, Fo.list] at *
  | false =>
    rw [hl] at h1
    simp only [Bool.false_eq_true, if_false] at h1
    cases hh : x.has <;> rw [hh] at h1 <;> simp at * <;> omega
theorem Fo.vis_len : ∀ (f : Fo) (pw : List UInt8) (d : Nat), (f.vis pw d).length = f.tn
  | .nil, _, _ => rfl
  | .cons b x k r, pw, d => by
    simp only [Fo.vis, Fo.tn, List.length_cons, List.length_append, Fo.vis_len k, Fo.vis_len r]
    omega
theorem tvis_len (x : Nn) (k : Fo) (pw : List UInt8) (d : Nat) : (tvis x k pw d).length = 1 + k.tn := by
  simp only [tvis, List.length_cons, Fo.vis_len]
  omega
theorem Fo.vis_deep : ∀ (f : Fo) (pw : List UInt8) (d : Nat) (v : Vt), v ∈ f.vis pw d → v.deep + pw.length + 1 ≤ d + v.way.length
  | .nil, _, _, _, h => by cases h
  | .cons b x k r, pw, d, v, h => by
    simp only [Fo.vis, List.mem_cons, List.mem_append] at h
    rcases h with rfl | h | h
    · simp; omega
    · have := Fo.vis_deep k _ _ v h
      simp at this
      omega
    · exact Fo.vis_deep r _ _ v h
theorem tvis_deep {x : Nn} {k : Fo} {v : Vt} (h : v ∈ tvis x k [] 1) : v.deep ≤ v.way.length + 1 := by
  simp only [tvis, List.mem_cons] at h
  rcases h with rfl | h
  · simp
  · have := Fo.vis_deep k _ _ v h
    omega
theorem Fo.good_way : ∀ (f : Fo) (pw : List UInt8) (d : Nat), f.good → (∀ v ∈ f.vis pw d, ∃ p ∈ f.list pw, v.way.length ≤ p.1.length) ∧ (f.len ≠ 0 → ∃ p ∈ f.list pw, pw.length < p.1.length)
  | .nil, _, _, _ => ⟨fun v hv => (by cases hv), fun h => absurd rfl h⟩
  | .cons b x k r, pw, d, ⟨h1, h2, h3⟩ => by
    obtain ⟨a1, a2⟩ := Fo.good_way k ((pw ++ [b]) ++ x.part) (d + 1) h2
    obtain ⟨b1, _⟩ := Fo.good_way r pw d h3
    have hx : ∃ p ∈ tlist x k (pw ++ [b]), ((pw ++ [b]) ++ x.part).length ≤ p.1.length := by
      unfold okN at h1
      unfold tlist
      cases hh : x.has with
      | true => exact ⟨((pw ++ [b]) ++ x.part, x.val), by simp, Nat.le_refl _⟩
      | false =>
        rw [hh] at h1
        cases hl : x.leaf with
        | true => rw [hl] at h1; simp at h1
        | false =>
          rw [hl] at h1
          simp only [Bool.false_eq_true, if_false] at h1
          obtain ⟨p, hp, hlen⟩ := a2 (by omega)
          exact ⟨p, by simpa using hp, by omega⟩
    obtain ⟨p, hp, hlen⟩ := hx
    refine ⟨fun v hv => ?_, fun _ => ⟨p, by rw [Fo.list_cons]; exact List.mem_append_left _ hp, by simp at hlen; omega⟩⟩
    simp only [Fo.vis, List.mem_cons, List.mem_append] at hv
    rcases hv with rfl | hv | hv
    · exact ⟨p, by rw [Fo.list_cons]; exact List.mem_append_left _ hp, hlen⟩
    · obtain ⟨p', hp', hl'⟩ := a1 v hv
      exact ⟨p', by rw [Fo.list_cons]; exact List.mem_append_left _ (List.mem_append_right _ hp'), hl'⟩
    · obtain ⟨p', hp', hl'⟩ := b1 v hv
      exact ⟨p', by rw [Fo.list_cons]; exact List.mem_append_right _ hp', hl'⟩
theorem tgood_way {x : Nn} {k : Fo} (h : tgood x k) (pw : List UInt8) (d : Nat) : ∀ v ∈ tvis x k pw d, ∃ p ∈ tlist x k pw, v.way.length ≤ p.1.length := by
  obtain ⟨h1, h2⟩ := h
  obtain ⟨a1, a2⟩ := Fo.good_way k (pw ++ x.part) (d + 1) h2
  intro v hv
  simp only [tvis, List.mem_cons] at hv
  rcases hv with rfl | hv
  · unfold okN at h1
    unfold tlist
    cases hh : x.has with
    | true => exact ⟨(pw ++ x.part, x.val), by simp, Nat.le_refl _⟩
    | false =>
      rw [hh] at h1
      cases hl : x.leaf with
      | true => rw [hl] at h1; simp at h1
      | false =>
        rw [hl] at h1
        simp only [Bool.false_eq_true, if_false] at h1
        obtain ⟨p, hp, hlen⟩ := a2 (by omega)
        exact ⟨p, by simpa using hp, by dsimp only; omega⟩
  · obtain ⟨p', hp', hl'⟩ := a1 v hv
    exact ⟨p', List.mem_append_right _ hp', hl'⟩

theorem mkF_len (c : List KV → Nn × Fo) (gs : List (UInt8 × List KV)) : (mkF c gs).len = gs.length := by
  induction gs with
  | nil => rfl
  | cons g gs ih => obtain ⟨b, g⟩ := g; simp only [mkF, Fo.len, ih, List.length_cons]
theorem mkF_list (c : List KV → Nn × Fo) (pw : List UInt8) : ∀ gs : List (UInt8 × List KV), (∀ x ∈ gs, ∀ w, tlist (c x.2).1 (c x.2).2 w = x.2.map fun p => (w ++ p.1, p.2)) → (mkF c gs).list pw = (ungrp gs).map fun p => (pw ++ p.1, p.2)
  | [], _ => rfl
  | (b, g) :: gs, h => by
    rw [mkF, Fo.list_cons, mkF_list c pw gs (fun x hx => h x (List.mem_cons_of_mem _ hx)), h (b, g) (List.mem_cons_self ..), ungrp, List.map_append, List.map_map]
    congr 1
    exact List.map_congr_left fun p _ => by simp
theorem mkF_good (c : List KV → Nn × Fo) : ∀ gs : List (UInt8 × List KV), (∀ x ∈ gs, tgood (c x.2).1 (c x.2).2) → (mkF c gs).good
  | [], _ => trivial
  | (b, g) :: gs, h => ⟨(h (b, g) (List.mem_cons_self ..)).1, (h (b, g) (List.mem_cons_self ..)).2, mkF_good c gs fun x hx => h x (List.mem_cons_of_mem _ hx)⟩
theorem lcp_take : ∀ {p u : List UInt8} {e : Nat}, e ≤ lcp p u → u = p.take e ++ u.drop e
  | _, _, 0, _ => by simp
  | [], _, _ + 1, h => by simp [lcp] at h
  | _ :: _, [], _ + 1, h => by simp [lcp] at h
  | a :: p, b :: u, e + 1, h => by
    by_cases hb : a = b
    · subst hb
      rw [lcp_same] at h
      simp only [List.take_succ_cons, List.drop_succ_cons, List.cons_append]
      rw [← lcp_take (Nat.le_of_succ_le_succ h)]
    · rw [lcp_ne hb] at h; omega
theorem lcp_same2 : ∀ x : List UInt8, lcp x x = x.length
  | [] => rfl
  | a :: x => by rw [lcp_same, lcp_same2 x]; rfl
theorem lcp_differ : ∀ {p z : List UInt8}, lcp p z < p.length → lcp p z < z.length → p[lcp p z]? ≠ z[lcp p z]?
  | [], _, h, _ => by simp at h
  | _ :: _, [], _, h => by simp at h
  | a :: p, b :: z, h1, h2 => by
    by_cases hb : a = b
    · subst hb
      rw [lcp_same] at *
      simp only [List.getElem?_cons_succ]
      exact lcp_differ (by simpa using h1) (by simpa using h2)
    · rw [lcp_ne hb]
      simp [hb]
theorem ungrp_len1 {b : UInt8} {g : List KV} : ∀ p ∈ ungrp [(b, g)], p.1[0]? = some b := by
  intro p hp
  simp only [ungrp, List.append_nil, List.mem_map] at hp
  obtain ⟨q, _, rfl⟩ := hp
  rfl

theorem mem_ungrp : ∀ {gs : List (UInt8 × List KV)} {x : UInt8 × List KV} {u : KV}, x ∈ gs → u ∈ x.2 → (x.1 :: u.1, u.2) ∈ ungrp gs
  | (b, g) :: gs, x, u, hx, hu => by
    rcases List.mem_cons.1 hx with rfl | hx
    · exact List.mem_append_left _ (List.mem_map.2 ⟨u, hu, rfl⟩)
    · exact List.mem_append_right _ (mem_ungrp hx hu)
theorem cT_spec (o : Int) : ∀ (f : Nat) (L : List KV), L ≠ [] → Rise L → (∀ p ∈ L, p.1.length < f) → (∀ pw, tlist (cT o f L).1 (cT o f L).2 pw = L.map fun p => (pw ++ p.1, p.2)) ∧ tgood (cT o f L).1 (cT o f L).2
  | 0, L, h, _, hf => by
    rcases L with _ | ⟨p, L⟩
    · exact absurd rfl h
    · have := hf p (List.mem_cons_self ..); omega
  | f + 1, [], h, _, _ => absurd rfl h
  | f + 1, [p], _, _, _ => ⟨fun pw => by simp [cT, tlist, Fo.list], by simp [cT, tgood, okN, Fo.good]⟩
  | f + 1, p :: q :: r, _, hr, hf => by
    have hends := rise_ends hr
    obtain ⟨z, hz⟩ : ∃ z, (q :: r).getLast (by simp) = z := ⟨_, rfl⟩
    rw [hz] at hends
    obtain ⟨e, he⟩ : ∃ e, lcp p.1 z.1 = e := ⟨_, rfl⟩
    rw [he] at hends
    have hzm : z ∈ q :: r := by rw [← hz]; exact List.getLast_mem _
    have hep : e ≤ p.1.length := by rw [← he]; exact lcp_le_left _ _
    -- what is parted by its next byte
    have part : ∀ rest : List KV, (∀ u ∈ rest, e ≤ lcp p.1 u.1 ∧ e < u.1.length ∧ u.1.length < f + 1) → Rise rest →
        (∀ pw, (mkF (cT o f) (grp (cut e rest))).list (pw ++ p.1.take e) = rest.map fun u => (pw ++ u.1, u.2)) ∧ (mkF (cT o f) (grp (cut e rest))).good ∧ ungrp (grp (cut e rest)) = cut e rest := by
      intro rest h1 h2
      have hcr : Rise (cut e rest) := cut_rise p.1 h2 (fun u hu => (h1 u hu).1)
      obtain ⟨s1, s2, s3⟩ := grp_spec (cut e rest) (fun u hu => by
        unfold cut at hu
        obtain ⟨v, hv, rfl⟩ := List.mem_map.1 hu
        have := (h1 v hv).2.1
        intro q
        have := congrArg List.length q
        simp at this
        omega) hcr
      have hin : ∀ x ∈ grp (cut e rest), ∀ u ∈ x.2, u.1.length < f := fun x hx u hu => by
        have : (x.1 :: u.1, u.2) ∈ ungrp (grp (cut e rest)) := mem_ungrp hx hu
        rw [s1] at this
        unfold cut at this
        obtain ⟨v, hv, e2⟩ := List.mem_map.1 this
        have := congrArg (fun y : KV => y.1.length) e2
        simp at this
        have := (h1 v hv).2.2
        omega
      have ih := fun x hx => cT_spec o f x.2 (s2 x hx).1 (s2 x hx).2 (hin x hx)
      refine ⟨fun pw => ?_, mkF_good _ _ (fun x hx => (ih x hx).2), s1⟩
      rw [mkF_list _ _ _ (fun x hx => (ih x hx).1), s1]
      unfold cut
      rw [List.map_map]
      refine List.map_congr_left fun u hu => ?_
      simp only [Function.comp]
      rw [List.append_assoc, ← lcp_take (h1 u hu).1]
    have hall : ∀ u ∈ q :: r, e ≤ lcp p.1 u.1 ∧ e < u.1.length ∧ u.1.length < f + 1 := fun u hu => ⟨(hends u hu).1, (hends u hu).2, hf u (List.mem_cons_of_mem _ hu)⟩
    unfold cT
    simp only [hz, he]
    by_cases hp : p.1.length = e
    · rw [if_pos hp]
      obtain ⟨k1, k2, k3⟩ := part (q :: r) hall (List.pairwise_cons.1 hr).2
      have hpt : p.1.take e = p.1 := List.take_of_length_le (by omega)
      rw [hpt] at k1
      refine ⟨fun pw => ?_, ?_, k2⟩
      · unfold tlist
        simp only [hpt, k1, if_true, List.singleton_append, List.map_cons]
      · unfold okN
        simp only [Bool.false_eq_true, if_false, if_true, mkF_len]
        rcases hg : grp (cut e (q :: r)) with _ | ⟨x, gs⟩
        · rw [hg] at k3; simp [ungrp, cut] at k3
        · simp
    · rw [if_neg hp]
      have hp2 : e < p.1.length := by omega
      obtain ⟨k1, k2, k3⟩ := part (p :: q :: r) (fun u hu => by
        rcases List.mem_cons.1 hu with rfl | hu
        · exact ⟨by rw [lcp_same2]; exact hep, hp2, hf _ (List.mem_cons_self ..)⟩
        · exact hall u hu) hr
      refine ⟨fun pw => ?_, ?_, k2⟩
      · unfold tlist
        simp only [Bool.false_eq_true, if_false, List.nil_append, k1]
      · unfold okN
        simp only [Bool.false_eq_true, if_false, mkF_len, Nat.add_zero]
        rcases hg : grp (cut e (p :: q :: r)) with _ | ⟨x, _ | ⟨y, gs⟩⟩
        · rw [hg] at k3; simp [ungrp, cut] at k3
        · exfalso
          rw [hg] at k3
          obtain ⟨b, g⟩ := x
          have h0 : (p.1.drop e)[0]? = some b := ungrp_len1 (g := g) (p.1.drop e, p.2) (by rw [k3]; unfold cut; exact List.mem_map.2 ⟨p, by simp, rfl⟩)
          have h1 : (z.1.drop e)[0]? = some b := ungrp_len1 (g := g) (z.1.drop e, z.2) (by rw [k3]; unfold cut; exact List.mem_map.2 ⟨z, List.mem_cons_of_mem _ hzm, rfl⟩)
          rw [List.getElem?_drop, Nat.add_zero] at h0 h1
          have := lcp_differ (p := p.1) (z := z.1) (by omega) (by have := (hends z hzm).2; omega)
          rw [he, h0, h1] at this
          exact this rfl
        · simp
end Go.Proofs.YtajpipaooaemdaaGreatDoor

namespace Go.Proofs.YtajpipaooaemdaaGreatDoor

def isD (c : UInt8) : Prop := 48 ≤ c.toNat ∧ c.toNat ≤ 57
def isH (c : UInt8) : Prop := isD c ∨ (97 ≤ c.toNat ∧ c.toNat ≤ 102)
def dval (l : List UInt8) : Nat := l.foldl (fun s c => 10 * s + (c.toNat - 48)) 0
/-- Alike but for owners, and for values that are not there. -/
def likeN (x y : Nn) : Prop := x.leaf = y.leaf ∧ x.part = y.part ∧ x.has = y.has ∧ (x.has = true → x.val.toNat = y.val.toNat)
def Fo.like : Fo → Fo → Prop
  | .nil, .nil => True
  | .cons b x k r, .cons b' x' k' r' => b = b' ∧ likeN x x' ∧ k.like k' ∧ r.like r'
  | _, _ => False
/-- A leaf has a value and no kids. -/
def lfN (x : Nn) (k : Fo) : Prop := x.leaf = true → k = .nil ∧ x.has = true
def Fo.lf : Fo → Prop
  | .nil => True
  | .cons _ x k r => lfN x k ∧ k.lf ∧ r.lf
def headNot (a : List UInt8) (P : UInt8 → Prop) : Prop := ∀ c, a.head? = some c → ¬ P c
end Go.Proofs.YtajpipaooaemdaaGreatDoor

namespace Go.Proofs.YtajpipaooaemdaaGreatDoor

def Fo.above (b : UInt8) : Fo → Prop
  | .nil => True
  | .cons b' _ _ _ => b.toNat < b'.toNat
/-- A leaf has a value and no kids; what has no value has 0; the owner is o. -/
def wfN (o : Int) (x : Nn) (k : Fo) : Prop := (x.leaf = true → k = .nil ∧ x.has = true) ∧ (x.has = false → x.val = 0) ∧ x.ow = o
def Fo.wf (o : Int) : Fo → Prop
  | .nil => True
  | .cons b x k r => r.above b ∧ wfN o x k ∧ k.wf o ∧ r.wf o
theorem Fo.wf_lf {o : Int} : ∀ {f : Fo}, f.wf o → f.lf
  | .nil, _ => trivial
  | .cons _ _ _ _, ⟨_, h2, h3, h4⟩ => ⟨h2.1, Fo.wf_lf h3, Fo.wf_lf h4⟩

theorem Fo.list_app (a : List UInt8) : ∀ (f : Fo) (w : List UInt8), f.list (a ++ w) = (f.list w).map fun p => (a ++ p.1, p.2)
  | .nil, _ => rfl
  | .cons b x k r, w => by
    simp only [Fo.list]
    rw [show ((a ++ w) ++ [b]) ++ x.part = a ++ ((w ++ [b]) ++ x.part) by simp, Fo.list_app a k, Fo.list_app a r]
    cases x.has <;> simp
theorem tlist_app (a : List UInt8) (x : Nn) (k : Fo) (w : List UInt8) : tlist x k (a ++ w) = (tlist x k w).map fun p => (a ++ p.1, p.2) := by
  unfold tlist
  rw [List.append_assoc, Fo.list_app a k]
  cases x.has <;> simp
theorem tlist_one (b : UInt8) (x : Nn) (k : Fo) : tlist x k [b] = (tlist x k []).map fun p => (b :: p.1, p.2) := by
  have := tlist_app [b] x k []
  simpa using this
theorem Fo.list_nil_cons (b : UInt8) (x : Nn) (k r : Fo) : (Fo.cons b x k r).list [] = ((tlist x k []).map fun p => (b :: p.1, p.2)) ++ r.list [] := by
  rw [Fo.list_cons, List.nil_append, tlist_one]
theorem tlist_part (x : Nn) (k : Fo) : tlist x k [] = (if x.has then [(x.part, x.val)] else []) ++ (k.list []).map fun p => (x.part ++ p.1, p.2) := by
  have := Fo.list_app x.part k []
  rw [List.append_nil] at this
  unfold tlist
  rw [List.nil_append, this]
/-- A forest's keys begin with its bytes. -/
theorem Fo.heads {o : Int} : ∀ {f : Fo} {b : UInt8}, f.wf o → f.above b → ∀ p ∈ f.list [], ∃ c t, p.1 = c :: t ∧ b.toNat < c.toNat
  | .nil, _, _, _, p, hp => by cases hp
  | .cons b' x k r, b, ⟨h1, h2, h3, h4⟩, ha, p, hp => by
    rw [Fo.list_nil_cons] at hp
    rcases List.mem_append.1 hp with q | q
    · obtain ⟨u, _, rfl⟩ := List.mem_map.1 q
      exact ⟨b', u.1, rfl, ha⟩
    · obtain ⟨c, t, e, hc⟩ := Fo.heads h4 h1 p q
      exact ⟨c, t, e, Nat.lt_trans ha hc⟩
theorem cmp_pre (a : List UInt8) (l m : List UInt8) : cmpL (a ++ l) (a ++ m) < 0 ↔ cmpL l m < 0 := by
  induction a with
  | nil => exact Iff.rfl
  | cons c a ih => rw [List.cons_append, List.cons_append, lt_cons]; simp [ih]
theorem cmp_longer (a : List UInt8) (c : UInt8) (t : List UInt8) : cmpL a (a ++ c :: t) < 0 := by
  induction a with
  | nil => simp [cmpL]
  | cons d a ih => rw [List.cons_append, lt_cons]; exact .inr ⟨rfl, ih⟩
theorem rise_pre {L : List KV} (a : List UInt8) (h : Rise L) : Rise (L.map fun p => (a ++ p.1, p.2)) := by
  unfold Rise at *
  rw [List.pairwise_map]
  exact h.imp fun hab => (cmp_pre a _ _).2 hab
theorem tree_rise {o : Int} {x : Nn} {k : Fo} (hk : k.wf o) (ih : Rise (k.list [])) : Rise (tlist x k []) := by
  rw [tlist_part]
  have h1 := rise_pre x.part ih
  have hh : ∀ p ∈ k.list [], ∃ c t, p.1 = c :: t := by
    cases k with
    | nil => intro p hp; cases hp
    | cons b y k' r =>
      obtain ⟨g1, g2, g3, g4⟩ := hk
      intro p hp
      rw [Fo.list_nil_cons] at hp
      rcases List.mem_append.1 hp with q | q
      · obtain ⟨u, _, rfl⟩ := List.mem_map.1 q
        exact ⟨b, u.1, rfl⟩
      · obtain ⟨c, t, e, _⟩ := Fo.heads g4 g1 p q
        exact ⟨c, t, e⟩
  cases x.has with
  | false => exact h1
  | true =>
    refine List.pairwise_cons.2 ⟨fun p hp => ?_, h1⟩
    obtain ⟨u, hu, rfl⟩ := List.mem_map.1 hp
    obtain ⟨c, t, e⟩ := hh u hu
    simp only [e]
    exact cmp_longer _ _ _
theorem Fo.rise {o : Int} : ∀ {f : Fo}, f.wf o → Rise (f.list [])
  | .nil, _ => List.Pairwise.nil
  | .cons b x k r, ⟨h1, h2, h3, h4⟩ => by
    rw [Fo.list_nil_cons]
    refine List.pairwise_append.2 ⟨rise_pre [b] (tree_rise (x := x) h3 (Fo.rise h3)), Fo.rise h4, fun p hp q hq => ?_⟩
    obtain ⟨u, _, rfl⟩ := List.mem_map.1 hp
    obtain ⟨c, t, e, hc⟩ := Fo.heads h4 h1 q hq
    rw [e]
    exact lt_cons.2 (.inl hc)

theorem tgood_ne {x : Nn} {k : Fo} (h : tgood x k) : tlist x k [] ≠ [] := fun q => by
  have := (tgood_points h [] 1).1
  rw [q] at this
  simp at this
theorem lcp_app (a l m : List UInt8) : lcp (a ++ l) (a ++ m) = a.length + lcp l m := by
  induction a with
  | nil => simp
  | cons c a ih => rw [List.cons_append, List.cons_append, lcp_same, ih, List.length_cons]; omega
theorem cut_pre (a : List UInt8) (L : List KV) : cut a.length (L.map fun p => (a ++ p.1, p.2)) = L := by
  unfold cut
  rw [List.map_map]
  conv => rhs; rw [← List.map_id L]
  exact List.map_congr_left fun p _ => by simp
/-- A fine tree is the canonical one of its pairs: the step at a node. -/
theorem tree_can {o : Int} {x : Nn} {k : Fo} (hx : wfN o x k) (hk : k.wf o) (hg : okN x k) (hkg : k.good) (ih : ∀ f, (∀ p ∈ k.list [], p.1.length ≤ f) → mkF (cT o f) (grp (k.list [])) = k) (f : Nat) (hf : ∀ p ∈ tlist x k [], p.1.length < f) : cT o f (tlist x k []) = (x, k) := by
  obtain ⟨w1, w2, w3⟩ := hx
  obtain ⟨xl, xo, xp, xv, xh⟩ := x
  simp only at w1 w2 w3
  subst w3
  cases hl : xl with
  | true =>
    subst hl
    obtain ⟨rfl, rfl⟩ := w1 rfl
    rw [tlist_part]
    cases f <;> simp [Fo.list, cT]
  | false =>
    subst hl
    unfold okN at hg
    simp only [Bool.false_eq_true, if_false] at hg
    obtain ⟨f', rfl⟩ : ∃ f', f = f' + 1 := by
      rcases f with _ | f'
      · have hne := tgood_ne (x := ⟨false, xo, xp, xv, xh⟩) (k := k) ⟨by unfold okN; simpa using hg, hkg⟩
        rcases ht : tlist ⟨false, xo, xp, xv, xh⟩ k [] with _ | ⟨p, r⟩
        · exact absurd ht hne
        · have := hf p (by rw [ht]; simp)
          omega
      · exact ⟨f', rfl⟩
    have hfk : ∀ p ∈ k.list [], p.1.length ≤ f' := fun p hp => by
      have := hf (xp ++ p.1, p.2) (by rw [tlist_part]; exact List.mem_append_right _ (List.mem_map.2 ⟨p, hp, rfl⟩))
      simp at this
      omega
    have hi := ih f' hfk
    rw [tlist_part]
    cases k with
    | nil => cases xh <;> simp [Fo.len] at hg
    | cons b y k1 r =>
      obtain ⟨h1, h2, h3, h4⟩ := hk
      obtain ⟨g1, g2, g3⟩ := hkg
      rcases hM : (Fo.cons b y k1 r).list [] with _ | ⟨m0, ms⟩
      · rw [Fo.list_nil_cons] at hM
        have := (List.append_eq_nil_iff.1 hM).1
        exact absurd (List.map_eq_nil_iff.1 this) (tgood_ne ⟨g1, g2⟩)
      · have hb0 : ∃ t, m0.1 = b :: t := by
          rw [Fo.list_nil_cons] at hM
          rcases ht : tlist y k1 [] with _ | ⟨u, us⟩
          · exact absurd ht (tgood_ne ⟨g1, g2⟩)
          · rw [ht] at hM
            simp only [List.map_cons, List.cons_append, List.cons.injEq] at hM
            exact ⟨u.1, by rw [← hM.1]⟩
        obtain ⟨t0, ht0⟩ := hb0
        cases xh with
        | true =>
          simp only [if_true, List.map_cons, List.singleton_append]
          unfold cT
          have hlast : ∃ u, (((xp ++ m0.1, m0.2) :: ms.map fun p => (xp ++ p.1, p.2)).getLast (by simp)).1 = xp ++ u := by
            have hm := List.getLast_mem (l := ((xp ++ m0.1, m0.2) :: ms.map fun p => (xp ++ p.1, p.2))) (by simp)
            rcases List.mem_cons.1 hm with q | q
            · exact ⟨m0.1, by rw [q]⟩
            · obtain ⟨u, _, hu⟩ := List.mem_map.1 q
              exact ⟨u.1, by rw [← hu]⟩
          obtain ⟨u, hu⟩ := hlast
          have he : lcp xp (xp ++ u) = xp.length := by
            have := lcp_app xp [] u
            rw [List.append_nil] at this
            rw [this]
            cases u <;> simp [lcp]
          simp only [hu, he, if_true]
          rw [show ((xp ++ m0.1, m0.2) :: ms.map fun p => (xp ++ p.1, p.2)) = (m0 :: ms).map fun p => (xp ++ p.1, p.2) from rfl, cut_pre, ← hM, hi]
          simp
        | false =>
          obtain rfl : xv = 0 := w2 rfl
          simp only [Bool.false_eq_true, if_false, List.nil_append, List.map_cons]
          simp only [Fo.len, Bool.false_eq_true, if_false, Nat.add_zero] at hg
          have hr2 : r.list [] ≠ [] := by
            cases r with
            | nil => simp [Fo.len] at hg
            | cons b' y' k' r' =>
              intro q
              rw [Fo.list_nil_cons] at q
              have := (List.append_eq_nil_iff.1 q).1
              exact absurd (List.map_eq_nil_iff.1 this) (tgood_ne ⟨g3.1, g3.2.1⟩)
          rcases ms with _ | ⟨m1, ms⟩
          · exfalso
            rw [Fo.list_nil_cons] at hM
            have h5 := congrArg List.length hM
            have h6 : 0 < (tlist y k1 []).length := List.length_pos_iff.2 (tgood_ne ⟨g1, g2⟩)
            have h7 : 0 < (r.list []).length := List.length_pos_iff.2 hr2
            simp at h5
            omega
          · simp only [List.map_cons]
            unfold cT
            have hlast : ∃ c t, (((xp ++ m1.1, m1.2) :: ms.map fun p => (xp ++ p.1, p.2)).getLast (by simp)).1 = xp ++ c :: t ∧ b.toNat < c.toNat := by
              have e1 : ((xp ++ m1.1, m1.2) :: ms.map fun p => (xp ++ p.1, p.2)) = (m1 :: ms).map fun p => (xp ++ p.1, p.2) := rfl
              have e2 : (m1 :: ms).getLast (by simp) = (r.list []).getLast hr2 := by
                have e3 : (m0 :: m1 :: ms).getLast (by simp) = (m1 :: ms).getLast (by simp) := List.getLast_cons (by simp)
                rw [← e3]
                have e4 : (m0 :: m1 :: ms) = ((tlist y k1 []).map fun p => (b :: p.1, p.2)) ++ r.list [] := by rw [← hM, Fo.list_nil_cons]
                simp only [e4]
                exact List.getLast_append_of_ne_nil _ hr2
              obtain ⟨c, t, e, hc⟩ := Fo.heads h4 h1 _ (List.getLast_mem hr2)
              refine ⟨c, t, ?_, hc⟩
              simp only [e1]
              rw [List.getLast_map, e2, e]
            obtain ⟨c, t, hu, hc⟩ := hlast
            have he : lcp (xp ++ m0.1) (xp ++ c :: t) = xp.length := by
              rw [lcp_app, ht0, lcp_ne (fun q => by rw [q] at hc; omega)]
              omega
            simp only [hu, he]
            rw [if_neg (by rw [ht0]; simp)]
            rw [show ((xp ++ m0.1, m0.2) :: (xp ++ m1.1, m1.2) :: ms.map fun p => (xp ++ p.1, p.2)) = (m0 :: m1 :: ms).map fun p => (xp ++ p.1, p.2) from rfl, cut_pre, ← hM, hi]
            simp
theorem Fo.can {o : Int} : ∀ (k : Fo), k.wf o → k.good → ∀ f, (∀ p ∈ k.list [], p.1.length ≤ f) → mkF (cT o f) (grp (k.list [])) = k
  | .nil, _, _, _, _ => rfl
  | .cons b x k r, ⟨h1, h2, h3, h4⟩, ⟨g1, g2, g3⟩, f, hf => by
    rw [Fo.list_nil_cons] at hf ⊢
    rw [grp_step (fun p r' hp => by
      cases r with
      | nil => cases hp
      | cons b' y k' r'' =>
        obtain ⟨c, t, e, hc⟩ := Fo.heads h4 h1 p (by rw [hp]; simp)
        exact ⟨c, t, e, fun q => by rw [q] at hc; omega⟩) _ (tgood_ne ⟨g1, g2⟩)]
    have e1 := tree_can h2 h3 g1 g2 (fun f' hf' => Fo.can k h3 g2 f' hf') f (fun p hp => by
      have := hf (b :: p.1, p.2) (List.mem_append_left _ (List.mem_map.2 ⟨p, hp, rfl⟩))
      simp at this
      omega)
    rw [mkF, e1, Fo.can r h4 g3 f (fun p hp => hf p (List.mem_append_right _ hp))]
theorem canon_is {o : Int} {x : Nn} {k : Fo} (hx : wfN o x k) (hk : k.wf o) (hg : tgood x k) (f : Nat) (hf : ∀ p ∈ tlist x k [], p.1.length < f) : cT o f (tlist x k []) = (x, k) :=
  tree_can hx hk hg.1 hg.2 (fun f' hf' => Fo.can k hk hg.2 f' hf') f hf
end Go.Proofs.YtajpipaooaemdaaGreatDoor
