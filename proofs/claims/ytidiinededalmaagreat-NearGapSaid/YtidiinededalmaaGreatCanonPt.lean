/-
  The points of a canonical tree are the longest beginnings that two of its keys share, each once; how many bytes keys go on with there, and whether one ends there. No program is run.
  The canonical tree of pairs is well formed. No program is run.
-/
import Derived.Test.YtidiinededalmaaGreatCanonU
import Derived.Test.YtidiinededalmaaGreatCanRead
namespace Go.Proofs.YtidiinededalmaaGreat

/-- The inner nodes of a forest: the bytes on the way with the part, the node, its kids. -/
def Fo.pts : Fo → List UInt8 → List (List UInt8 × Nn × Fo)
  | .nil, _ => []
  | .cons b x k r, w => ((if x.leaf then [] else [((w ++ [b]) ++ x.part, x, k)]) ++ k.pts ((w ++ [b]) ++ x.part)) ++ r.pts w
def ptsT (x : Nn) (k : Fo) (w : List UInt8) : List (List UInt8 × Nn × Fo) := (if x.leaf then [] else [(w ++ x.part, x, k)]) ++ k.pts (w ++ x.part)
theorem Fo.pts_cons (b : UInt8) (x : Nn) (k r : Fo) (w : List UInt8) : (Fo.cons b x k r).pts w = ptsT x k (w ++ [b]) ++ r.pts w := rfl
def ptC (e : List UInt8 × Nn × Fo) : List UInt8 × List Value := (e.1, [.int .i64 (kindN e.2.2.len), .bool e.2.1.has])
theorem pointV_app (a b : List Vt) : pointV (a ++ b) = pointV a ++ pointV b := by unfold pointV; rw [List.filterMap_append]
theorem pointV_top (x : Nn) (k : Fo) (w : List UInt8) (d : Nat) (vs : List Vt) : pointV (⟨x, k.len, w, d⟩ :: vs) = (if x.leaf then [] else [(w, x, k)]).map ptC ++ pointV vs := by
  unfold pointV
  rw [List.filterMap_cons]
  cases hl : x.leaf with
  | true => simp
  | false => simp [Vt.kind, hl, ptC]
theorem Fo.vis_pts : ∀ (f : Fo) (w : List UInt8) (d : Nat), pointV (f.vis w d) = (f.pts w).map ptC
  | .nil, _, _ => rfl
  | .cons b x k r, w, d => by
    rw [Fo.vis_cons, pointV_app, Fo.vis_pts r w d, Fo.pts_cons, List.map_append]
    congr 1
    unfold tvis ptsT
    rw [pointV_top, Fo.vis_pts k, List.map_append]
theorem tvis_pts (x : Nn) (k : Fo) (w : List UInt8) (d : Nat) : pointV (tvis x k w d) = (ptsT x k w).map ptC := by
  unfold tvis ptsT
  rw [pointV_top, Fo.vis_pts k, List.map_append]

/-- Some key of these pairs. -/
def KeyIn (L : List KV) (s : List UInt8) : Prop := ∃ p ∈ L, p.1 = s
theorem KeyIn.app {L M : List KV} {s : List UInt8} : KeyIn (L ++ M) s ↔ KeyIn L s ∨ KeyIn M s := by
  unfold KeyIn
  constructor
  · rintro ⟨p, hp, e⟩
    rcases List.mem_append.1 hp with q | q
    · exact .inl ⟨p, q, e⟩
    · exact .inr ⟨p, q, e⟩
  · rintro (⟨p, hp, e⟩ | ⟨p, hp, e⟩)
    · exact ⟨p, List.mem_append.2 (.inl hp), e⟩
    · exact ⟨p, List.mem_append.2 (.inr hp), e⟩
/-- The keys of a node, from itself on. -/
def ownK (x : Nn) (k : Fo) : List KV := (if x.has then [([], x.val)] else []) ++ k.list []
theorem tlist_ownK (x : Nn) (k : Fo) (w : List UInt8) : tlist x k w = (ownK x k).map fun p => ((w ++ x.part) ++ p.1, p.2) := by
  have h := Fo.list_app (w ++ x.part) k []
  rw [List.append_nil] at h
  unfold tlist ownK
  rw [h]
  cases x.has <;> simp
theorem app_cancel {w s t : List UInt8} (h : w ++ s = w ++ t) : s = t := List.append_cancel_left h
theorem keyIn_map {L : List KV} {w s : List UInt8} : KeyIn (L.map fun p => (w ++ p.1, p.2)) (w ++ s) ↔ KeyIn L s := by
  unfold KeyIn
  constructor
  · rintro ⟨p, hp, e⟩
    obtain ⟨u, hu, rfl⟩ := List.mem_map.1 hp
    exact ⟨u, hu, app_cancel e⟩
  · rintro ⟨p, hp, rfl⟩
    exact ⟨_, List.mem_map.2 ⟨p, hp, rfl⟩, rfl⟩

section
variable {o : Int}
theorem Fo.list_heads : ∀ {f : Fo} {w : List UInt8}, f.wf o → ∀ p ∈ f.list w, ∃ c t, p.1 = w ++ c :: t ∧ ∀ b : UInt8, f.above b → b.toNat < c.toNat
  | .nil, _, _, p, hp => by cases hp
  | .cons b x k r, w, ⟨h1, h2, h3, h4⟩, p, hp => by
    rw [Fo.list_cons] at hp
    rcases List.mem_append.1 hp with q | q
    · rw [tlist_ownK] at q
      obtain ⟨u, _, rfl⟩ := List.mem_map.1 q
      exact ⟨b, x.part ++ u.1, by simp, fun b' hb => hb⟩
    · obtain ⟨c, t, e, hc⟩ := Fo.list_heads h4 p q
      exact ⟨c, t, e, fun b' hb => Nat.lt_trans hb (hc b h1)⟩
theorem Fo.pts_heads : ∀ {f : Fo} {w : List UInt8}, f.wf o → ∀ e ∈ f.pts w, ∃ c t, e.1 = w ++ c :: t ∧ ∀ b : UInt8, f.above b → b.toNat < c.toNat
  | .nil, _, _, p, hp => by cases hp
  | .cons b x k r, w, ⟨h1, h2, h3, h4⟩, p, hp => by
    rw [Fo.pts_cons] at hp
    rcases List.mem_append.1 hp with q | q
    · unfold ptsT at q
      rcases List.mem_append.1 q with q | q
      · have : p.1 = (w ++ [b]) ++ x.part := by
          cases hl : x.leaf with
          | true => rw [hl, if_pos rfl] at q; cases q
          | false => rw [hl] at q; simp at q; rw [q]; simp
        exact ⟨b, x.part, by rw [this]; simp, fun b' hb => hb⟩
      · obtain ⟨c, t, e, _⟩ := Fo.pts_heads h3 p q
        exact ⟨b, x.part ++ c :: t, by rw [e]; simp, fun b' hb => hb⟩
    · obtain ⟨c, t, e, hc⟩ := Fo.pts_heads h4 p q
      exact ⟨c, t, e, fun b' hb => Nat.lt_trans hb (hc b h1)⟩
theorem head_ne {w s t : List UInt8} {b c : UInt8} (h : w ++ b :: s = w ++ c :: t) : b = c := by
  have := app_cancel h
  injection this
theorem ownK_heads {x : Nn} {k : Fo} (hk : k.wf o) : ∀ p ∈ ownK x k, (p.1 = [] ∧ x.has = true) ∨ (p ∈ k.list [] ∧ ∃ c t, p.1 = c :: t) := by
  intro p hp
  unfold ownK at hp
  rcases List.mem_append.1 hp with q | q
  · cases hh : x.has with
    | true => rw [hh] at q; simp at q; exact .inl ⟨by rw [q], rfl⟩
    | false => rw [hh] at q; simp at q
  · obtain ⟨c, t, e, _⟩ := Fo.list_heads hk p q
    exact .inr ⟨q, c, t, by simpa using e⟩

/-- An entry's own node and kids are well made. -/
def PtOk (o : Int) (e : List UInt8 × Nn × Fo) : Prop := e.2.1.leaf = false ∧ okN e.2.1 e.2.2 ∧ e.2.2.wf o ∧ e.2.2.good
theorem ptsT_ok {x : Nn} {k : Fo} {w : List UInt8} (hk : k.wf o) (ho : okN x k) (hg : k.good) (ih : ∀ w, ∀ e ∈ k.pts w, PtOk o e) : ∀ e ∈ ptsT x k w, PtOk o e := by
  intro e he
  unfold ptsT at he
  rcases List.mem_append.1 he with q | q
  · cases hl : x.leaf with
    | true => rw [hl, if_pos rfl] at q; cases q
    | false => rw [hl] at q; simp at q; rw [q]; exact ⟨hl, ho, hk, hg⟩
  · exact ih _ e q
theorem Fo.pts_ok : ∀ {f : Fo} (w : List UInt8), f.wf o → f.good → ∀ e ∈ f.pts w, PtOk o e
  | .nil, _, _, _, e, he => by cases he
  | .cons b x k r, w, ⟨_, _, h3, h4⟩, ⟨g1, g2, g3⟩, e, he => by
    rw [Fo.pts_cons] at he
    rcases List.mem_append.1 he with q | q
    · exact ptsT_ok h3 g1 g2 (fun w' => Fo.pts_ok w' h3 g2) e q
    · exact Fo.pts_ok w h4 g3 e q

/-- The keys behind an inner node's way are its own. -/
theorem ptsT_keys {x : Nn} {k : Fo} {w : List UInt8} (hk : k.wf o) (ih : ∀ w, ∀ e ∈ k.pts w, ∀ s, KeyIn (k.list w) (e.1 ++ s) ↔ KeyIn (ownK e.2.1 e.2.2) s) : ∀ e ∈ ptsT x k w, ∀ s, KeyIn (tlist x k w) (e.1 ++ s) ↔ KeyIn (ownK e.2.1 e.2.2) s := by
  intro e he s
  unfold ptsT at he
  rcases List.mem_append.1 he with q | q
  · have : e = (w ++ x.part, x, k) := by
      cases hl : x.leaf with
      | true => rw [hl, if_pos rfl] at q; cases q
      | false => rw [hl] at q; simpa using q
    subst this
    rw [tlist_ownK]
    exact keyIn_map
  · unfold tlist
    rw [KeyIn.app, ih _ e q s]
    refine ⟨fun h => h.resolve_left ?_, .inr⟩
    rintro ⟨p, hp, e1⟩
    obtain ⟨c, t, e2, _⟩ := Fo.pts_heads hk e q
    cases hh : x.has with
    | false => rw [hh] at hp; simp at hp
    | true =>
      rw [hh] at hp
      simp at hp
      rw [hp, e2] at e1
      have := congrArg List.length e1
      simp at this
theorem Fo.pts_keys : ∀ {f : Fo} (w : List UInt8), f.wf o → ∀ e ∈ f.pts w, ∀ s, KeyIn (f.list w) (e.1 ++ s) ↔ KeyIn (ownK e.2.1 e.2.2) s
  | .nil, _, _, e, he, _ => by cases he
  | .cons b x k r, w, ⟨h1, h2, h3, h4⟩, e, he, s => by
    rw [Fo.pts_cons] at he
    rw [Fo.list_cons, KeyIn.app]
    rcases List.mem_append.1 he with q | q
    · rw [ptsT_keys h3 (fun w' => Fo.pts_keys w' h3) e q s]
      refine ⟨fun h => h.resolve_right ?_, .inl⟩
      rintro ⟨p, hp, e1⟩
      obtain ⟨c, t, e2, hc⟩ := Fo.list_heads h4 p hp
      have : ∃ t', e.1 = w ++ b :: t' := by
        unfold ptsT at q
        rcases List.mem_append.1 q with q | q
        · cases hl : x.leaf with
          | true => rw [hl, if_pos rfl] at q; cases q
          | false => rw [hl] at q; simp at q; exact ⟨x.part, by simp [q]⟩
        · obtain ⟨c', t', e3, _⟩ := Fo.pts_heads h3 e q
          exact ⟨x.part ++ c' :: t', by rw [e3]; simp⟩
      obtain ⟨t', e3⟩ := this
      rw [e2, e3, List.append_assoc] at e1
      have := head_ne e1
      subst this
      exact Nat.lt_irrefl _ (hc c h1)
    · rw [Fo.pts_keys w h4 e q s]
      refine ⟨fun h => h.resolve_left ?_, .inr⟩
      rintro ⟨p, hp, e1⟩
      obtain ⟨c, t, e2, hc⟩ := Fo.pts_heads h4 e q
      rw [tlist_ownK] at hp
      obtain ⟨u, _, rfl⟩ := List.mem_map.1 hp
      rw [e2] at e1
      simp only [List.append_assoc, List.cons_append, List.nil_append] at e1
      have := head_ne e1
      subst this
      exact Nat.lt_irrefl _ (hc b h1)

/-- The ways rise. -/
theorem cmp_head {w s t : List UInt8} {b c : UInt8} (h : b.toNat < c.toNat) : cmpL (w ++ b :: s) (w ++ c :: t) < 0 := (cmp_pre w _ _).2 (lt_cons.2 (.inl h))
abbrev RiseE (l : List (List UInt8 × Nn × Fo)) : Prop := l.Pairwise fun a b => cmpL a.1 b.1 < 0
theorem ptsT_rise {x : Nn} {k : Fo} {w : List UInt8} (hk : k.wf o) (ih : ∀ w, RiseE (k.pts w)) : RiseE (ptsT x k w) := by
  unfold ptsT
  refine List.pairwise_append.2 ⟨?_, ih _, fun a ha e he => ?_⟩
  · cases x.leaf <;> simp
  · have : a.1 = w ++ x.part := by
      cases hl : x.leaf with
      | true => rw [hl, if_pos rfl] at ha; cases ha
      | false => rw [hl] at ha; simp at ha; rw [ha]
    obtain ⟨c, t, e2, _⟩ := Fo.pts_heads hk e he
    rw [this, e2]
    exact cmp_longer _ _ _
theorem Fo.pts_rise : ∀ {f : Fo} (w : List UInt8), f.wf o → RiseE (f.pts w)
  | .nil, _, _ => List.Pairwise.nil
  | .cons b x k r, w, ⟨h1, h2, h3, h4⟩ => by
    rw [Fo.pts_cons]
    refine List.pairwise_append.2 ⟨ptsT_rise h3 (fun w' => Fo.pts_rise w' h3), Fo.pts_rise w h4, fun a ha e he => ?_⟩
    have : ∃ t', a.1 = w ++ b :: t' := by
      unfold ptsT at ha
      rcases List.mem_append.1 ha with q | q
      · cases hl : x.leaf with
        | true => rw [hl, if_pos rfl] at q; cases q
        | false => rw [hl] at q; simp at q; exact ⟨x.part, by simp [q]⟩
      · obtain ⟨c', t', e3, _⟩ := Fo.pts_heads h3 a q
        exact ⟨x.part ++ c' :: t', by rw [e3]; simp⟩
    obtain ⟨t', e3⟩ := this
    obtain ⟨c, t, e2, hc⟩ := Fo.pts_heads h4 e he
    rw [e2, e3]
    exact cmp_head (hc b h1)

/-- Two keys part at an inner node, or where all of a forest's keys do. -/
theorem lcp_longer (a : List UInt8) (t : List UInt8) : lcp a (a ++ t) = a.length := by
  induction a with
  | nil => simp [lcp]
  | cons c a ih => rw [List.cons_append, lcp_same, ih, List.length_cons]
theorem lcp_longer' (a : List UInt8) (t : List UInt8) : lcp (a ++ t) a = a.length := by
  induction a with
  | nil => cases t <;> simp [lcp]
  | cons c a ih => rw [List.cons_append, lcp_same, ih, List.length_cons]
theorem lcp_part (w s t : List UInt8) {b c : UInt8} (h : b ≠ c) : lcp (w ++ b :: s) (w ++ c :: t) = w.length := by
  rw [lcp_app, lcp_ne h, Nat.add_zero]
theorem ptsT_part {x : Nn} {k : Fo} {w : List UInt8} (hx : wfN o x k) (hk : k.wf o) (ih : ∀ w, ∀ p ∈ k.list w, ∀ q ∈ k.list w, p.1 ≠ q.1 → lcp p.1 q.1 = w.length ∨ ∃ e ∈ k.pts w, e.1 = p.1.take (lcp p.1 q.1)) :
    ∀ p ∈ tlist x k w, ∀ q ∈ tlist x k w, p.1 ≠ q.1 → ∃ e ∈ ptsT x k w, e.1 = p.1.take (lcp p.1 q.1) := by
  intro p hp q hq hne
  have top : k ≠ .nil → ∀ u t, p.1 = (w ++ x.part) ++ t → u = (w ++ x.part).length → ∃ e ∈ ptsT x k w, e.1 = p.1.take u := fun hkn u t e1 e2 => by
    have hl : x.leaf = false := by
      cases hl : x.leaf with
      | false => rfl
      | true => exact absurd (hx.1 hl).1 hkn
    refine ⟨(w ++ x.part, x, k), ?_, ?_⟩
    · unfold ptsT; rw [hl]; simp
    · rw [e1, e2, List.take_left]
  have own : ∀ z : KV, z ∈ (if x.has then [(w ++ x.part, x.val)] else [] : List KV) → z.1 = w ++ x.part := fun z hz => by
    cases hh : x.has with
    | false => rw [hh] at hz; simp at hz
    | true => rw [hh] at hz; simp at hz; rw [hz]
  have kne : ∀ z : KV, z ∈ k.list (w ++ x.part) → k ≠ .nil := fun z hz e => by subst e; cases hz
  unfold tlist at hp hq
  rcases List.mem_append.1 hp with p1 | p1 <;> rcases List.mem_append.1 hq with q1 | q1
  · exact absurd ((own p p1).trans (own q q1).symm) hne
  · obtain ⟨c, t, e, _⟩ := Fo.list_heads hk q q1
    refine top (kne q q1) _ [] (by rw [own p p1, List.append_nil]) ?_
    rw [own p p1, e, lcp_longer]
  · obtain ⟨c, t, e, _⟩ := Fo.list_heads hk p p1
    refine top (kne p p1) _ (c :: t) e ?_
    rw [own q q1, e, lcp_longer']
  · rcases ih _ p p1 q q1 hne with h | ⟨e, he, h⟩
    · obtain ⟨c, t, e, _⟩ := Fo.list_heads hk p p1
      exact top (kne p p1) _ (c :: t) e h
    · exact ⟨e, by unfold ptsT; exact List.mem_append.2 (.inr he), h⟩
theorem Fo.pts_part : ∀ {f : Fo} (w : List UInt8), f.wf o → ∀ p ∈ f.list w, ∀ q ∈ f.list w, p.1 ≠ q.1 → lcp p.1 q.1 = w.length ∨ ∃ e ∈ f.pts w, e.1 = p.1.take (lcp p.1 q.1)
  | .nil, _, _, p, hp, _, _, _ => by cases hp
  | .cons b x k r, w, ⟨h1, h2, h3, h4⟩, p, hp, q, hq, hne => by
    rw [Fo.list_cons] at hp hq
    have fst : ∀ z ∈ tlist x k (w ++ [b]), ∃ t, z.1 = w ++ b :: t := fun z hz => by
      rw [tlist_ownK] at hz
      obtain ⟨u, _, rfl⟩ := List.mem_map.1 hz
      exact ⟨x.part ++ u.1, by simp⟩
    rw [Fo.pts_cons]
    rcases List.mem_append.1 hp with p1 | p1 <;> rcases List.mem_append.1 hq with q1 | q1
    · obtain ⟨e, he, h⟩ := ptsT_part h2 h3 (fun w' => Fo.pts_part w' h3) p p1 q q1 hne
      exact .inr ⟨e, List.mem_append.2 (.inl he), h⟩
    · obtain ⟨t, e1⟩ := fst p p1
      obtain ⟨c, t', e2, hc⟩ := Fo.list_heads h4 q q1
      rw [e1, e2]
      exact .inl (lcp_part _ _ _ fun e => by subst e; exact Nat.lt_irrefl _ (hc b h1))
    · obtain ⟨t, e1⟩ := fst q q1
      obtain ⟨c, t', e2, hc⟩ := Fo.list_heads h4 p p1
      rw [e1, e2]
      exact .inl (lcp_part _ _ _ fun e => by subst e; exact Nat.lt_irrefl _ (hc c h1))
    · rcases Fo.pts_part w h4 p p1 q q1 hne with h | ⟨e, he, h⟩
      · exact .inl h
      · exact .inr ⟨e, List.mem_append.2 (.inr he), h⟩

/-- By which bytes a node's keys go on. -/
def Fo.bytes : Fo → List UInt8
  | .nil => []
  | .cons b _ _ r => b :: r.bytes
theorem Fo.bytes_len : ∀ f : Fo, f.bytes.length = f.len
  | .nil => rfl
  | .cons _ _ _ r => by rw [Fo.bytes, List.length_cons, Fo.bytes_len r]; rfl
theorem Fo.bytes_above : ∀ {f : Fo}, f.wf o → ∀ c ∈ f.bytes, ∀ b : UInt8, f.above b → b.toNat < c.toNat
  | .nil, _, c, hc, _, _ => by cases hc
  | .cons b' x k r, ⟨h1, _, _, h4⟩, c, hc, b, hb => by
    rcases List.mem_cons.1 hc with e | q
    · rw [e]; exact hb
    · exact Nat.lt_trans hb (Fo.bytes_above h4 c q b' h1)
theorem Fo.bytes_rise : ∀ {f : Fo}, f.wf o → f.bytes.Pairwise fun a b => a.toNat < b.toNat
  | .nil, _ => List.Pairwise.nil
  | .cons b' _ _ _, ⟨h1, _, _, h4⟩ => List.pairwise_cons.2 ⟨fun c hc => Fo.bytes_above h4 c hc b' h1, Fo.bytes_rise h4⟩
theorem Fo.bytes_keys : ∀ {f : Fo}, f.good → ∀ c : UInt8, c ∈ f.bytes ↔ ∃ t, KeyIn (f.list []) (c :: t)
  | .nil, _, c => ⟨fun h => by (cases h), fun ⟨_, p, hp, _⟩ => by cases hp⟩
  | .cons b x k r, ⟨g1, g2, g3⟩, c => by
    rw [Fo.list_nil_cons, Fo.bytes, List.mem_cons, Fo.bytes_keys g3 c]
    constructor
    · rintro (e | ⟨t, h⟩)
      · subst e
        rcases hL : tlist x k [] with _ | ⟨p, L⟩
        · exact absurd hL (tgood_ne ⟨g1, g2⟩)
        · exact ⟨p.1, KeyIn.app.2 (.inl ⟨_, List.mem_map.2 ⟨p, by simp, rfl⟩, rfl⟩)⟩
      · exact ⟨t, KeyIn.app.2 (.inr h)⟩
    · rintro ⟨t, h⟩
      rcases KeyIn.app.1 h with ⟨p, hp, e⟩ | h
      · obtain ⟨u, _, rfl⟩ := List.mem_map.1 hp
        injection e with e _
        exact .inl e.symm
      · exact .inr ⟨t, h⟩
end
/-- By how many bytes keys go on behind some bytes. -/
def fanN (L : List KV) (way : List UInt8) : Nat := (List.range 256).countP fun n => L.any fun p => decide (p.1.take way.length = way ∧ p.1[way.length]? = some (UInt8.ofNat n))
def hasN (L : List KV) (way : List UInt8) : Bool := L.any fun p => decide (p.1 = way)
theorem count_range {bs : List UInt8} (h : bs.Pairwise fun a b => a.toNat < b.toNat) {P : Nat → Bool} (hP : ∀ n, n < 256 → (P n = true ↔ UInt8.ofNat n ∈ bs)) : (List.range 256).countP P = bs.length := by
  rw [List.countP_eq_length_filter, show bs.length = (bs.map UInt8.toNat).length by simp]
  refine List.Perm.length_eq ((List.perm_ext_iff_of_nodup (List.Nodup.sublist List.filter_sublist List.nodup_range) ?_).2 fun n => ?_)
  · refine List.Pairwise.map _ (fun a b hab => Nat.ne_of_lt hab) h
  · rw [List.mem_filter, List.mem_range, List.mem_map]
    constructor
    · rintro ⟨hn, hp⟩
      exact ⟨_, (hP n hn).1 hp, by rw [UInt8.toNat_ofNat']; omega⟩
    · rintro ⟨b, hb, rfl⟩
      have := b.toNat_lt
      exact ⟨this, (hP _ this).2 (by rw [UInt8.ofNat_toNat]; exact hb)⟩
theorem take_app {l w : List UInt8} (h : l.take w.length = w) : l = w ++ l.drop w.length := by
  conv => lhs; rw [← List.take_append_drop w.length l, h]
theorem goes_on {L : List KV} {w : List UInt8} {c : UInt8} : (L.any fun p => decide (p.1.take w.length = w ∧ p.1[w.length]? = some c)) = true ↔ ∃ t, KeyIn L (w ++ c :: t) := by
  rw [List.any_eq_true]
  constructor
  · rintro ⟨p, hp, h⟩
    obtain ⟨h1, h2⟩ := of_decide_eq_true h
    refine ⟨p.1.drop (w.length + 1), p, hp, ?_⟩
    have e := take_app h1
    rw [drop_head h2] at e
    exact e
  · rintro ⟨t, p, hp, e⟩
    refine ⟨p, hp, decide_eq_true ⟨?_, ?_⟩⟩
    · rw [e, List.take_left]
    · rw [e, List.getElem?_append_right (Nat.le_refl _), Nat.sub_self]; rfl
section
variable {o : Int}
theorem pt_fan {L : List KV} {e : List UInt8 × Nn × Fo} (hk : ∀ s, KeyIn L (e.1 ++ s) ↔ KeyIn (ownK e.2.1 e.2.2) s) (ho : PtOk o e) : fanN L e.1 = e.2.2.len ∧ hasN L e.1 = e.2.1.has := by
  obtain ⟨way, x, k⟩ := e
  obtain ⟨o1, o2, o3, o4⟩ := ho
  simp only at hk o1 o2 o3 o4 ⊢
  constructor
  · unfold fanN
    rw [← Fo.bytes_len]
    refine count_range (Fo.bytes_rise o3) fun n hn => ?_
    rw [goes_on, Fo.bytes_keys o4]
    constructor
    · rintro ⟨t, h⟩
      obtain ⟨p, hp, e1⟩ := (hk _).1 h
      rcases ownK_heads o3 p hp with ⟨h1, _⟩ | ⟨h1, _⟩
      · rw [h1] at e1; cases e1
      · exact ⟨t, p, h1, e1⟩
    · rintro ⟨t, p, hp, e1⟩
      exact ⟨t, (hk _).2 ⟨p, by unfold ownK; exact List.mem_append.2 (.inr hp), e1⟩⟩
  · have : hasN L way = true ↔ x.has = true := by
      unfold hasN
      rw [List.any_eq_true]
      have h0 := hk []
      rw [List.append_nil] at h0
      constructor
      · rintro ⟨p, hp, h⟩
        obtain ⟨q, hq, e1⟩ := h0.1 ⟨p, hp, of_decide_eq_true h⟩
        rcases ownK_heads o3 q hq with ⟨_, h2⟩ | ⟨_, c, t, h2⟩
        · exact h2
        · rw [h2] at e1; cases e1
      · intro hh
        obtain ⟨q, hq, e1⟩ := h0.2 ⟨([], x.val), by unfold ownK; rw [hh]; simp, rfl⟩
        exact ⟨q, hq, decide_eq_true e1⟩
    cases hh : x.has with
    | true => rw [this.2 hh]
    | false =>
      cases hl : hasN L way with
      | false => rfl
      | true => rw [this.1 hl] at hh; cases hh
/-- At an inner node two keys part. -/
theorem pt_two {L : List KV} {e : List UInt8 × Nn × Fo} (hk : ∀ s, KeyIn L (e.1 ++ s) ↔ KeyIn (ownK e.2.1 e.2.2) s) (ho : PtOk o e) : ∃ p ∈ L, ∃ q ∈ L, p.1 ≠ q.1 ∧ e.1 = p.1.take (lcp p.1 q.1) := by
  obtain ⟨way, x, k⟩ := e
  obtain ⟨o1, o2, o3, o4⟩ := ho
  simp only at hk o1 o2 o3 o4 ⊢
  have fin : ∀ s t, KeyIn (ownK x k) s → KeyIn (ownK x k) t → s ≠ t → lcp (way ++ s) (way ++ t) = way.length → ∃ p ∈ L, ∃ q ∈ L, p.1 ≠ q.1 ∧ way = p.1.take (lcp p.1 q.1) := fun s t hs ht hne hl => by
    obtain ⟨p, hp, e1⟩ := (hk s).2 hs
    obtain ⟨q, hq, e2⟩ := (hk t).2 ht
    exact ⟨p, hp, q, hq, by rw [e1, e2]; exact fun h => hne (app_cancel h), by rw [e1, e2, hl, List.take_left]⟩
  have kid : ∀ s, KeyIn (k.list []) s → KeyIn (ownK x k) s := fun s ⟨p, hp, e1⟩ => ⟨p, by unfold ownK; exact List.mem_append.2 (.inr hp), e1⟩
  unfold okN at o2
  rw [o1] at o2
  simp only [Bool.false_eq_true, if_false] at o2
  cases k with
  | nil => cases hh : x.has <;> rw [hh] at o2 <;> simp [Fo.len] at o2
  | cons b y k' r =>
    obtain ⟨t, hb⟩ := (Fo.bytes_keys o4 b).1 (by simp [Fo.bytes])
    cases r with
    | nil =>
      have hh : x.has = true := by
        cases hh : x.has with
        | true => rfl
        | false => rw [hh] at o2; simp [Fo.len] at o2
      refine fin [] (b :: t) ⟨([], x.val), by unfold ownK; rw [hh]; simp, rfl⟩ (kid _ hb) (by simp) ?_
      rw [List.append_nil, lcp_longer]
    | cons c z k2 r2 =>
      obtain ⟨t2, hc⟩ := (Fo.bytes_keys o4 c).1 (by simp [Fo.bytes])
      have hbc : b ≠ c := fun e => by
        have h1 : b.toNat < c.toNat := o3.1
        rw [e] at h1
        exact Nat.lt_irrefl _ h1
      exact fin (b :: t) (c :: t2) (kid _ hb) (kid _ hc) (fun e => hbc (by injection e)) (lcp_part _ _ _ hbc)

theorem rise_ext : ∀ {a b : List (List UInt8)}, a.Pairwise (fun x y => cmpL x y < 0) → b.Pairwise (fun x y => cmpL x y < 0) → (∀ x, x ∈ a ↔ x ∈ b) → a = b
  | [], [], _, _, _ => rfl
  | [], y :: b, _, _, h => by have := (h y).2 (by simp); cases this
  | x :: a, [], _, _, h => by have := (h x).1 (by simp); cases this
  | x :: a, y :: b, ha, hb, h => by
    have irr : ∀ z : List UInt8, ¬ cmpL z z < 0 := fun z hz => by
      induction z with
      | nil => simp [cmpL] at hz
      | cons c z ih => rcases lt_cons.1 hz with q | ⟨_, q⟩
                       · exact Nat.lt_irrefl _ q
                       · exact ih q
    obtain ⟨a1, a2⟩ := List.pairwise_cons.1 ha
    obtain ⟨b1, b2⟩ := List.pairwise_cons.1 hb
    have hxy : x = y := by
      rcases List.mem_cons.1 ((h x).1 (by simp)) with e | q
      · exact e
      · rcases List.mem_cons.1 ((h y).2 (by simp)) with e | q2
        · exact e.symm
        · exact absurd (lt_trans (a1 y q2) (b1 x q)) (irr x)
    subst hxy
    rw [rise_ext a2 b2 fun z => ⟨fun hz => ?_, fun hz => ?_⟩]
    · rcases List.mem_cons.1 ((h z).1 (by simp [hz])) with e | q
      · subst e; exact absurd (a1 _ hz) (irr _)
      · exact q
    · rcases List.mem_cons.1 ((h z).2 (by simp [hz])) with e | q
      · subst e; exact absurd (b1 _ hz) (irr _)
      · exact q
/-- The points of a fine tree, out of its pairs: D are the beginnings that two of its keys share, rising. -/
theorem points_of {x : Nn} {k : Fo} (hx : wfN o x k) (hk : k.wf o) (hg : tgood x k) {L : List KV} (hL : tlist x k [] = L) {D : List (List UInt8)} (hD : D.Pairwise fun a b => cmpL a b < 0) (hm : ∀ z, z ∈ D ↔ ∃ p ∈ L, ∃ q ∈ L, p.1 ≠ q.1 ∧ z = p.1.take (lcp p.1 q.1)) :
    pointV (otvis (some (x, k))) = D.map fun z => (z, [.int .i64 (kindN (fanN L z)), .bool (hasN L z)]) := by
  subst hL
  have hkeys := ptsT_keys (x := x) (w := []) hk (fun w => Fo.pts_keys w hk)
  have hok := ptsT_ok (x := x) (w := []) hk hg.1 hg.2 (fun w => Fo.pts_ok w hk hg.2)
  have hds : (ptsT x k []).map (·.1) = D := by
    refine rise_ext ?_ hD fun z => ?_
    · rw [List.pairwise_map]
      exact ptsT_rise hk (fun w => Fo.pts_rise w hk)
    · rw [hm z, List.mem_map]
      constructor
      · rintro ⟨e, he, rfl⟩
        exact pt_two (hkeys e he) (hok e he)
      · rintro ⟨p, hp, q, hq, hne, e1⟩
        obtain ⟨e, he, h⟩ := ptsT_part hx hk (fun w => Fo.pts_part w hk) p hp q hq hne
        exact ⟨e, he, h.trans e1.symm⟩
  show pointV (tvis x k [] 1) = _
  rw [tvis_pts, ← hds, List.map_map]
  refine List.map_congr_left fun e he => ?_
  obtain ⟨h1, h2⟩ := pt_fan (hkeys e he) (hok e he)
  show ptC e = (e.1, _)
  unfold ptC
  rw [h1, h2]
end
end Go.Proofs.YtidiinededalmaaGreat

namespace Go.Proofs.YtidiinededalmaaGreat

theorem mkF_above {c : List KV → Nn × Fo} {b : UInt8} : ∀ {gs : List (UInt8 × List KV)}, (∀ x ∈ gs, b.toNat < x.1.toNat) → (mkF c gs).above b
  | [], _ => trivial
  | (_, _) :: _, h => h _ (List.mem_cons_self ..)
theorem mkF_wf {o : Int} {c : List KV → Nn × Fo} : ∀ {gs : List (UInt8 × List KV)}, (gs.Pairwise fun a b => a.1.toNat < b.1.toNat) → (∀ x ∈ gs, wfN o (c x.2).1 (c x.2).2 ∧ (c x.2).2.wf o) → (mkF c gs).wf o
  | [], _, _ => trivial
  | (_, _) :: _, hp, h => ⟨mkF_above (List.pairwise_cons.1 hp).1, (h _ (List.mem_cons_self ..)).1, (h _ (List.mem_cons_self ..)).2, mkF_wf (List.pairwise_cons.1 hp).2 fun x hx => h x (List.mem_cons_of_mem _ hx)⟩
theorem cT_wf (o : Int) : ∀ (f : Nat) (L : List KV), L ≠ [] → Rise L → (∀ p ∈ L, p.1.length < f) → wfN o (cT o f L).1 (cT o f L).2 ∧ (cT o f L).2.wf o
  | 0, L, h, _, hf => by
    rcases L with _ | ⟨p, L⟩
    · exact absurd rfl h
    · have := hf p (List.mem_cons_self ..); omega
  | f + 1, [], h, _, _ => absurd rfl h
  | f + 1, [p], _, _, _ => by simp [cT, wfN, Fo.wf]
  | f + 1, p :: q :: r, _, hr, hf => by
    have hends := rise_ends hr
    obtain ⟨z, hz⟩ : ∃ z, (q :: r).getLast (by simp) = z := ⟨_, rfl⟩
    rw [hz] at hends
    obtain ⟨e, he⟩ : ∃ e, lcp p.1 z.1 = e := ⟨_, rfl⟩
    rw [he] at hends
    have hep : e ≤ p.1.length := by rw [← he]; exact lcp_le_left _ _
    have part : ∀ rest : List KV, (∀ u ∈ rest, e ≤ lcp p.1 u.1 ∧ e < u.1.length ∧ u.1.length < f + 1) → Rise rest → (mkF (cT o f) (grp (cut e rest))).wf o := by
      intro rest h1 h2
      have hcr : Rise (cut e rest) := cut_rise p.1 h2 (fun u hu => (h1 u hu).1)
      obtain ⟨s1, s2, s3⟩ := grp_spec (cut e rest) (fun u hu => by
        unfold cut at hu
        obtain ⟨v, hv, rfl⟩ := List.mem_map.1 hu
        have := (h1 v hv).2.1
        intro q
        have := congrArg List.length q
        simp at this
        omega) hcr
      have hin : ∀ x ∈ grp (cut e rest), ∀ u ∈ x.2, u.1.length < f := fun x hx u hu => by
        have : (x.1 :: u.1, u.2) ∈ ungrp (grp (cut e rest)) := mem_ungrp hx hu
        rw [s1] at this
        unfold cut at this
        obtain ⟨v, hv, e2⟩ := List.mem_map.1 this
        have := congrArg (fun y : KV => y.1.length) e2
        simp at this
        have := (h1 v hv).2.2
        omega
      exact mkF_wf s3 fun x hx => cT_wf o f x.2 (s2 x hx).1 (s2 x hx).2 (hin x hx)
    have hall : ∀ u ∈ q :: r, e ≤ lcp p.1 u.1 ∧ e < u.1.length ∧ u.1.length < f + 1 := fun u hu => ⟨(hends u hu).1, (hends u hu).2, hf u (List.mem_cons_of_mem _ hu)⟩
    unfold cT
    simp only [hz, he]
    by_cases hp : p.1.length = e
    · rw [if_pos hp]
      exact ⟨⟨fun h => by simp at h, fun h => by simp at h, rfl⟩, part (q :: r) hall (List.pairwise_cons.1 hr).2⟩
    · rw [if_neg hp]
      exact ⟨⟨fun h => by simp at h, fun _ => rfl, rfl⟩, part (p :: q :: r) (fun u hu => by
        rcases List.mem_cons.1 hu with rfl | hu
        · exact ⟨by rw [lcp_same2]; exact hep, by omega, hf _ (List.mem_cons_self ..)⟩
        · exact hall u hu) hr⟩
end Go.Proofs.YtidiinededalmaaGreat
