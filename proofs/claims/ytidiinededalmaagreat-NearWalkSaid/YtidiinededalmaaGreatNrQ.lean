/-
  The first pair of a tree and its last one; the key behind a key; which pairs stand beside a key among pairs that rise. No program is run.
-/
import Derived.Test.YtidiinededalmaaGreatNrP
import Derived.Test.YtidiinededalmaaGreatCanonQ
namespace Go.Proofs.YtidiinededalmaaGreat
open Go.RowKit

/-- Each tree of a forest has a pair. -/
def Fo.full : Fo → Prop
  | .nil => True
  | .cons _ x k r => tlist x k [] ≠ [] ∧ k.full ∧ r.full
def ofull : Option (Nn × Fo) → Prop
  | none => True
  | some t => tlist t.1 t.2 [] ≠ [] ∧ t.2.full
theorem Fo.good_full : ∀ {f : Fo}, f.good → f.full
  | .nil, _ => trivial
  | .cons _ _ _ _, ⟨h1, h2, h3⟩ => ⟨tgood_ne ⟨h1, h2⟩, Fo.good_full h2, Fo.good_full h3⟩
theorem Fo.kid_full : ∀ {f : Fo} {c : UInt8}, f.full → ofull (f.kid c)
  | .nil, _, _ => trivial
  | .cons b x k r, c, ⟨h1, h2, h3⟩ => by
    rw [Fo.kid]
    split
    · exact ⟨h1, h2⟩
    · exact Fo.kid_full h3
theorem Fo.hi_full : ∀ {f : Fo} {c : UInt8}, f.full → (f.hi c).full
  | .nil, _, _ => trivial
  | .cons b x k r, c, ⟨h1, h2, h3⟩ => by
    rw [Fo.hi]
    split
    · exact Fo.hi_full h3
    · exact ⟨h1, h2, h3⟩
theorem Fo.lo_full : ∀ {f : Fo} {c : UInt8}, f.full → (f.lo c).full
  | .nil, _, _ => trivial
  | .cons b x k r, c, ⟨h1, h2, h3⟩ => by
    rw [Fo.lo]
    split
    · exact ⟨h1, h2, Fo.lo_full h3⟩
    · trivial
theorem Fo.kid_wf {o : Int} : ∀ {f : Fo} {c : UInt8} {t : Nn × Fo}, f.wf o → f.kid c = some t → t.2.wf o
  | .nil, _, _, _, h => by cases h
  | .cons b x k r, c, t, ⟨_, _, h3, h4⟩, h => by
    rw [Fo.kid] at h
    split at h
    · cases h; exact h3
    · exact Fo.kid_wf h4 h
theorem tlist_ne {x : Nn} {k : Fo} (h : tlist x k [] ≠ []) (pw : List UInt8) : tlist x k pw ≠ [] := by
  rw [tlist_at]
  simpa using h
/-- Of a pair's key so many bytes stand on the way to its node. -/
theorem tlist_way {x : Nn} {k : Fo} (h : tlist x k [] ≠ []) {pw : List UInt8} {M : Nat} (hM : ∀ p ∈ tlist x k pw, p.1.length ≤ M) : pw.length + x.part.length ≤ M := by
  obtain ⟨p, hp⟩ := List.exists_mem_of_ne_nil _ h
  have h2 : ∃ s, p.1 = x.part ++ s := by
    have hp := hp
    rw [tlist_own] at hp
    rcases List.mem_append.1 hp with q | q
    · unfold ownL at q
      split at q
      · obtain rfl := List.mem_singleton.1 q
        exact ⟨[], by simp⟩
      · cases q
    · rw [Fo.list_at] at q
      obtain ⟨u, _, rfl⟩ := List.mem_map.1 q
      exact ⟨u.1, by simp⟩
  obtain ⟨s, e⟩ := h2
  have := hM (pw ++ p.1, p.2) (by rw [tlist_at]; exact List.mem_map.2 ⟨p, hp, rfl⟩)
  simp only [List.length_append, e] at this
  omega

/-- A forest's first tree, by its byte; its last one. -/
def Fo.fst : Fo → Option (UInt8 × Nn × Fo)
  | .nil => none
  | .cons b x k _ => some (b, x, k)
def Fo.lst : Fo → Option (UInt8 × Nn × Fo)
  | .nil => none
  | .cons b x k r => some (r.lst.getD (b, x, k))
theorem Fo.lst_cons (b : UInt8) (x : Nn) (k r : Fo) : (Fo.cons b x k r).lst = some (r.lst.getD (b, x, k)) := rfl
theorem Fo.fst_full {f : Fo} {b : UInt8} {x : Nn} {k : Fo} (h : f.full) (e : f.fst = some (b, x, k)) : tlist x k [] ≠ [] ∧ k.full := by
  cases f with
  | nil => cases e
  | cons b' x' k' r => cases e; exact ⟨h.1, h.2.1⟩
theorem Fo.lst_full : ∀ {f : Fo} {b : UInt8} {x : Nn} {k : Fo}, f.full → f.lst = some (b, x, k) → tlist x k [] ≠ [] ∧ k.full
  | .nil, _, _, _, _, e => by cases e
  | .cons b' x' k' r, b, x, k, h, e => by
    rw [Fo.lst_cons] at e
    rcases hr : r.lst with _ | ⟨b2, x2, k2⟩
    · rw [hr] at e; cases e; exact ⟨h.1, h.2.1⟩
    · rw [hr] at e; cases e; exact Fo.lst_full h.2.2 hr
theorem Fo.fst_list {f : Fo} {b : UInt8} {x : Nn} {k : Fo} (e : f.fst = some (b, x, k)) (pw : List UInt8) : ∃ r : List KV, f.list pw = tlist x k (pw ++ [b]) ++ r := by
  cases f with
  | nil => cases e
  | cons b' x' k' r => cases e; exact ⟨_, Fo.list_cons ..⟩
theorem Fo.lst_none {f : Fo} (e : f.lst = none) : f = .nil := by
  cases f with
  | nil => rfl
  | cons => cases e
theorem Fo.fst_none {f : Fo} (e : f.fst = none) : f = .nil := by
  cases f with
  | nil => rfl
  | cons => cases e
theorem Fo.lst_list : ∀ {f : Fo} {b : UInt8} {x : Nn} {k : Fo}, f.lst = some (b, x, k) → ∀ (pw : List UInt8), ∃ r : List KV, f.list pw = r ++ tlist x k (pw ++ [b])
  | .nil, _, _, _, e, _ => by cases e
  | .cons b' x' k' r, b, x, k, e, pw => by
    rw [Fo.lst_cons] at e
    rw [Fo.list_cons]
    rcases hr : r.lst with _ | ⟨b2, x2, k2⟩
    · rw [hr] at e; cases e
      rw [Fo.lst_none hr]
      exact ⟨[], by simp [Fo.list]⟩
    · rw [hr] at e; cases e
      obtain ⟨l, hl⟩ := Fo.lst_list hr pw
      exact ⟨tlist x' k' (pw ++ [b']) ++ l, by rw [hl, List.append_assoc]⟩
theorem head_app {α : Type} {L M : List α} (h : L ≠ []) : (L ++ M).head? = L.head? := by
  cases L with
  | nil => exact absurd rfl h
  | cons => rfl
theorem last_app {α : Type} {L M : List α} (h : M ≠ []) : (L ++ M).getLast? = M.getLast? := by
  rw [List.getLast?_append]
  cases hm : M.getLast? with
  | none => exact absurd (List.getLast?_eq_none_iff.1 hm) h
  | some x => rfl
/-- The first pair of a forest is its first tree's; the last one its last tree's. -/
theorem Fo.fst_head {f : Fo} (hf : f.full) {b : UInt8} {x : Nn} {k : Fo} (e : f.fst = some (b, x, k)) (pw : List UInt8) : (f.list pw).head? = (tlist x k (pw ++ [b])).head? ∧ f.list pw ≠ [] := by
  obtain ⟨r, h⟩ := Fo.fst_list e pw
  have hn := tlist_ne (Fo.fst_full hf e).1 (pw ++ [b])
  rw [h]
  exact ⟨head_app hn, by simp [hn]⟩
theorem Fo.lst_last {f : Fo} (hf : f.full) {b : UInt8} {x : Nn} {k : Fo} (e : f.lst = some (b, x, k)) (pw : List UInt8) : (f.list pw).getLast? = (tlist x k (pw ++ [b])).getLast? ∧ f.list pw ≠ [] := by
  obtain ⟨r, h⟩ := Fo.lst_list e pw
  have hn := tlist_ne (Fo.lst_full hf e).1 (pw ++ [b])
  rw [h]
  exact ⟨last_app hn, by simp [hn]⟩
theorem Fo.fst_mem {f : Fo} {b : UInt8} {x : Nn} {k : Fo} (e : f.fst = some (b, x, k)) (pw : List UInt8) : ∀ p ∈ tlist x k (pw ++ [b]), p ∈ f.list pw := fun p hp => by
  obtain ⟨r, h⟩ := Fo.fst_list e pw
  rw [h]
  exact List.mem_append_left _ hp
theorem Fo.lst_mem {f : Fo} {b : UInt8} {x : Nn} {k : Fo} (e : f.lst = some (b, x, k)) (pw : List UInt8) : ∀ p ∈ tlist x k (pw ++ [b]), p ∈ f.list pw := fun p hp => by
  obtain ⟨r, h⟩ := Fo.lst_list e pw
  rw [h]
  exact List.mem_append_right _ hp

/-- The kid behind a byte, and the one ahead of it, in memory. -/
theorem pos_cons (e : Ent) (es : List Ent) (c : Nat) : pos (e :: es) c = pos es c + (if e.1.toNat < c then 1 else 0) := by
  unfold pos
  rw [List.countP_cons]
  simp
theorem pos_none {es : List Ent} {c : Nat} (h : ∀ e ∈ es, c ≤ e.1.toNat) : pos es c = 0 := by
  unfold pos
  rw [List.countP_eq_zero]
  intro e he
  have := h e he
  simp
  omega
def KidAt (w : World) (S : Nat → Prop) (o : Option (UInt8 × Nn × Fo)) (e : Option Ent) : Prop :=
  match o with
  | none => e = none
  | some (b, x, k) => ∃ g, e = some (b, some ⟨g, 0, none⟩) ∧ Tre w S x k g
theorem Fo.Is.hi_at {w : World} {S : Nat → Prop} (c : UInt8) : ∀ {f : Fo} {es : List Ent}, f.Is w S es → Up es → KidAt w S (f.hi c).fst es[pos es (c.toNat + 1)]?
  | .nil, _, h, _ => by
    obtain rfl : _ = [] := h
    rfl
  | .cons b x k r, _, ⟨g, be, A, ek, er, e, h1, h2, h3, h4⟩, hu => by
    subst e
    obtain ⟨u1, u2⟩ := List.pairwise_cons.1 hu
    rw [Fo.hi, pos_cons]
    by_cases hb : b.toNat ≤ c.toNat
    · rw [if_pos hb, if_pos (show b.toNat < c.toNat + 1 by omega), List.getElem?_cons_succ]
      exact Fo.Is.hi_at c h4 u2
    · rw [if_neg hb, if_neg (show ¬ b.toNat < c.toNat + 1 by omega), pos_none (fun e he => by have := u1 e he; simp only at this; omega)]
      exact ⟨g, rfl, be, A, ek, h1, h2, h3⟩
theorem Fo.Is.fst_at {w : World} {S : Nat → Prop} : ∀ {f : Fo} {es : List Ent}, f.Is w S es → KidAt w S f.fst es[0]?
  | .nil, _, h => by
    obtain rfl : _ = [] := h
    rfl
  | .cons b x k r, _, ⟨g, be, A, ek, er, e, h1, h2, h3, h4⟩ => by
    subst e
    exact ⟨g, rfl, be, A, ek, h1, h2, h3⟩
theorem Fo.Is.next_at {w : World} {S : Nat → Prop} (c : UInt8) {f : Fo} {es : List Ent} (h : f.Is w S es) (hu : Up es) : KidAt w S (f.hi c).fst (nextE es ((c.toNat : Int) + 1)) := by
  have h1 := Fo.Is.hi_at c h hu
  unfold nextE
  by_cases hc : (255 : Int) < (c.toNat : Int) + 1
  · rw [if_pos hc]
    have : c.toNat + 1 = 256 := by have := c.toNat_lt; omega
    rw [this, pos_all, List.getElem?_eq_none (Nat.le_refl _)] at h1
    exact h1
  · rw [if_neg hc, show ((c.toNat : Int) + 1).toNat = c.toNat + 1 by omega]
    exact h1
/-- The last one of those that stand by a lesser byte. -/
theorem Fo.Is.lo_at {w : World} {S : Nat → Prop} (c : UInt8) : ∀ {f : Fo} {es : List Ent}, f.Is w S es → Up es → KidAt w S (f.lo c).lst (pv es c.toNat)
  | .nil, _, h, _ => by
    obtain rfl : _ = [] := h
    show pv [] _ = none
    unfold pv
    split <;> simp
  | .cons b x k r, _, ⟨g, be, A, ek, er, e, h1, h2, h3, h4⟩, hu => by
    subst e
    obtain ⟨u1, u2⟩ := List.pairwise_cons.1 hu
    have ih := Fo.Is.lo_at c h4 u2
    rw [Fo.lo]
    unfold pv at ih ⊢
    rw [pos_cons]
    by_cases hb : b.toNat < c.toNat
    · rw [if_pos hb, if_pos hb, if_neg (by omega), Fo.lst_cons, Nat.add_sub_cancel]
      by_cases hp : pos er c.toNat = 0
      · rw [if_pos hp] at ih
        have hl : (r.lo c).lst = none := by
          rcases hx : (r.lo c).lst with _ | ⟨b2, x2, k2⟩
          · rfl
          · rw [hx] at ih
            obtain ⟨g2, e2, _⟩ := ih
            cases e2
        rw [hl, hp]
        exact ⟨g, rfl, be, A, ek, h1, h2, h3⟩
      · rw [if_neg hp] at ih
        rcases hx : (r.lo c).lst with _ | ⟨b2, x2, k2⟩
        · rw [hx] at ih
          have hle := pos_le er c.toNat
          have ih : er[pos er c.toNat - 1]? = none := ih
          rw [List.getElem?_eq_none_iff] at ih
          omega
        · rw [hx] at ih
          obtain ⟨m, hm⟩ : ∃ m, pos er c.toNat = m + 1 := ⟨pos er c.toNat - 1, by omega⟩
          rw [hm] at ih ⊢
          rw [List.getElem?_cons_succ]
          exact ih
    · rw [if_neg hb, if_neg hb, pos_none (fun e he => by have := u1 e he; simp only at this; omega)]
      rfl
theorem Fo.Is.prev_at {w : World} {S : Nat → Prop} (c : UInt8) {f : Fo} {es : List Ent} (h : f.Is w S es) (hu : Up es) : KidAt w S (f.lo c).lst (prevE es ((c.toNat : Int) - 1)) := by
  have h1 := Fo.Is.lo_at c h hu
  rw [prev_pv hu]
  by_cases hc : (c.toNat : Int) - 1 < 0
  · rw [if_pos hc]
    rw [show c.toNat = 0 by omega, pv_zero] at h1
    exact h1
  · rw [if_neg hc, show (min ((c.toNat : Int) - 1) 255).toNat + 1 = c.toNat by have := c.toNat_lt; omega]
    exact h1
theorem Fo.Is.last_at {w : World} {S : Nat → Prop} : ∀ {f : Fo} {es : List Ent}, f.Is w S es → Up es → KidAt w S f.lst (prevE es 255) := by
  intro f es h hu
  rw [prev_pv hu, if_neg (by omega)]
  show KidAt w S f.lst (pv es 256)
  unfold pv
  rw [pos_all]
  induction f generalizing es with
  | nil =>
    obtain rfl : es = [] := h
    rfl
  | cons b x k r _ ih =>
    obtain ⟨g, be, A, ek, er, e, h1, h2, h3, h4⟩ := h
    subst e
    have ih := ih h4 (List.pairwise_cons.1 hu).2
    rw [Fo.lst_cons, if_neg (by simp), List.length_cons, Nat.add_sub_cancel]
    rcases hx : r.lst with _ | ⟨b2, x2, k2⟩
    · rw [hx] at ih
      have hr := Fo.lst_none hx
      subst hr
      obtain rfl : er = [] := h4
      exact ⟨g, rfl, be, A, ek, h1, h2, h3⟩
    · rw [hx] at ih
      obtain ⟨m, hm⟩ : ∃ m, er.length = m + 1 := by
        rcases er with _ | ⟨e0, er⟩
        · obtain ⟨_, q, _⟩ := ih; cases q
        · exact ⟨er.length, rfl⟩
      rw [if_neg (by omega)] at ih
      rw [hm] at ih ⊢
      rw [List.getElem?_cons_succ]
      exact ih

/-- The key behind a key. -/
theorem lt_next : ∀ (l key : List UInt8), cmpL l (key ++ [0]) < 0 ↔ ¬ cmpL key l < 0
  | [], [] => by simp [cmpL]
  | [], u :: key => ⟨fun _ h => lt_nil h, fun _ => by simp [cmpL]⟩
  | a :: l, [] => by
    rw [List.nil_append, lt_cons]
    have h0 : (0 : UInt8).toNat = 0 := rfl
    rw [h0]
    constructor
    · rintro (h | ⟨_, h⟩)
      · omega
      · exact (lt_nil h).elim
    · intro h
      exact absurd (by simp [cmpL]) h
  | a :: l, u :: key => by
    rw [List.cons_append, lt_cons, lt_cons, lt_next l key]
    by_cases e : a = u
    · subst e
      simp
    · have : a.toNat ≠ u.toNat := fun q => e (UInt8.toNat_inj.1 q)
      have e' : ¬ u = a := fun q => e q.symm
      simp only [e, e', false_and, or_false]
      omega
theorem lt_asym {l m : List UInt8} (h : cmpL l m < 0) : ¬ cmpL m l < 0 := fun q => lt_irr l (lt_trans h q)
/-- How many of them stand ahead of a key; how many do not stand behind it. -/
def aheadN (L : List KV) (key : List UInt8) : Nat := (ltL L key).length
theorem lt_pre {L : List KV} (h : Rise L) (key : List UInt8) : ltL L key = L.take (aheadN L key) ∧ geL L key = L.drop (aheadN L key) := by
  unfold aheadN
  induction L with
  | nil => exact ⟨rfl, rfl⟩
  | cons p L ih =>
    obtain ⟨h1, h2⟩ := List.pairwise_cons.1 h
    obtain ⟨i1, i2⟩ := ih h2
    by_cases hp : cmpL p.1 key < 0
    · have e1 : ltL (p :: L) key = p :: ltL L key := by unfold ltL; rw [List.filter_cons, if_pos (decide_eq_true hp)]
      have e2 : geL (p :: L) key = geL L key := by unfold geL; rw [List.filter_cons, if_neg (by simp [hp])]
      rw [e1, e2, List.length_cons, List.take_succ_cons, List.drop_succ_cons, ← i1, ← i2]
      exact ⟨rfl, rfl⟩
    · obtain ⟨g1, g2⟩ := ge_all (L := p :: L) (key := key) (fun q hq => by
        rcases List.mem_cons.1 hq with rfl | hq
        · exact hp
        · exact fun z => hp (lt_trans (h1 q hq) z))
      rw [g1, g2]
      exact ⟨rfl, rfl⟩
theorem ahead_le (L : List KV) (key : List UInt8) : aheadN L key ≤ L.length := List.length_filter_le _ _
theorem ge_head {L : List KV} (h : Rise L) (key : List UInt8) : (geL L key).head? = L[aheadN L key]? := by
  rw [(lt_pre h key).2, List.head?_drop]
theorem lt_last {L : List KV} (h : Rise L) (key : List UInt8) : (ltL L key).getLast? = if aheadN L key = 0 then none else L[aheadN L key - 1]? := by
  have hle := ahead_le L key
  rw [(lt_pre h key).1]
  split
  · rename_i h0; rw [h0]; rfl
  · rename_i h0
    rw [List.getLast?_eq_getElem?, List.length_take, Nat.min_eq_left hle, List.getElem?_take, if_pos (by omega)]
end Go.Proofs.YtidiinededalmaaGreat
