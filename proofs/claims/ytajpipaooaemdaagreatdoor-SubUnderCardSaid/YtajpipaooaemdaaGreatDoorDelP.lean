/-
  A tree without a key: what it is, that it is well made, that it has the other pairs and no more; so it is the canonical one of them, or nothing is left. What is left of an inner node. No program is run.
  What is left of a canonical tree without a key is the canonical one of the other pairs, whoever owns the nodes. No program is run.
-/
import Derived.Test.YtajpipaooaemdaaGreatDoorPutG
namespace Go.Proofs.YtajpipaooaemdaaGreatDoor
open Go.RowKit

/-- What is left of an inner node: of no occupant nothing, of a value alone a leaf, of a kid alone that kid in its place, of more itself. -/
def tleft (o : Int) (x : Nn) (k : Fo) : Option (Nn × Fo) :=
  match k with
  | .nil => if x.has then some (⟨true, o, x.part, x.val, true⟩, .nil) else none
  | .cons b y ky .nil => if x.has then some (⟨false, o, x.part, x.val, true⟩, .cons b y ky .nil) else some (⟨y.leaf, o, x.part ++ b :: y.part, y.val, y.has⟩, ky)
  | .cons b y ky (.cons b' y' ky' r) => some (⟨false, o, x.part, x.val, x.has⟩, .cons b y ky (.cons b' y' ky' r))
/-- A node without bytes below it; K: what is left of its kids. -/
def tdelW (o : Int) (K : UInt8 → List UInt8 → Fo) (x : Nn) (k : Fo) (l : List UInt8) : Option (Nn × Fo) :=
  match l.drop x.part.length with
  | [] => if x.leaf then none else tleft o ⟨false, o, x.part, 0, false⟩ k
  | c :: lr => tleft o ⟨false, o, x.part, x.val, x.has⟩ (K c lr)
/-- A kid in a forest's place, or none there any more. -/
def Fo.putO (b : UInt8) (r : Fo) : Option (Nn × Fo) → Fo
  | none => r
  | some T => .cons b T.1 T.2 r
def Fo.dels (o : Int) : Fo → UInt8 → List UInt8 → Fo
  | .nil, _, _ => .nil
  | .cons b x k r, c, l => if c = b then Fo.putO b r (tdelW o (Fo.dels o k) x k l) else .cons b x k (Fo.dels o r c l)
def tdel (o : Int) (x : Nn) (k : Fo) (l : List UInt8) : Option (Nn × Fo) := tdelW o (Fo.dels o k) x k l
def odel (o : Int) : Option (Nn × Fo) → List UInt8 → Option (Nn × Fo)
  | none, _ => none
  | some T, l => tdel o T.1 T.2 l

/-- What holds of what is left. -/
structure LeftT (o : Int) (T : Option (Nn × Fo)) (P : KV → Prop) : Prop where
  ok : ∀ T', T = some T' → wfN o T'.1 T'.2 ∧ T'.2.wf o ∧ tgood T'.1 T'.2
  mem : ∀ p, p ∈ olist T ↔ P p
structure DelF (o : Int) (f : Fo) (c : UInt8) (l : List UInt8) (g : Fo) : Prop where
  wf : g.wf o
  good : g.good
  above : ∀ b : UInt8, f.above b → g.above b
  mem : ∀ p, p ∈ g.list [] ↔ p ∈ f.list [] ∧ p.1 ≠ c :: l
section
variable {o : Int} {x : Nn} {k : Fo} {l : List UInt8}
theorem LeftT.of {T : Option (Nn × Fo)} {P Q : KV → Prop} (h : LeftT o T P) (hq : ∀ p, P p ↔ Q p) : LeftT o T Q := ⟨h.ok, fun p => (h.mem p).trans (hq p)⟩
theorem tleft_ok (hv : x.has = false → x.val = 0) (hk : k.wf o) (hg : k.good) : LeftT o (tleft o x k) (fun p => p ∈ tlist ⟨false, o, x.part, x.val, x.has⟩ k []) := by
  have hn : ∀ p : KV, ¬ p ∈ Fo.nil.list [] := fun p h => by cases h
  cases k with
  | nil =>
    unfold tleft
    cases hh : x.has with
    | true =>
      rw [if_pos rfl]
      refine ⟨fun T' e => ?_, fun p => ?_⟩
      · injection e with e
        subst e
        exact ⟨⟨fun _ => ⟨rfl, rfl⟩, fun h => (by cases h), rfl⟩, trivial, ⟨by unfold okN; simp, trivial⟩⟩
      · show p ∈ tlist _ _ [] ↔ _
        rw [mem_tlist, mem_tlist]
    | false =>
      rw [if_neg (by simp)]
      refine ⟨fun T' e => (by cases e), fun p => ⟨fun h => (by cases h), fun h => ?_⟩⟩
      rcases mem_tlist.1 h with ⟨q, _⟩ | ⟨q, hq, _⟩
      · cases q
      · exact (hn q hq).elim
  | cons b y ky r =>
    obtain ⟨h1, h2, h3, h4⟩ := hk
    obtain ⟨g1, g2, g3⟩ := hg
    cases r with
    | nil =>
      unfold tleft
      cases hh : x.has with
      | true =>
        rw [if_pos rfl]
        refine ⟨fun T' e => ?_, fun p => Iff.rfl⟩
        injection e with e
        subst e
        exact ⟨⟨fun h => (by cases h), fun h => (by cases h), rfl⟩, ⟨h1, h2, h3, h4⟩, ⟨by unfold okN; simp [Fo.len], g1, g2, g3⟩⟩
      | false =>
        rw [if_neg (by simp)]
        refine ⟨fun T' e => ?_, fun p => ?_⟩
        · injection e with e
          subst e
          exact ⟨⟨h2.1, h2.2.1, rfl⟩, h3, ⟨g1, g2⟩⟩
        · show p ∈ tlist _ _ [] ↔ _
          rw [mem_tlist, mem_tlist]
          dsimp only
          constructor
          · rintro (⟨e, rfl⟩ | ⟨q, hq, rfl⟩)
            · exact .inr ⟨(b :: y.part, y.val), mem_fo.2 (.inl ⟨(y.part, y.val), mem_tlist.2 (.inl ⟨e, rfl⟩), rfl⟩), rfl⟩
            · exact .inr ⟨(b :: (y.part ++ q.1), q.2), mem_fo.2 (.inl ⟨(y.part ++ q.1, q.2), mem_tlist.2 (.inr ⟨q, hq, rfl⟩), rfl⟩), by simp⟩
          · rintro (⟨e, _⟩ | ⟨q, hq, rfl⟩)
            · cases e
            · rcases mem_fo.1 hq with ⟨q', hq', rfl⟩ | h
              · rcases mem_tlist.1 hq' with ⟨e, rfl⟩ | ⟨z, hz, rfl⟩
                · exact .inl ⟨e, rfl⟩
                · exact .inr ⟨z, hz, by simp⟩
              · exact (hn q h).elim
    | cons b' y' ky' r' =>
      unfold tleft
      refine ⟨fun T' e => ?_, fun p => Iff.rfl⟩
      injection e with e
      subst e
      exact ⟨⟨fun h => (by cases h), hv, rfl⟩, ⟨h1, h2, h3, h4⟩, ⟨by unfold okN; simp only [Fo.len, Bool.false_eq_true, if_false]; omega, g1, g2, g3⟩⟩
/-- The step at a node. -/
theorem tdelW_ok (hx : wfN o x k) (hk : k.wf o) (hg : tgood x k) {K : UInt8 → List UInt8 → Fo} (hK : ∀ c l, (∃ v, (c :: l, v) ∈ k.list []) → DelF o k c l (K c l)) (hm : ∃ v, (l, v) ∈ tlist x k []) : LeftT o (tdelW o K x k l) (fun p => p ∈ tlist x k [] ∧ p.1 ≠ l) := by
  obtain ⟨w1, w2, w3⟩ := hx
  obtain ⟨g1, g2⟩ := hg
  obtain ⟨v, hm⟩ := hm
  have hne : ∀ q ∈ k.list [], x.part ++ q.1 ≠ x.part := fun q hq e => by
    obtain ⟨c, t, e2⟩ := Fo.heads_nil hk q hq
    rw [e2] at e
    have := congrArg List.length e
    simp at this
  unfold tdelW
  rcases hd : l.drop x.part.length with _ | ⟨c, lr⟩
  · -- the node's own bytes
    have hl : l = x.part := by
      rcases mem_tlist.1 hm with ⟨_, e⟩ | ⟨q, hq, e⟩
      · injection e
      · injection e with e _
        exfalso
        obtain ⟨c, t, e2⟩ := Fo.heads_nil hk q hq
        rw [e, e2, List.drop_left] at hd
        cases hd
    dsimp only
    cases hlf : x.leaf with
    | true =>
      obtain ⟨rfl, hh⟩ := w1 hlf
      rw [if_pos rfl]
      refine ⟨fun T' e => (by cases e), fun p => ⟨fun h => (by cases h), ?_⟩⟩
      rintro ⟨h, h2⟩
      rcases mem_tlist.1 h with ⟨_, rfl⟩ | ⟨q, hq, _⟩
      · exact absurd hl.symm h2
      · cases hq
    | false =>
      rw [if_neg (by simp)]
      refine (tleft_ok (x := ⟨false, o, x.part, 0, false⟩) (fun _ => rfl) hk g2).of fun p => ?_
      dsimp only
      rw [mem_tlist, mem_tlist]
      dsimp only
      rw [hl]
      constructor
      · rintro (⟨e, _⟩ | ⟨q, hq, rfl⟩)
        · cases e
        · exact ⟨.inr ⟨q, hq, rfl⟩, hne q hq⟩
      · rintro ⟨⟨_, rfl⟩ | h, h2⟩
        · exact absurd rfl h2
        · exact .inr h
  · -- below it
    have hl : l = x.part ++ c :: lr ∧ ∃ v, (c :: lr, v) ∈ k.list [] := by
      rcases mem_tlist.1 hm with ⟨_, e⟩ | ⟨q, hq, e⟩
      · injection e with e _
        rw [e, List.drop_length] at hd
        cases hd
      · injection e with e _
        rw [e, List.drop_left] at hd
        refine ⟨by rw [e, hd], q.2, ?_⟩
        rw [← hd]
        exact hq
    obtain ⟨hl, hmk⟩ := hl
    have hF := hK c lr hmk
    refine (tleft_ok (x := ⟨false, o, x.part, x.val, x.has⟩) w2 hF.wf hF.good).of fun p => ?_
    dsimp only
    rw [mem_tlist, mem_tlist]
    dsimp only
    have hpn : x.part ≠ l := fun e => by
      have := congrArg List.length (e.trans hl)
      simp at this
    constructor
    · rintro (⟨h1, rfl⟩ | ⟨q, hq, rfl⟩)
      · exact ⟨.inl ⟨h1, rfl⟩, hpn⟩
      · obtain ⟨h1, h2⟩ := (hF.mem q).1 hq
        exact ⟨.inr ⟨q, h1, rfl⟩, fun e => h2 (by rw [hl] at e; exact List.append_cancel_left e)⟩
    · rintro ⟨⟨h1, rfl⟩ | ⟨q, hq, rfl⟩, h2⟩
      · exact .inl ⟨h1, rfl⟩
      · exact .inr ⟨q, (hF.mem q).2 ⟨hq, fun e => h2 (by rw [hl, e])⟩, rfl⟩
theorem Fo.dels_ok : ∀ {f : Fo}, f.wf o → f.good → ∀ c l, (∃ v, (c :: l, v) ∈ f.list []) → DelF o f c l (f.dels o c l)
  | .nil, _, _, _, _, ⟨_, h⟩ => by cases h
  | .cons b x k r, ⟨h1, h2, h3, h4⟩, ⟨g1, g2, g3⟩, c, l, ⟨v, hm⟩ => by
    have hr : ∀ p ∈ r.list [], ∃ c t, p.1 = c :: t ∧ b.toNat < c.toNat := Fo.heads h4 h1
    have hrn : ∀ p ∈ r.list [], ∀ t, p.1 ≠ b :: t := fun p hp t e => by
      obtain ⟨c', t', e2, hlt⟩ := hr p hp
      rw [e2] at e
      injection e with e _
      subst e
      omega
    rw [Fo.dels]
    by_cases hc : c = b
    · subst hc
      rw [if_pos rfl]
      have hm2 : (l, v) ∈ tlist x k [] := by
        rcases mem_fo.1 hm with ⟨q, hq, e⟩ | h
        · injection e with e1 e2
          injection e1 with _ e1
          rw [e1, e2]
          exact hq
        · exact absurd rfl (hrn _ h l)
      have hT := tdelW_ok h2 h3 ⟨g1, g2⟩ (fun c l hml => Fo.dels_ok h3 g2 c l hml) ⟨v, hm2⟩
      generalize tdelW o (k.dels o) x k l = T at hT
      cases T with
      | none =>
        refine ⟨h4, g3, fun b' hb => ?_, fun p => ?_⟩
        · have hb2 : b'.toNat < c.toNat := hb
          show r.above b'
          cases r with
          | nil => trivial
          | cons b2 _ _ _ =>
            have h12 : c.toNat < b2.toNat := h1
            show b'.toNat < b2.toNat
            omega
        · show p ∈ r.list [] ↔ _
          rw [mem_fo]
          constructor
          · exact fun h => ⟨.inr h, hrn p h l⟩
          · rintro ⟨⟨q, hq, rfl⟩ | h, h2⟩
            · have := (hT.mem q).2 ⟨hq, fun e => h2 (by rw [e])⟩
              cases this
            · exact h
      | some T =>
        obtain ⟨t1, t2, t3⟩ := hT.ok T rfl
        refine ⟨⟨h1, t1, t2, h4⟩, ⟨t3.1, t3.2, g3⟩, fun b' hb => hb, fun p => ?_⟩
        show p ∈ (Fo.cons c T.1 T.2 r).list [] ↔ _
        rw [mem_fo, mem_fo]
        constructor
        · rintro (⟨q, hq, rfl⟩ | h)
          · obtain ⟨q1, q2⟩ := (hT.mem q).1 hq
            exact ⟨.inl ⟨q, q1, rfl⟩, fun e => q2 (by injection e)⟩
          · exact ⟨.inr h, hrn p h l⟩
        · rintro ⟨⟨q, hq, rfl⟩ | h, h2⟩
          · exact .inl ⟨q, (hT.mem q).2 ⟨hq, fun e => h2 (by rw [e])⟩, rfl⟩
          · exact .inr h
    · rw [if_neg hc]
      have hm2 : (c :: l, v) ∈ r.list [] := by
        rcases mem_fo.1 hm with ⟨q, hq, e⟩ | h
        · injection e with e1 e2
          injection e1 with e1 _
          exact absurd e1 hc
        · exact h
      have ih := Fo.dels_ok h4 g3 c l ⟨v, hm2⟩
      refine ⟨⟨ih.above b h1, h2, h3, ih.wf⟩, ⟨g1, g2, ih.good⟩, fun b' h => h, fun p => ?_⟩
      rw [mem_fo, mem_fo, ih.mem p]
      constructor
      · rintro (⟨q, hq, rfl⟩ | ⟨h, h'⟩)
        · exact ⟨.inl ⟨q, hq, rfl⟩, fun e => by injection e with e _; exact hc e.symm⟩
        · exact ⟨.inr h, h'⟩
      · rintro ⟨⟨q, hq, rfl⟩ | h, h'⟩
        · exact .inl ⟨q, hq, rfl⟩
        · exact .inr ⟨h, h'⟩
theorem tdel_ok (hx : wfN o x k) (hk : k.wf o) (hg : tgood x k) (l : List UInt8) (hm : ∃ v, (l, v) ∈ tlist x k []) : LeftT o (tdel o x k l) (fun p => p ∈ tlist x k [] ∧ p.1 ≠ l) := tdelW_ok hx hk hg (fun c l h => Fo.dels_ok hk hg.2 c l h) hm
end
end Go.Proofs.YtajpipaooaemdaaGreatDoor

namespace Go.Proofs.YtajpipaooaemdaaGreatDoor
open Go.RowKit

theorem by_left (o : Int) (x : Nn) (k : Fo) : (tleft o x k).map (byT o) = tleft o (x.by o) (k.by o) := by
  cases k with
  | nil =>
    unfold tleft
    show Option.map _ (if x.has = true then _ else _) = if x.has = true then _ else _
    split <;> rfl
  | cons b y ky r =>
    cases r with
    | nil =>
      unfold tleft
      show Option.map _ (if x.has = true then _ else _) = if x.has = true then _ else _
      split <;> rfl
    | cons b' y' ky' r' => rfl
theorem by_delW (o : Int) {K K' : UInt8 → List UInt8 → Fo} (x : Nn) (k : Fo) (hK : ∀ c l, (K c l).by o = K' c l) (l : List UInt8) : (tdelW o K x k l).map (byT o) = tdelW o K' (x.by o) (k.by o) l := by
  unfold tdelW
  show Option.map _ (match l.drop x.part.length with
    | [] => if x.leaf then none else tleft o ⟨false, o, x.part, 0, false⟩ k
    | c :: lr => tleft o ⟨false, o, x.part, x.val, x.has⟩ (K c lr)) = match l.drop x.part.length with
    | [] => if x.leaf then none else tleft o ⟨false, o, x.part, 0, false⟩ (k.by o)
    | c :: lr => tleft o ⟨false, o, x.part, x.val, x.has⟩ (K' c lr)
  rcases l.drop x.part.length with _ | ⟨c, lr⟩
  · dsimp only
    split
    · rfl
    · exact by_left o ⟨false, o, x.part, 0, false⟩ k
  · dsimp only
    rw [by_left, hK]
    rfl
theorem Fo.by_putO (o : Int) (b : UInt8) (r : Fo) (T : Option (Nn × Fo)) : (Fo.putO b r T).by o = Fo.putO b (r.by o) (T.map (byT o)) := by
  cases T <;> rfl
theorem Fo.by_dels (o : Int) : ∀ (f : Fo) (c : UInt8) (l : List UInt8), (f.dels o c l).by o = (f.by o).dels o c l
  | .nil, _, _ => rfl
  | .cons b x k r, c, l => by
    have h := by_delW o x k (fun c l => Fo.by_dels o k c l) l
    rw [Fo.dels, Fo.by, Fo.dels]
    split
    · rw [Fo.by_putO, h]
    · rw [Fo.by, Fo.by_dels o r]
theorem by_del (o : Int) (x : Nn) (k : Fo) (l : List UInt8) : (tdel o x k l).map (byT o) = tdel o (x.by o) (k.by o) l := by_delW o x k (fun c l => Fo.by_dels o k c l) l
/-- Pairs without a key. -/
def delS (l : List UInt8) (ps : List PV) : List PV := ps.filter fun p => decide (p.key ≠ l)
theorem delS_rise {l : List UInt8} {ps : List PV} (h : Rsn ps) : Rsn (delS l ps) := h.sublist (List.filter_sublist ..)
theorem delS_mem {l : List UInt8} {ps : List PV} (p : KV) : p ∈ (delS l ps).map kvP ↔ p ∈ ps.map kvP ∧ p.1 ≠ l := by
  simp only [List.mem_map, delS, List.mem_filter, decide_eq_true_eq]
  constructor
  · rintro ⟨q, ⟨h1, h2⟩, rfl⟩
    exact ⟨⟨q, h1, rfl⟩, h2⟩
  · rintro ⟨⟨q, h1, rfl⟩, h2⟩
    exact ⟨q, ⟨h1, h2⟩, rfl⟩
theorem delS_none {l : List UInt8} {ps : List PV} (h : ∀ p ∈ ps.map kvP, p.1 ≠ l) : delS l ps = ps := by
  unfold delS
  rw [List.filter_eq_self]
  intro p hp
  exact decide_eq_true (h (kvP p) (List.mem_map.2 ⟨p, hp, rfl⟩))
theorem Can.del {ps : List PV} {T : Nn × Fo} (h : Can ps T) (hr : Rsn ps) (o : Int) (l : List UInt8) (hm : ∃ v, (l, v) ∈ ps.map kvP) : OCan (delS l ps) (tdel o T.1 T.2 l) := by
  have hx : wfN o (T.1.by o) (T.2.by o) := by
    have := wfN_by (o' := o) h.top
    rwa [Nn.by_by, Fo.by_by] at this
  have hk : (T.2.by o).wf o := by
    have := wf_by (o' := o) h.wf
    rwa [Fo.by_by] at this
  have hg := (by_tgood o T.1 T.2).2 h.good
  have hl : tlist (T.1.by o) (T.2.by o) [] = ps.map kvP := by rw [by_tlist]; exact h.list
  have h1 := tdel_ok hx hk hg l (by rw [hl]; exact hm)
  rw [hl, ← by_del] at h1
  generalize tdel o T.1 T.2 l = U at h1
  have hmem : ∀ p, p ∈ olist (U.map (byT o)) ↔ p ∈ (delS l ps).map kvP := fun p => (h1.mem p).trans (delS_mem p).symm
  cases U with
  | none =>
    have : (delS l ps).map kvP = [] := List.eq_nil_iff_forall_not_mem.2 fun p hp => by
      have := (hmem p).2 hp
      cases this
    show delS l ps = []
    simpa using this
  | some U =>
    obtain ⟨t1, t2, t3⟩ := h1.ok (byT o U) rfl
    have hr2 : Rise (tlist U.1 U.2 []) := by
      have := tree_rise t2 (x := U.1.by o) (Fo.rise t2)
      rwa [by_tlist] at this
    refine ⟨?_, ?_, (by_tgood o _ _).1 t3, ?_⟩
    · have := wfN_by (o' := 1) t1
      rwa [Nn.by_by, Fo.by_by] at this
    · have := wf_by (o' := 1) t2
      rwa [Fo.by_by] at this
    · refine riseK_same hr2 (by unfold Rise; rw [List.pairwise_map]; exact delS_rise hr) fun p => ?_
      rw [← hmem p]
      show p ∈ tlist U.1 U.2 [] ↔ p ∈ tlist (U.1.by o) (U.2.by o) []
      rw [by_tlist]
/-- A tree without a key: what it is, if it has not that key. -/
def odels (o : Int) (t : Option (Nn × Fo)) (l : List UInt8) : Option (Nn × Fo) := if (firstK (olist t) l).2 = true then odel o t l else t
theorem OCan.dels {ps : List PV} {t : Option (Nn × Fo)} (h : OCan ps t) (hr : Rsn ps) (o : Int) (l : List UInt8) : OCan (delS l ps) (odels o t l) := by
  have hL := h.list
  obtain ⟨g, hg⟩ : ∃ g, firstK (olist t) l = g := ⟨_, rfl⟩
  obtain ⟨g1, g2⟩ := g
  unfold odels
  rw [hg]
  have hri : Rise (olist t) := by rw [hL]; unfold Rise; rw [List.pairwise_map]; exact hr
  cases g2 with
  | true =>
    rw [if_pos rfl]
    have hm := (firstK_yes hri).1 hg
    cases t with
    | none => cases hm
    | some T => exact Can.del h hr o l ⟨g1, by rw [← hL]; exact hm⟩
  | false =>
    rw [if_neg (by simp), delS_none (by rw [← hL]; exact firstK_no hg)]
    exact h
/-- A forest without the kid by a byte. -/
def Fo.drop : Fo → UInt8 → Fo
  | .nil, _ => .nil
  | .cons b x k r, c => if b = c then r else .cons b x k (r.drop c)
/-- What is left of the kid, in its place. -/
def Fo.setO (f : Fo) (c : UInt8) : Option (Nn × Fo) → Fo
  | none => f.drop c
  | some T => f.set c T.1 T.2
section
variable {o : Int} {x : Nn} {k : Fo} {l : List UInt8}
end
end Go.Proofs.YtajpipaooaemdaaGreatDoor
