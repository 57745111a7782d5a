import Derived.Test.YtcbgieoiefbeiaaGreatDoorPutG
namespace Go.Proofs.YtcbgieoiefbeiaaGreatDoor
open Go.RowKit
def tleft (o : Int) (x : Nn) (k : Fo) : Option (Nn × Fo) :=
 match k with
 | .nil => if x.has then some (⟨true, o, x.part, x.val, true⟩, .nil) else none
 | .cons b y ky .nil => if x.has then some (⟨false, o, x.part, x.val, true⟩, .cons b y ky .nil) else some (⟨y.leaf, o, x.part ++ b :: y.part, y.val, y.has⟩, ky)
 | .cons b y ky (.cons b' y' ky' r) => some (⟨false, o, x.part, x.val, x.has⟩, .cons b y ky (.cons b' y' ky' r))
def tdelW (o : Int) (K : UInt8 -> List UInt8 -> Fo) (x : Nn) (k : Fo) (l : List UInt8) : Option (Nn × Fo) :=
 match l.drop x.part.length with
 | [] => if x.leaf then none else tleft o ⟨false, o, x.part, 0, false⟩ k
 | c :: lr => tleft o ⟨false, o, x.part, x.val, x.has⟩ (K c lr)
def Fo.putO (b : UInt8) (r : Fo) : Option (Nn × Fo) -> Fo
 | none => r
 | some T => .cons b T.1 T.2 r
def Fo.dels (o : Int) : Fo -> UInt8 -> List UInt8 -> Fo
 | .nil, _, _ => .nil
 | .cons b x k r, c, l => if c = b then Fo.putO b r (tdelW o (Fo.dels o k) x k l) else .cons b x k (Fo.dels o r c l)
def tdel (o : Int) (x : Nn) (k : Fo) (l : List UInt8) : Option (Nn × Fo) := tdelW o (Fo.dels o k) x k l
def odel (o : Int) : Option (Nn × Fo) -> List UInt8 -> Option (Nn × Fo)
 | none, _ => none
 | some T, l => tdel o T.1 T.2 l
structure LeftT (o : Int) (T : Option (Nn × Fo)) (P : KV -> Prop) : Prop where
 ok : ∀ T', T = some T' -> wfN o T'.1 T'.2 /\ T'.2.wf o /\ tgood T'.1 T'.2
 mem : ∀ p, p ∈ olist T ↔ P p
structure DelF (o : Int) (f : Fo) (c : UInt8) (l : List UInt8) (g : Fo) : Prop where
 wf : g.wf o
 good : g.good
 above : ∀ b : UInt8, f.above b -> g.above b
 mem : ∀ p, p ∈ g.list [] ↔ p ∈ f.list [] /\ p.1 ≠ c :: l
section
variable {o : Int} {x : Nn} {k : Fo} {l : List UInt8}
theorem LeftT.of {T : Option (Nn × Fo)} {P Q : KV -> Prop} (h : LeftT o T P) (hq : ∀ p, P p ↔ Q p) : LeftT o T Q := ⟨h.ok, fun p => (h.mem p).trans (hq p)⟩
theorem tleft_ok (hv : x.has = false -> x.val = 0) (hk : k.wf o) (hg : k.good) : LeftT o (tleft o x k) (fun p => p ∈ tlist ⟨false, o, x.part, x.val, x.has⟩ k []) := by
 have hn : ∀ p : KV, ¬ p ∈ Fo.nil.list [] := fun p h => by cases h
 cases k with
 | nil =>
  unfold tleft
  cases hh : x.has with
  | true =>
   rw [if_pos rfl]
   refine ⟨fun T' e => ?_, fun p => ?_⟩
   ·injection e with e
    subst e
    exact ⟨⟨fun _ => ⟨rfl, rfl⟩, fun h => (by cases h), rfl⟩, trivial, ⟨by unfold okN; simp, trivial⟩⟩
   ·show p ∈ tlist _ _ [] ↔ _
    rw [mem_tlist, mem_tlist]
  | false =>
   rw [if_neg (by simp)]
   refine ⟨fun T' e => (by cases e), fun p => ⟨fun h => (by cases h), fun h => ?_⟩⟩
   rcases mem_tlist.1 h with ⟨q, _⟩ | ⟨q, hq, _⟩
   ·cases q
   ·exact (hn q hq).elim
 | cons b y ky r =>
  obtain ⟨h1, h2, h3, h4⟩ := hk
  obtain ⟨g1, g2, g3⟩ := hg
  cases r with
  | nil =>
   unfold tleft
   cases hh : x.has with
   | true =>
    rw [if_pos rfl]
    refine ⟨fun T' e => ?_, fun p => Iff.rfl⟩
    injection e with e
    subst e
    exact ⟨⟨fun h => (by cases h), fun h => (by cases h), rfl⟩, ⟨h1, h2, h3, h4⟩, ⟨by unfold okN; simp [Fo.len], g1, g2, g3⟩⟩
   | false =>
    rw [if_neg (by simp)]
    refine ⟨fun T' e => ?_, fun p => ?_⟩
    ·injection e with e
     subst e
     exact ⟨⟨h2.1, h2.2.1, rfl⟩, h3, ⟨g1, g2⟩⟩
    ·show p ∈ tlist _ _ [] ↔ _
     rw [mem_tlist, mem_tlist]
     dsimp only
     constructor
     ·rintro (⟨e, rfl⟩ | ⟨q, hq, rfl⟩)
      ·exact .inr ⟨(b :: y.part, y.val), mem_fo.2 (.inl ⟨(y.part, y.val), mem_tlist.2 (.inl ⟨e, rfl⟩), rfl⟩), rfl⟩
      ·exact .inr ⟨(b :: (y.part ++ q.1), q.2), mem_fo.2 (.inl ⟨(y.part ++ q.1, q.2), mem_tlist.2 (.inr ⟨q, hq, rfl⟩), rfl⟩), by simp⟩
     ·rintro (⟨e, _⟩ | ⟨q, hq, rfl⟩)
      ·cases e
      ·rcases mem_fo.1 hq with ⟨q', hq', rfl⟩ | h
       ·rcases mem_tlist.1 hq' with ⟨e, rfl⟩ | ⟨z, hz, rfl⟩
        ·exact .inl ⟨e, rfl⟩
        ·exact .inr ⟨z, hz, by simp⟩
       ·exact (hn q h).elim
  | cons b' y' ky' r' =>
   unfold tleft
   refine ⟨fun T' e => ?_, fun p => Iff.rfl⟩
   injection e with e
   subst e
   exact ⟨⟨fun h => (by cases h), hv, rfl⟩, ⟨h1, h2, h3, h4⟩, ⟨by unfold okN; simp only [Fo.len, Bool.false_eq_true, if_false]; omega, g1, g2, g3⟩⟩
theorem tdelW_ok (hx : wfN o x k) (hk : k.wf o) (hg : tgood x k) {K : UInt8 -> List UInt8 -> Fo} (hK : ∀ c l, (∃ v, (c :: l, v) ∈ k.list []) -> DelF o k c l (K c l)) (hm : ∃ v, (l, v) ∈ tlist x k []) : LeftT o (tdelW o K x k l) (fun p => p ∈ tlist x k [] /\ p.1 ≠ l) := by
 obtain ⟨w1, w2, w3⟩ := hx
 obtain ⟨g1, g2⟩ := hg
 obtain ⟨v, hm⟩ := hm
 have hne : ∀ q ∈ k.list [], x.part ++ q.1 ≠ x.part := fun q hq e => by
  obtain ⟨c, t, e2⟩ := Fo.heads_nil hk q hq
  rw [e2] at e
  have := congrArg List.length e
  simp at this
 unfold tdelW
 rcases hd : l.drop x.part.length with _ | ⟨c, lr⟩
 ·-- the node's own bytes
  have hl : l = x.part := by
   rcases mem_tlist.1 hm with ⟨_, e⟩ | ⟨q, hq, e⟩
   ·injection e
   ·injection e with e _
    exfalso
    obtain ⟨c, t, e2⟩ := Fo.heads_nil hk q hq
    rw [e, e2, List.drop_left] at hd
    cases hd
  dsimp only
  cases hlf : x.leaf with
  | true =>
   obtain ⟨rfl, hh⟩ := w1 hlf
   rw [if_pos rfl]
   refine ⟨fun T' e => (by cases e), fun p => ⟨fun h => (by cases h), ?_⟩⟩
   rintro ⟨h, h2⟩
   rcases mem_tlist.1 h with ⟨_, rfl⟩ | ⟨q, hq, _⟩
   ·exact absurd hl.symm h2
   ·cases hq
  | false =>
   rw [if_neg (by simp)]
   refine (tleft_ok (x := ⟨false, o, x.part, 0, false⟩) (fun _ => rfl) hk g2).of fun p => ?_
   dsimp only
   rw [mem_tlist, mem_tlist]
   dsimp only
   rw [hl]
   constructor
   ·rintro (⟨e, _⟩ | ⟨q, hq, rfl⟩)
    ·cases e
    ·exact ⟨.inr ⟨q, hq, rfl⟩, hne q hq⟩
   ·rintro ⟨⟨_, rfl⟩ | h, h2⟩
    ·exact absurd rfl h2
    ·exact .inr h
 ·-- below it
  have hl : l = x.part ++ c :: lr /\ ∃ v, (c :: lr, v) ∈ k.list [] := by
   rcases mem_tlist.1 hm with ⟨_, e⟩ | ⟨q, hq, e⟩
   ·injection e with e _
    rw [e, List.drop_length] at hd
    cases hd
   ·injection e with e _
    rw [e, List.drop_left] at hd
    refine ⟨by rw [e, hd], q.2, ?_⟩
    rw [<- hd]
    exact hq
  obtain ⟨hl, hmk⟩ := hl
  have hF := hK c lr hmk
  refine (tleft_ok (x := ⟨false, o, x.part, x.val, x.has⟩) w2 hF.wf hF.good).of fun p => ?_
  dsimp only
  rw [mem_tlist, mem_tlist]
  dsimp only
  have hpn : x.part ≠ l := fun e => by
   have := congrArg List.length (e.trans hl)
   simp at this
  constructor
  ·rintro (⟨h1, rfl⟩ | ⟨q, hq, rfl⟩)
   ·exact ⟨.inl ⟨h1, rfl⟩, hpn⟩
   ·obtain ⟨h1, h2⟩ := (hF.mem q).1 hq
    exact ⟨.inr ⟨q, h1, rfl⟩, fun e => h2 (by rw [hl] at e; exact List.append_cancel_left e)⟩
  ·rintro ⟨⟨h1, rfl⟩ | ⟨q, hq, rfl⟩, h2⟩
   ·exact .inl ⟨h1, rfl⟩
   ·exact .inr ⟨q, (hF.mem q).2 ⟨hq, fun e => h2 (by rw [hl, e])⟩, rfl⟩
theorem Fo.dels_ok : ∀ {f : Fo}, f.wf o -> f.good -> ∀ c l, (∃ v, (c :: l, v) ∈ f.list []) -> DelF o f c l (f.dels o c l)
 | .nil, _, _, _, _, ⟨_, h⟩ => by cases h
 | .cons b x k r, ⟨h1, h2, h3, h4⟩, ⟨g1, g2, g3⟩, c, l, ⟨v, hm⟩ => by
  have hr : ∀ p ∈ r.list [], ∃ c t, p.1 = c :: t /\ b.toNat < c.toNat := Fo.heads h4 h1
  have hrn : ∀ p ∈ r.list [], ∀ t, p.1 ≠ b :: t := fun p hp t e => by
   obtain ⟨c', t', e2, hlt⟩ := hr p hp
   rw [e2] at e
   injection e with e _
   subst e
   omega
  rw [Fo.dels]
  by_cases hc : c = b
  ·subst hc
   rw [if_pos rfl]
   have hm2 : (l, v) ∈ tlist x k [] := by
    rcases mem_fo.1 hm with ⟨q, hq, e⟩ | h
    ·injection e with e1 e2
     injection e1 with _ e1
     rw [e1, e2]
     exact hq
    ·exact absurd rfl (hrn _ h l)
   have hT := tdelW_ok h2 h3 ⟨g1, g2⟩ (fun c l hml => Fo.dels_ok h3 g2 c l hml) ⟨v, hm2⟩
   generalize tdelW o (k.dels o) x k l = T at hT
   cases T with
   | none =>
    refine ⟨h4, g3, fun b' hb => ?_, fun p => ?_⟩
    ·have hb2 : b'.toNat < c.toNat := hb
     show r.above b'
     cases r with
     | nil => trivial
     | cons b2 _ _ _ =>
      have h12 : c.toNat < b2.toNat := h1
      show b'.toNat < b2.toNat
      omega
    ·show p ∈ r.list [] ↔ _
     rw [mem_fo]
     constructor
     ·exact fun h => ⟨.inr h, hrn p h l⟩
     ·rintro ⟨⟨q, hq, rfl⟩ | h, h2⟩
      ·have := (hT.mem q).2 ⟨hq, fun e => h2 (by rw [e])⟩
       cases this
      ·exact h
   | some T =>
    obtain ⟨t1, t2, t3⟩ := hT.ok T rfl
    refine ⟨⟨h1, t1, t2, h4⟩, ⟨t3.1, t3.2, g3⟩, fun b' hb => hb, fun p => ?_⟩
    show p ∈ (Fo.cons c T.1 T.2 r).list [] ↔ _
    rw [mem_fo, mem_fo]
    constructor
    ·rintro (⟨q, hq, rfl⟩ | h)
     ·obtain ⟨q1, q2⟩ := (hT.mem q).1 hq
      exact ⟨.inl ⟨q, q1, rfl⟩, fun e => q2 (by injection e)⟩
     ·exact ⟨.inr h, hrn p h l⟩
    ·rintro ⟨⟨q, hq, rfl⟩ | h, h2⟩
     ·exact .inl ⟨q, (hT.mem q).2 ⟨hq, fun e => h2 (by rw [e])⟩, rfl⟩
     ·exact .inr h
  ·rw [if_neg hc]
   have hm2 : (c :: l, v) ∈ r.list [] := by
    rcases mem_fo.1 hm with ⟨q, hq, e⟩ | h
    ·injection e with e1 e2
     injection e1 with e1 _
     exact absurd e1 hc
    ·exact h
   have ih := Fo.dels_ok h4 g3 c l ⟨v, hm2⟩
   refine ⟨⟨ih.above b h1, h2, h3, ih.wf⟩, ⟨g1, g2, ih.good⟩, fun b' h => h, fun p => ?_⟩
   rw [mem_fo, mem_fo, ih.mem p]
   constructor
   ·rintro (⟨q, hq, rfl⟩ | ⟨h, h'⟩)
    ·exact ⟨.inl ⟨q, hq, rfl⟩, fun e => by injection e with e _; exact hc e.symm⟩
    ·exact ⟨.inr h, h'⟩
   ·rintro ⟨⟨q, hq, rfl⟩ | h, h'⟩
    ·exact .inl ⟨q, hq, rfl⟩
    ·exact .inr ⟨h, h'⟩
theorem tdel_ok (hx : wfN o x k) (hk : k.wf o) (hg : tgood x k) (l : List UInt8) (hm : ∃ v, (l, v) ∈ tlist x k []) : LeftT o (tdel o x k l) (fun p => p ∈ tlist x k [] /\ p.1 ≠ l) := tdelW_ok hx hk hg (fun c l h => Fo.dels_ok hk hg.2 c l h) hm
end
end Go.Proofs.YtcbgieoiefbeiaaGreatDoor
namespace Go.Proofs.YtcbgieoiefbeiaaGreatDoor
open Go.RowKit
theorem by_left (o : Int) (x : Nn) (k : Fo) : (tleft o x k).map (byT o) = tleft o (x.by o) (k.by o) := by
 cases k with
 | nil =>
  unfold tleft
  show Option.map _ (if x.has = true then _ else _) = if x.has = true then _ else _
  split <;> rfl
 | cons b y ky r =>
  cases r with
  | nil =>
   unfold tleft
   show Option.map _ (if x.has = true then _ else _) = if x.has = true then _ else _
   split <;> rfl
  | cons b' y' ky' r' => rfl
theorem by_delW (o : Int) {K K' : UInt8 -> List UInt8 -> Fo} (x : Nn) (k : Fo) (hK : ∀ c l, (K c l).by o = K' c l) (l : List UInt8) : (tdelW o K x k l).map (byT o) = tdelW o K' (x.by o) (k.by o) l := by
 unfold tdelW
 show Option.map _ (match l.drop x.part.length with
  | [] => if x.leaf then none else tleft o ⟨false, o, x.part, 0, false⟩ k
  | c :: lr => tleft o ⟨false, o, x.part, x.val, x.has⟩ (K c lr)) = match l.drop x.part.length with
  | [] => if x.leaf then none else tleft o ⟨false, o, x.part, 0, false⟩ (k.by o)
  | c :: lr => tleft o ⟨false, o, x.part, x.val, x.has⟩ (K' c lr)
 rcases l.drop x.part.length with _ | ⟨c, lr⟩
 ·dsimp only
  split
  ·rfl
  ·exact by_left o ⟨false, o, x.part, 0, false⟩ k
 ·dsimp only
  rw [by_left, hK]
  rfl
theorem Fo.by_putO (o : Int) (b : UInt8) (r : Fo) (T : Option (Nn × Fo)) : (Fo.putO b r T).by o = Fo.putO b (r.by o) (T.map (byT o)) := by
 cases T <;> rfl
theorem Fo.by_dels (o : Int) : ∀ (f : Fo) (c : UInt8) (l : List UInt8), (f.dels o c l).by o = (f.by o).dels o c l
 | .nil, _, _ => rfl
 | .cons b x k r, c, l => by
  have h := by_delW o x k (fun c l => Fo.by_dels o k c l) l
  rw [Fo.dels, Fo.by, Fo.dels]
  split
  ·rw [Fo.by_putO, h]
  ·rw [Fo.by, Fo.by_dels o r]
theorem by_del (o : Int) (x : Nn) (k : Fo) (l : List UInt8) : (tdel o x k l).map (byT o) = tdel o (x.by o) (k.by o) l := by_delW o x k (fun c l => Fo.by_dels o k c l) l
def delS (l : List UInt8) (ps : List PV) : List PV := ps.filter fun p => decide (p.key ≠ l)
theorem delS_rise {l : List UInt8} {ps : List PV} (h : Rsn ps) : Rsn (delS l ps) := h.sublist (List.filter_sublist ..)
theorem delS_sub {l : List UInt8} {ps : List PV} : ∀ p ∈ delS l ps, p ∈ ps := fun _ hp => (List.mem_filter.1 hp).1
theorem delS_len (l : List UInt8) (ps : List PV) : (delS l ps).length <= ps.length := List.length_filter_le ..
theorem delS_mem {l : List UInt8} {ps : List PV} (p : KV) : p ∈ (delS l ps).map kvP ↔ p ∈ ps.map kvP /\ p.1 ≠ l := by
 simp only [List.mem_map, delS, List.mem_filter, decide_eq_true_eq]
 constructor
 ·rintro ⟨q, ⟨h1, h2⟩, rfl⟩
  exact ⟨⟨q, h1, rfl⟩, h2⟩
 ·rintro ⟨⟨q, h1, rfl⟩, h2⟩
  exact ⟨q, ⟨h1, h2⟩, rfl⟩
theorem delS_none {l : List UInt8} {ps : List PV} (h : ∀ p ∈ ps.map kvP, p.1 ≠ l) : delS l ps = ps := by
 unfold delS
 rw [List.filter_eq_self]
 intro p hp
 exact decide_eq_true (h (kvP p) (List.mem_map.2 ⟨p, hp, rfl⟩))
theorem Can.del {ps : List PV} {T : Nn × Fo} (h : Can ps T) (hr : Rsn ps) (o : Int) (l : List UInt8) (hm : ∃ v, (l, v) ∈ ps.map kvP) : OCan (delS l ps) (tdel o T.1 T.2 l) := by
 have hx : wfN o (T.1.by o) (T.2.by o) := by
  have := wfN_by (o' := o) h.top
  rwa [Nn.by_by, Fo.by_by] at this
 have hk : (T.2.by o).wf o := by
  have := wf_by (o' := o) h.wf
  rwa [Fo.by_by] at this
 have hg := (by_tgood o T.1 T.2).2 h.good
 have hl : tlist (T.1.by o) (T.2.by o) [] = ps.map kvP := by rw [by_tlist]; exact h.list
 have h1 := tdel_ok hx hk hg l (by rw [hl]; exact hm)
 rw [hl, <- by_del] at h1
 generalize tdel o T.1 T.2 l = U at h1
 have hmem : ∀ p, p ∈ olist (U.map (byT o)) ↔ p ∈ (delS l ps).map kvP := fun p => (h1.mem p).trans (delS_mem p).symm
 cases U with
 | none =>
  have : (delS l ps).map kvP = [] := List.eq_nil_iff_forall_not_mem.2 fun p hp => by
   have := (hmem p).2 hp
   cases this
  show delS l ps = []
  simpa using this
 | some U =>
  obtain ⟨t1, t2, t3⟩ := h1.ok (byT o U) rfl
  have hr2 : Rise (tlist U.1 U.2 []) := by
   have := tree_rise t2 (x := U.1.by o) (Fo.rise t2)
   rwa [by_tlist] at this
  refine ⟨?_, ?_, (by_tgood o _ _).1 t3, ?_⟩
  ·have := wfN_by (o' := 1) t1
   rwa [Nn.by_by, Fo.by_by] at this
  ·have := wf_by (o' := 1) t2
   rwa [Fo.by_by] at this
  ·refine riseK_same hr2 (by unfold Rise; rw [List.pairwise_map]; exact delS_rise hr) fun p => ?_
   rw [<- hmem p]
   show p ∈ tlist U.1 U.2 [] ↔ p ∈ tlist (U.1.by o) (U.2.by o) []
   rw [by_tlist]
def odels (o : Int) (t : Option (Nn × Fo)) (l : List UInt8) : Option (Nn × Fo) := if (firstK (olist t) l).2 = true then odel o t l else t
theorem OCan.dels {ps : List PV} {t : Option (Nn × Fo)} (h : OCan ps t) (hr : Rsn ps) (o : Int) (l : List UInt8) : OCan (delS l ps) (odels o t l) := by
 have hL := h.list
 obtain ⟨g, hg⟩ : ∃ g, firstK (olist t) l = g := ⟨_, rfl⟩
 obtain ⟨g1, g2⟩ := g
 unfold odels
 rw [hg]
 have hri : Rise (olist t) := by rw [hL]; unfold Rise; rw [List.pairwise_map]; exact hr
 cases g2 with
 | true =>
  rw [if_pos rfl]
  have hm := (firstK_yes hri).1 hg
  cases t with
  | none => cases hm
  | some T => exact Can.del h hr o l ⟨g1, by rw [<- hL]; exact hm⟩
 | false =>
  rw [if_neg (by simp), delS_none (by rw [<- hL]; exact firstK_no hg)]
  exact h
theorem tleft_all {P : Int -> Prop} {o : Int} (ho : P o) {x : Nn} {k : Fo} (hk : k.all P) : oall P (tleft o x k) := by
 obtain ⟨lf, ow, pt, vl, hs⟩ := x
 cases k with
 | nil =>
  cases hs with
  | true => exact ⟨ho, trivial⟩
  | false => exact trivial
 | cons b y ky r =>
  obtain ⟨h1, h2, h3⟩ := hk
  cases r with
  | nil =>
   cases hs with
   | true => exact ⟨ho, h1, h2, trivial⟩
   | false => exact ⟨ho, h2⟩
  | cons b' y' ky' r' => exact ⟨ho, h1, h2, h3⟩
theorem tdelW_all {P : Int -> Prop} {o : Int} (ho : P o) {K : UInt8 -> List UInt8 -> Fo} {x : Nn} {k : Fo} (hk : k.all P) (hK : ∀ c l, (K c l).all P) (l : List UInt8) : oall P (tdelW o K x k l) := by
 unfold tdelW
 cases l.drop x.part.length with
 | nil =>
  show oall P (if x.leaf = true then none else _)
  cases x.leaf with
  | true => exact trivial
  | false => exact tleft_all (x := ⟨false, o, x.part, 0, false⟩) ho hk
 | cons c lr => exact tleft_all (x := ⟨false, o, x.part, x.val, x.has⟩) ho (hK c lr)
theorem Fo.dels_all {P : Int -> Prop} {o : Int} (ho : P o) : ∀ {f : Fo}, f.all P -> ∀ c l, (f.dels o c l).all P
 | .nil, _, _, _ => trivial
 | .cons b x k r, ⟨h1, h2, h3⟩, c, l => by
  rw [Fo.dels]
  split
  ·have := tdelW_all (x := x) ho h2 (fun c l => Fo.dels_all ho h2 c l) l
   generalize tdelW o (k.dels o) x k l = T at this
   cases T with
   | none => exact h3
   | some T => exact ⟨this.1, this.2, h3⟩
  ·exact ⟨h1, h2, Fo.dels_all ho h3 c l⟩
theorem odel_all {P : Int -> Prop} {o : Int} (ho : P o) {t : Option (Nn × Fo)} (h : oall P t) (l : List UInt8) : oall P (odel o t l) := by
 cases t with
 | none => trivial
 | some T => exact tdelW_all ho h.2 (fun c l => Fo.dels_all ho h.2 c l) l
theorem odels_all {P : Int -> Prop} {o : Int} (ho : P o) {t : Option (Nn × Fo)} (h : oall P t) (l : List UInt8) : oall P (odels o t l) := by
 unfold odels
 split
 ·exact odel_all ho h l
 ·exact h
def Fo.drop : Fo -> UInt8 -> Fo
 | .nil, _ => .nil
 | .cons b x k r, c => if b = c then r else .cons b x k (r.drop c)
def Fo.setO (f : Fo) (c : UInt8) : Option (Nn × Fo) -> Fo
 | none => f.drop c
 | some T => f.set c T.1 T.2
theorem Fo.dels_set (o : Int) : ∀ {f : Fo}, f.srt -> ∀ (c : UInt8) (l : List UInt8) {T : Nn × Fo}, f.kid c = some T -> f.dels o c l = f.setO c (odel o (some T) l)
 | .nil, _, _, _, _, h => by cases h
 | .cons b x k r, ⟨h1, _, h3, h4⟩, c, l, T, h => by
  rw [Fo.kid] at h
  rw [Fo.dels]
  by_cases e : c = b
  ·subst e
   rw [if_pos rfl] at h ⊢
   injection h with h
   subst h
   show Fo.putO c r (tdel o x k l) = Fo.setO _ c (tdel o x k l)
   cases tdel o x k l with
   | none =>
    show r = Fo.drop _ c
    rw [Fo.drop, if_pos rfl]
   | some T =>
    show Fo.cons c T.1 T.2 r = Fo.set _ c T.1 T.2
    rw [Fo.set, if_pos rfl]
  ·rw [if_neg (fun q => e q.symm)] at h
   rw [if_neg e, Fo.dels_set o h4 c l h]
   cases odel o (some T) l with
   | none =>
    show Fo.cons b x k (r.drop c) = Fo.drop _ c
    rw [Fo.drop, if_neg (fun q => e q.symm)]
   | some U =>
    show Fo.cons b x k (r.set c U.1 U.2) = Fo.set _ c U.1 U.2
    have hlt : ¬ c.toNat < b.toNat := fun q => by
     have := Fo.kid_low h4 h1 (Nat.le_of_lt q)
     rw [this] at h
     cases h
    rw [Fo.set, if_neg e, if_neg hlt]
section
variable {o : Int} {x : Nn} {k : Fo} {l : List UInt8}
theorem tdel_leaf (h : l.drop x.part.length = []) (hl : x.leaf = true) : tdel o x k l = none := by
 unfold tdel tdelW
 rw [h]
 exact if_pos hl
theorem tdel_here (h : l.drop x.part.length = []) (hl : x.leaf = false) : tdel o x k l = tleft o ⟨false, o, x.part, 0, false⟩ k := by
 unfold tdel tdelW
 rw [h]
 exact if_neg (by rw [hl]; exact Bool.false_ne_true)
theorem tdel_goes (hk : k.srt) {c : UInt8} {lr : List UInt8} (h : l.drop x.part.length = c :: lr) {T : Nn × Fo} (hT : k.kid c = some T) : tdel o x k l = tleft o ⟨false, o, x.part, x.val, x.has⟩ (k.setO c (odel o (some T) lr)) := by
 unfold tdel tdelW
 rw [h, <- Fo.dels_set o hk c lr hT]
end
end Go.Proofs.YtcbgieoiefbeiaaGreatDoor
namespace Go.Proofs.YtcbgieoiefbeiaaGreatDoor
open Go.RowKit
theorem Fo.good_has : ∀ (f : Fo), f.good -> f ≠ .nil -> ∃ q, q ∈ f.list []
 | .nil, _, h => absurd rfl h
 | .cons b y ky r, ⟨g1, g2, _⟩, _ => by
  cases hh : y.has with
  | true => exact ⟨(b :: y.part, y.val), mem_fo.2 (.inl ⟨(y.part, y.val), mem_tlist.2 (.inl ⟨hh, rfl⟩), rfl⟩)⟩
  | false =>
   have hk : ky ≠ .nil := fun e => by
    subst e
    unfold okN at g1
    rw [hh] at g1
    split at g1
    ·exact absurd g1.2 (by simp)
    ·simp [Fo.len] at g1
   obtain ⟨q, hq⟩ := Fo.good_has ky g2 hk
   exact ⟨(b :: (y.part ++ q.1), q.2), mem_fo.2 (.inl ⟨(y.part ++ q.1, q.2), mem_tlist.2 (.inr ⟨q, hq, rfl⟩), rfl⟩)⟩
theorem good_has {x : Nn} {k : Fo} (h : tgood x k) : ∃ p, p ∈ tlist x k [] /\ x.part.length <= p.1.length := by
 obtain ⟨q, hq⟩ := Fo.good_has (.cons 0 x k .nil) ⟨h.1, h.2, trivial⟩ (by intro e; cases e)
 rcases mem_fo.1 hq with ⟨p, hp, _⟩ | h
 ·refine ⟨p, hp, ?_⟩
  rcases mem_tlist.1 hp with ⟨_, rfl⟩ | ⟨z, _, rfl⟩
  ·exact Nat.le_refl _
  ·simp
 ·cases h
theorem Fo.kid_list {c : UInt8} {T : Nn × Fo} : ∀ {f : Fo}, f.kid c = some T -> ∀ q ∈ tlist T.1 T.2 [], (c :: q.1, q.2) ∈ f.list []
 | .nil, h, _, _ => by cases h
 | .cons b x k r, h, q, hq => by
  rw [Fo.kid] at h
  split at h
  ·rename_i e
   injection h with h
   subst h
   subst e
   exact mem_fo.2 (.inl ⟨q, hq, rfl⟩)
  ·exact mem_fo.2 (.inr (Fo.kid_list h q hq))
theorem Fo.kid_good {c : UInt8} {T : Nn × Fo} : ∀ {f : Fo}, f.good -> f.kid c = some T -> tgood T.1 T.2
 | .nil, _, h => by cases h
 | .cons b x k r, ⟨g1, g2, g3⟩, h => by
  rw [Fo.kid] at h
  split at h
  ·injection h with h
   subst h
   exact ⟨g1, g2⟩
  ·exact Fo.kid_good g3 h
theorem Fo.kid_mem {c : UInt8} {l : List UInt8} {v : Int} : ∀ {f : Fo}, f.srt -> (c :: l, v) ∈ f.list [] -> ∃ T, f.kid c = some T /\ (l, v) ∈ tlist T.1 T.2 []
 | .nil, _, h => by cases h
 | .cons b x k r, ⟨h1, _, _, h4⟩, h => by
  rw [Fo.kid]
  rcases mem_fo.1 h with ⟨q, hq, e⟩ | h
  ·injection e with e1 e2
   injection e1 with e1 e3
   subst e1
   rw [if_pos rfl]
   refine ⟨(x, k), rfl, ?_⟩
   rw [e3, e2]
   exact hq
  ·obtain ⟨T, hT, hm⟩ := Fo.kid_mem h4 h
   have hn : b ≠ c := fun e => by
    have := Fo.kid_low (c := c) h4 h1 (by rw [e]; exact Nat.le_refl _)
    rw [this] at hT
    cases hT
   rw [if_neg hn]
   exact ⟨T, hT, hm⟩
theorem Fo.set_len {c : UInt8} {y : Nn} {ky : Fo} {T : Nn × Fo} : ∀ {f : Fo}, f.srt -> f.kid c = some T -> (f.set c y ky).len = f.len
 | .nil, _, h => by cases h
 | .cons b x k r, ⟨h1, _, _, h4⟩, h => by
  rw [Fo.kid] at h
  rw [Fo.set]
  by_cases e : b = c
  ·subst e
   rw [if_pos rfl]
   rfl
  ·rw [if_neg e] at h
   have hlt : ¬ c.toNat < b.toNat := fun q => by
    have := Fo.kid_low h4 h1 (Nat.le_of_lt q)
    rw [this] at h
    cases h
   rw [if_neg (fun q => e q.symm), if_neg hlt, Fo.len, Fo.len, Fo.set_len h4 h]
theorem Fo.drop_len {c : UInt8} {T : Nn × Fo} : ∀ {f : Fo}, f.kid c = some T -> (f.drop c).len + 1 = f.len
 | .nil, h => by cases h
 | .cons b x k r, h => by
  rw [Fo.kid] at h
  rw [Fo.drop]
  by_cases e : b = c
  ·rw [if_pos e, Fo.len]
  ·rw [if_neg e] at h ⊢
   rw [Fo.len, Fo.len, Fo.drop_len h]
section
variable {o : Int} {x : Nn} {k : Fo} {l : List UInt8}
theorem tleft_two (h : 2 <= k.len + (if x.has = true then 1 else 0)) : tleft o x k = some (⟨false, o, x.part, x.val, x.has⟩, k) := by
 cases k with
 | nil =>
  rw [Fo.len] at h
  split at h <;> omega
 | cons b y ky r =>
  cases r with
  | nil =>
   simp only [Fo.len] at h
   split at h
   ·rename_i hh
    unfold tleft
    rw [hh]
    rfl
   ·omega
  | cons b' y' ky' r' => rfl
theorem ok_inner (h : okN x k) (hl : x.leaf = false) : 2 <= k.len + (if x.has = true then 1 else 0) := by
 unfold okN at h
 rw [hl] at h
 exact h
theorem way_two (hs : osrt (some (x, k))) (hm : ∃ v, (l, v) ∈ tlist x k []) :
  (l = x.part /\ x.has = true) \/ ∃ (d : UInt8) (lr : List UInt8) (T : Nn × Fo), l = x.part ++ d :: lr /\ x.leaf = false /\ k.kid d = some T /\ ∃ v, (lr, v) ∈ tlist T.1 T.2 [] := by
 obtain ⟨v, hm⟩ := hm
 rcases mem_tlist.1 hm with ⟨h1, h2⟩ | ⟨q, hq, h2⟩
 ·injection h2 with h2
  exact .inl ⟨h2, h1⟩
 ·injection h2 with h2 h3
  subst h3
  right
  obtain ⟨q1, q2⟩ := q
  dsimp only at h2 hq hm
  rcases q1 with _ | ⟨d, lr⟩
  ·exfalso
   have hs2 := hs.2
   generalize k = f at hq hs2
   induction f with
   | nil => cases hq
   | cons b y ky r _ ih =>
    rcases mem_fo.1 hq with ⟨z, _, e⟩ | h
    ·injection e with e
     cases e
    ·exact ih h hs2.2.2.2
  ·obtain ⟨T, hT, hm2⟩ := Fo.kid_mem hs.2 hq
   refine ⟨d, lr, T, h2, ?_, hT, q2, hm2⟩
   cases hl : x.leaf with
   | false => rfl
   | true =>
    have := hs.1 hl
    dsimp only at this
    rw [this] at hT
    cases hT
theorem Fo.len_two {f : Fo} (h : f.len = 2) : ∃ b1 y1 k1 b2 y2 k2, f = .cons b1 y1 k1 (.cons b2 y2 k2 .nil) := by
 cases f with
 | nil => cases h
 | cons b1 y1 k1 r =>
  cases r with
  | nil => simp [Fo.len] at h
  | cons b2 y2 k2 r2 =>
   cases r2 with
   | nil => exact ⟨b1, y1, k1, b2, y2, k2, rfl⟩
   | cons b3 y3 k3 r3 =>
    simp only [Fo.len] at h
    omega
theorem Fo.len_one {f : Fo} (h : f.len = 1) : ∃ b y k, f = .cons b y k .nil := by
 cases f with
 | nil => cases h
 | cons b1 y1 k1 r =>
  cases r with
  | nil => exact ⟨b1, y1, k1, rfl⟩
  | cons b2 y2 k2 r2 =>
   simp only [Fo.len] at h
   omega
theorem part_two {M : Nat} {d : UInt8} {T : Nn × Fo} (hg : k.good) (hk : k.kid d = some T) (hM : ∀ p ∈ tlist x k [], p.1.length <= M) : x.part.length + (T.1.part.length + 1) <= M := by
 obtain ⟨p, hp, hl⟩ := good_has (Fo.kid_good hg hk)
 have h1 := hM _ (mem_tlist.2 (.inr ⟨_, Fo.kid_list hk p hp, rfl⟩))
 simp only [List.length_append, List.length_cons] at h1
 omega
theorem kid_short {M : Nat} {d : UInt8} {T : Nn × Fo} (hk : k.kid d = some T) (hM : ∀ p ∈ tlist x k [], p.1.length <= M) : ∀ p ∈ tlist T.1 T.2 [], p.1.length <= M := fun p hp => by
 have h1 := hM _ (mem_tlist.2 (.inr ⟨_, Fo.kid_list hk p hp, rfl⟩))
 simp only [List.length_append, List.length_cons] at h1
 omega
end
end Go.Proofs.YtcbgieoiefbeiaaGreatDoor
