/-
  The part of a tree under a prefix, with it and without it, and a tree under a prefix: canonical trees of those pairs. No program is run.
  The part of a canonical tree under a prefix, with it and without it, and a canonical tree under a prefix are the canonical trees of those pairs, whoever owns the nodes. No program is run.
-/
import Derived.Test.YtajpipaooaemdaaGreatDoorNin
namespace Go.Proofs.YtajpipaooaemdaaGreatDoor
open Go.RowKit

/-- A tree with bytes ahead of its top node's part; with another part there. -/
def preT (q : List UInt8) (T : Nn × Fo) : Nn × Fo := (⟨T.1.leaf, T.1.ow, q ++ T.1.part, T.1.val, T.1.has⟩, T.2)
def newT (o : Int) (l : List UInt8) (T : Nn × Fo) : Nn × Fo := (⟨T.1.leaf, o, l, T.1.val, T.1.has⟩, T.2)
/-- What a tree has behind some bytes: K, where they go on below its top node. -/
def tsubW (K : UInt8 → List UInt8 → Option (Nn × Fo)) (x : Nn) (k : Fo) (q : List UInt8) : Option (Nn × Fo) :=
  match q.drop (lcp q x.part) with
  | [] => some (⟨x.leaf, x.ow, x.part.drop q.length, x.val, x.has⟩, k)
  | c :: qr => if lcp q x.part = x.part.length then K c qr else none
def Fo.subs : Fo → UInt8 → List UInt8 → Option (Nn × Fo)
  | .nil, _, _ => none
  | .cons b x k r, c, q => if b = c then tsubW (Fo.subs k) x k q else Fo.subs r c q
def tsub (x : Nn) (k : Fo) (q : List UInt8) : Option (Nn × Fo) := tsubW (Fo.subs k) x k q
def osub : Option (Nn × Fo) → List UInt8 → Option (Nn × Fo)
  | none, _ => none
  | some T, q => tsub T.1 T.2 q
theorem Fo.subs_kid : ∀ (f : Fo) (c : UInt8) (q : List UInt8), f.subs c q = osub (f.kid c) q
  | .nil, _, _ => rfl
  | .cons b x k r, c, q => by
    rw [Fo.subs, Fo.kid]
    split
    · rfl
    · exact Fo.subs_kid r c q
section
variable {o : Int} {x : Nn} {k : Fo} {q : List UInt8}
/-- The bytes end in the node's part; they leave it; they go on below it. -/
theorem tsub_here (h : lcp q x.part = q.length) : tsub x k q = some (⟨x.leaf, x.ow, x.part.drop q.length, x.val, x.has⟩, k) := by
  unfold tsub tsubW
  rw [h, List.drop_length]
theorem tsub_no (h : lcp q x.part < q.length) (h2 : lcp q x.part < x.part.length) : tsub x k q = none := by
  unfold tsub tsubW
  rcases hd : q.drop (lcp q x.part) with _ | ⟨c, qr⟩
  · have := congrArg List.length hd
    simp at this
    omega
  · exact if_neg (by omega)
theorem tsub_on {c : UInt8} {qr : List UInt8} (h : lcp q x.part = x.part.length) (hd : q.drop x.part.length = c :: qr) : tsub x k q = osub (k.kid c) qr := by
  unfold tsub tsubW
  rw [h, hd, ← Fo.subs_kid]
  exact if_pos rfl
end
/-- What holds of what is behind some bytes. -/
structure SubT (o : Int) (T : Option (Nn × Fo)) (q : List UInt8) (L : List KV) : Prop where
  ok : ∀ T', T = some T' → wfN o T'.1 T'.2 ∧ T'.2.wf o ∧ tgood T'.1 T'.2
  mem : ∀ p, p ∈ olist T ↔ (q ++ p.1, p.2) ∈ L
section
variable {o : Int} {x : Nn} {k : Fo} {q : List UInt8}
theorem tsubW_ok (hx : wfN o x k) (hk : k.wf o) (hg : tgood x k) {K : UInt8 → List UInt8 → Option (Nn × Fo)} (hK : ∀ c q, SubT o (K c q) (c :: q) (k.list [])) (q : List UInt8) : SubT o (tsubW K x k q) q (tlist x k []) := by
  have hp := part_split q x.part
  unfold tsubW
  rcases hd : q.drop (lcp q x.part) with _ | ⟨c, qr⟩
  · have hq : lcp q x.part = q.length := by
      have h1 := congrArg List.length hd
      have h2 := lcp_le_left q x.part
      rw [List.length_drop, List.length_nil] at h1
      omega
    rw [hq, List.take_length] at hp
    refine ⟨fun T' e => ?_, fun p => ?_⟩
    · injection e with e
      subst e
      exact ⟨⟨hx.1, hx.2.1, hx.2.2⟩, hk, ⟨hg.1, hg.2⟩⟩
    · show p ∈ tlist _ _ [] ↔ _
      rw [mem_tlist, mem_tlist]
      dsimp only
      constructor
      · rintro (⟨h1, rfl⟩ | ⟨z, hz, rfl⟩)
        · exact .inl ⟨h1, by dsimp only; rw [← hp]⟩
        · exact .inr ⟨z, hz, by dsimp only; rw [← List.append_assoc, ← hp]⟩
      · rintro (⟨h1, e⟩ | ⟨z, hz, e⟩)
        · injection e with e1 e2
          rw [hp] at e1
          exact .inl ⟨h1, Prod.ext (List.append_cancel_left e1) e2⟩
        · injection e with e1 e2
          rw [hp, List.append_assoc] at e1
          exact .inr ⟨z, hz, Prod.ext (List.append_cancel_left e1) e2⟩
  · dsimp only
    by_cases hl : lcp q x.part = x.part.length
    · rw [if_pos hl]
      obtain ⟨h1, h2⟩ := whole_of hl
      have hq : q = x.part ++ c :: qr := by
        conv => lhs; rw [← List.take_append_drop (lcp q x.part) q, hd, hl, ← h1]
      have h3 := hK c qr
      refine ⟨h3.ok, fun p => ?_⟩
      rw [h3.mem p, mem_tlist]
      constructor
      · intro h
        exact .inr ⟨_, h, by dsimp only; rw [hq, List.append_assoc]⟩
      · rintro (⟨_, e⟩ | ⟨z, hz, e⟩)
        · injection e with e1 _
          rw [hq, List.append_assoc] at e1
          have := congrArg List.length e1
          simp at this
        · injection e with e1 e2
          rw [hq, List.append_assoc] at e1
          have e3 := List.append_cancel_left e1
          have : z = (c :: qr ++ p.1, p.2) := Prod.ext e3.symm e2.symm
          rw [this] at hz
          exact hz
    · rw [if_neg hl]
      refine ⟨fun T' e => (by cases e), fun p => ⟨fun h => (by cases h), fun h => ?_⟩⟩
      exfalso
      have h1 := tlist_begs _ h
      dsimp only at h1
      have h2 := lcp_le_right q x.part
      have h3 := lcp_le_left q x.part
      have h4 : lcp q x.part < q.length := by
        have := congrArg List.length hd
        simp at this
        omega
      obtain ⟨b, pt, hb⟩ : ∃ b pt, x.part.drop (lcp q x.part) = b :: pt := by
        rcases hx : x.part.drop (lcp q x.part) with _ | ⟨b, pt⟩
        · have := congrArg List.length hx
          simp at this
          omega
        · exact ⟨b, pt, rfl⟩
      have hne := lcp_two hb hd
      obtain ⟨s, hs⟩ := h1
      rw [hb] at hp
      have hqs : q = q.take (lcp q x.part) ++ c :: qr := by conv => lhs; rw [← List.take_append_drop (lcp q x.part) q, hd]
      have e1 : (q.take (lcp q x.part) ++ b :: pt) ++ s = (q.take (lcp q x.part) ++ c :: qr) ++ p.1 := by rw [← hp, ← hqs]; exact hs
      rw [List.append_assoc, List.append_assoc] at e1
      have e2 := List.append_cancel_left e1
      injection e2 with e2 _
      exact hne e2
theorem Fo.subs_ok : ∀ {f : Fo}, f.wf o → f.good → ∀ c q, SubT o (f.subs c q) (c :: q) (f.list [])
  | .nil, _, _, _, _ => ⟨fun T' e => (by cases e), fun p => ⟨fun h => (by cases h), fun h => (by cases h)⟩⟩
  | .cons b x k r, ⟨h1, h2, h3, h4⟩, ⟨g1, g2, g3⟩, c, q => by
    have hr : ∀ p ∈ r.list [], ∃ c t, p.1 = c :: t ∧ b.toNat < c.toNat := Fo.heads h4 h1
    rw [Fo.subs]
    by_cases hb : b = c
    · subst hb
      rw [if_pos rfl]
      have hT := tsubW_ok h2 h3 ⟨g1, g2⟩ (fun c q => Fo.subs_ok h3 g2 c q) q
      refine ⟨hT.ok, fun p => ?_⟩
      rw [hT.mem p, mem_fo]
      constructor
      · intro h
        exact .inl ⟨_, h, rfl⟩
      · rintro (⟨z, hz, e⟩ | h)
        · injection e with e1 e2
          injection e1 with _ e1
          have : z = (q ++ p.1, p.2) := Prod.ext e1.symm e2.symm
          rw [this] at hz
          exact hz
        · obtain ⟨c', t, e, hlt⟩ := hr _ h
          injection e with e _
          subst e
          omega
    · rw [if_neg hb]
      have ih := Fo.subs_ok h4 g3 c q
      refine ⟨ih.ok, fun p => ?_⟩
      rw [ih.mem p, mem_fo]
      constructor
      · exact .inr
      · rintro (⟨z, hz, e⟩ | h)
        · injection e with e1 _
          injection e1 with e1 _
          exact absurd e1.symm hb
        · exact h
theorem tsub_ok (hx : wfN o x k) (hk : k.wf o) (hg : tgood x k) (q : List UInt8) : SubT o (tsub x k q) q (tlist x k []) := tsubW_ok hx hk hg (fun c q => Fo.subs_ok hk hg.2 c q) q
end
end Go.Proofs.YtajpipaooaemdaaGreatDoor

namespace Go.Proofs.YtajpipaooaemdaaGreatDoor
open Go.RowKit

theorem by_subW (o : Int) {K K' : UInt8 → List UInt8 → Option (Nn × Fo)} (x : Nn) (k : Fo) (hK : ∀ c q, (K c q).map (byT o) = K' c q) (q : List UInt8) : (tsubW K x k q).map (byT o) = tsubW K' (x.by o) (k.by o) q := by
  unfold tsubW
  have e : (x.by o).part = x.part := rfl
  rw [e]
  rcases q.drop (lcp q x.part) with _ | ⟨c, qr⟩
  · rfl
  · dsimp only
    split
    · exact hK c qr
    · rfl
theorem Fo.by_subs (o : Int) : ∀ (f : Fo) (c : UInt8) (q : List UInt8), (f.subs c q).map (byT o) = (f.by o).subs c q
  | .nil, _, _ => rfl
  | .cons b x k r, c, q => by
    rw [Fo.subs, Fo.by, Fo.subs]
    split
    · exact by_subW o x k (fun c q => Fo.by_subs o k c q) q
    · exact Fo.by_subs o r c q
theorem by_sub (o : Int) (x : Nn) (k : Fo) (q : List UInt8) : (tsub x k q).map (byT o) = tsub (x.by o) (k.by o) q := by_subW o x k (fun c q => Fo.by_subs o k c q) q
/-- A tree, or nothing, that is told by what holds of it as one owner's. -/
theorem can_of_by {o : Int} {U : Option (Nn × Fo)} {qs : List PV} (hok : ∀ T', U.map (byT o) = some T' → wfN o T'.1 T'.2 ∧ T'.2.wf o ∧ tgood T'.1 T'.2) (hr : Rsn qs) (hm : ∀ p, p ∈ olist (U.map (byT o)) ↔ p ∈ qs.map kvP) : OCan qs U := by
  cases U with
  | none =>
    have : qs.map kvP = [] := List.eq_nil_iff_forall_not_mem.2 fun p hp => by
      have := (hm p).2 hp
      cases this
    show qs = []
    simpa using this
  | some U =>
    obtain ⟨t1, t2, t3⟩ := hok (byT o U) rfl
    have hr2 : Rise (tlist U.1 U.2 []) := by
      have := tree_rise t2 (x := U.1.by o) (Fo.rise t2)
      rwa [by_tlist] at this
    refine ⟨?_, ?_, (by_tgood o _ _).1 t3, ?_⟩
    · have := wfN_by (o' := 1) t1
      rwa [Nn.by_by, Fo.by_by] at this
    · have := wf_by (o' := 1) t2
      rwa [Fo.by_by] at this
    · refine riseK_same hr2 (by unfold Rise; rw [List.pairwise_map]; exact hr) fun p => ?_
      rw [← hm p]
      show p ∈ tlist U.1 U.2 [] ↔ p ∈ tlist (U.1.by o) (U.2.by o) []
      rw [by_tlist]
theorem Can.one (o : Int) {ps : List PV} {T : Nn × Fo} (h : Can ps T) : wfN o (T.1.by o) (T.2.by o) ∧ (T.2.by o).wf o ∧ tgood (T.1.by o) (T.2.by o) ∧ tlist (T.1.by o) (T.2.by o) [] = ps.map kvP := by
  refine ⟨?_, ?_, (by_tgood o T.1 T.2).2 h.good, by rw [by_tlist]; exact h.list⟩
  · have := wfN_by (o' := o) h.top
    rwa [Nn.by_by, Fo.by_by] at this
  · have := wf_by (o' := o) h.wf
    rwa [Fo.by_by] at this
theorem lt_app (q : List UInt8) {a b : List UInt8} : cmpL (q ++ a) (q ++ b) < 0 ↔ cmpL a b < 0 := by
  induction q with
  | nil => exact Iff.rfl
  | cons c q ih =>
    rw [List.cons_append, List.cons_append, lt_cons]
    constructor
    · rintro (h | ⟨_, h⟩)
      · omega
      · exact ih.1 h
    · exact fun h => .inr ⟨rfl, ih.2 h⟩
/-- Pairs by their keys alone. -/
theorem rsn_kv {qs : List PV} {L : List KV} (h : qs.map kvP = L) (hr : Rise L) : Rsn qs := by
  subst h
  unfold Rise at hr
  rw [List.pairwise_map] at hr
  exact hr
theorem begB_iff {l q : List UInt8} : begB l q = true ↔ q <+: l := by
  constructor
  · intro h
    have h1 := lcp_beg (x := ⟨true, 0, q, 0, true⟩) (l := l) |>.1 h
    have h2 := (whole_of (l := l) (m := q) h1).1
    rw [h2]
    exact List.take_prefix ..
  · rintro ⟨s, rfl⟩
    have h1 : q.drop (lcp (q ++ s) q) = [] := (part_end (x := ⟨true, 0, q, 0, true⟩)).2 (List.prefix_append q s)
    refine (lcp_beg (x := ⟨true, 0, q, 0, true⟩) (l := q ++ s)).2 ?_
    have h2 := congrArg List.length h1
    have h3 := lcp_le_right (q ++ s) q
    rw [List.length_drop, List.length_nil] at h2
    show lcp (q ++ s) q = q.length
    omega
/-- The pairs under a prefix, and without it. -/
def subS (q : List UInt8) (ps : List PV) : List PV := ps.filter fun p => begB p.key q
def stripK (q : List UInt8) (ps : List PV) : List KV := (subS q ps).map fun p => (p.key.drop q.length, p.val)
theorem subS_key {q : List UInt8} {ps : List PV} : ∀ p ∈ subS q ps, p ∈ ps ∧ p.key = q ++ p.key.drop q.length := fun p hp => by
  obtain ⟨h1, h2⟩ := List.mem_filter.1 hp
  obtain ⟨s, hs⟩ := begB_iff.1 h2
  exact ⟨h1, by rw [← hs, List.drop_left]⟩
theorem subS_rise {q : List UInt8} {ps : List PV} (h : Rsn ps) : Rsn (subS q ps) := h.sublist (List.filter_sublist ..)
theorem strip_rise {q : List UInt8} {ps : List PV} (h : Rsn ps) : Rise (stripK q ps) := by
  unfold Rise stripK
  rw [List.pairwise_map]
  refine (subS_rise (q := q) h).imp_of_mem fun {a b} ha hb hab => ?_
  rw [(subS_key a ha).2, (subS_key b hb).2] at hab
  exact (lt_app q).1 hab
theorem strip_mem {q : List UInt8} {ps : List PV} (p : KV) : p ∈ stripK q ps ↔ (q ++ p.1, p.2) ∈ ps.map kvP := by
  unfold stripK
  rw [List.mem_map, List.mem_map]
  constructor
  · rintro ⟨z, hz, rfl⟩
    obtain ⟨h1, h2⟩ := subS_key z hz
    exact ⟨z, h1, by show (z.key, z.val) = (q ++ z.key.drop q.length, z.val); rw [← h2]⟩
  · rintro ⟨z, hz, e⟩
    injection e with e1 e2
    refine ⟨z, List.mem_filter.2 ⟨hz, begB_iff.2 (by rw [e1]; exact List.prefix_append ..)⟩, ?_⟩
    rw [e1, e2, List.drop_left]
theorem OCan.strip {ps qs : List PV} {t : Option (Nn × Fo)} (h : OCan ps t) (hr : Rsn ps) (q : List UInt8) (hq : qs.map kvP = stripK q ps) : OCan qs (osub t q) := by
  cases t with
  | none =>
    obtain rfl : ps = [] := h
    show qs = []
    have : qs.map kvP = [] := hq
    simpa using this
  | some T =>
    obtain ⟨h1, h2, h3, h4⟩ := Can.one 1 h
    have hs := tsub_ok h1 h2 h3 q
    rw [← by_sub, h4] at hs
    refine can_of_by (o := 1) hs.ok (rsn_kv hq (strip_rise hr)) fun p => ?_
    exact (hs.mem p).trans (by rw [hq, strip_mem])
theorem OCan.pre {ps qs : List PV} {t : Option (Nn × Fo)} (h : OCan ps t) (hr : Rsn ps) (q : List UInt8) (hq : qs.map kvP = ps.map fun p => (q ++ p.key, p.val)) : OCan qs (t.map (preT q)) := by
  cases t with
  | none =>
    obtain rfl : ps = [] := h
    show qs = []
    have : qs.map kvP = [] := hq
    simpa using this
  | some T =>
    obtain ⟨h1, h2, h3, h4⟩ := Can.one 1 h
    have hri : Rise (ps.map fun p => (q ++ p.key, p.val)) := by
      unfold Rise
      rw [List.pairwise_map]
      exact hr.imp fun hab => (lt_app q).2 hab
    refine can_of_by (U := some (preT q T)) (o := 1) (fun T' e => ?_) (rsn_kv hq hri) fun p => ?_
    · injection e with e
      subst e
      exact ⟨⟨h1.1, h1.2.1, rfl⟩, h2, ⟨h3.1, h3.2⟩⟩
    · rw [hq]
      show p ∈ tlist (⟨T.1.leaf, 1, q ++ T.1.part, T.1.val, T.1.has⟩ : Nn) (T.2.by 1) [] ↔ _
      have e4 : ∀ z, z ∈ tlist (T.1.by 1) (T.2.by 1) [] ↔ z ∈ ps.map kvP := fun z => by rw [h4]
      rw [mem_tlist, List.mem_map]
      dsimp only
      constructor
      · rintro (⟨a, rfl⟩ | ⟨z, hz, rfl⟩)
        · obtain ⟨y, hy, e⟩ := List.mem_map.1 ((e4 _).1 (mem_tlist.2 (.inl ⟨a, rfl⟩)))
          injection e with e1 e2
          exact ⟨y, hy, by rw [e1, e2]; rfl⟩
        · obtain ⟨y, hy, e⟩ := List.mem_map.1 ((e4 _).1 (mem_tlist.2 (.inr ⟨z, hz, rfl⟩)))
          injection e with e1 e2
          exact ⟨y, hy, by rw [e1, e2, List.append_assoc]; rfl⟩
      · rintro ⟨y, hy, rfl⟩
        rcases mem_tlist.1 ((e4 (kvP y)).2 (List.mem_map.2 ⟨y, hy, rfl⟩)) with ⟨a, e⟩ | ⟨z, hz, e⟩
        · injection e with e1 e2
          exact .inl ⟨a, by rw [e1, e2]; rfl⟩
        · injection e with e1 e2
          exact .inr ⟨z, hz, by rw [e1, e2, List.append_assoc]; rfl⟩
/-- The part under a prefix is what is behind it, the prefix ahead again. -/
theorem OCan.subs {ps : List PV} {t : Option (Nn × Fo)} (h : OCan ps t) (hr : Rsn ps) (q : List UInt8) : OCan (subS q ps) ((osub t q).map (preT q)) := by
  obtain ⟨qs, hqs⟩ : ∃ qs : List PV, qs.map kvP = stripK q ps := ⟨(stripK q ps).map fun p => ⟨none, 0, 0, p.1, p.2⟩, by rw [List.map_map]; exact List.map_id' _⟩
  refine OCan.pre (h.strip hr q hqs) (rsn_kv hqs (strip_rise hr)) q ?_
  have h2 : (qs.map fun p => (q ++ p.key, p.val)) = (qs.map kvP).map fun p => (q ++ p.1, p.2) := by rw [List.map_map]; rfl
  rw [h2, hqs]
  unfold stripK
  rw [List.map_map]
  refine List.map_congr_left fun p hp => ?_
  obtain ⟨_, e⟩ := subS_key p hp
  show (p.key, p.val) = (q ++ p.key.drop q.length, p.val)
  rw [← e]
end Go.Proofs.YtajpipaooaemdaaGreatDoor
