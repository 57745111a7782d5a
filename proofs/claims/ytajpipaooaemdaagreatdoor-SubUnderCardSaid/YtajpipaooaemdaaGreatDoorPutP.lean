/-
  A tree with a pair more: what it is, that it is well made, that it has its pairs and that one; so it is the canonical one of them. No program is run.
  What comes out of a put is the canonical tree of the pairs with one more, whoever owns the nodes. No program is run.
  A tree with a pair more, as it is walked: which of the five ways, and the kid that is gone on with; and the tree that is left as it is, since it has the pair already. No program is run.
  What is told of a canonical tree, whoever owns its nodes: its shape is the document's tree's, and it is not too great. No program is run.
  The two keys that each statement of put asks. No program is run.
-/
import Derived.Test.YtajpipaooaemdaaGreatDoorShapeP
import Derived.Test.YtajpipaooaemdaaGreatDoorTowW
import Derived.Test.YtajpipaooaemdaaGreatDoorSort
import Derived.Test.YtajpipaooaemdaaGreatDoorDtTop
namespace Go.Proofs.YtajpipaooaemdaaGreatDoor
open Go.RowKit

def lfP (o v : Int) (l : List UInt8) : Nn := ⟨true, o, l, v, true⟩
/-- Two kids by their bytes. -/
def twoK (b : UInt8) (x : Nn) (k : Fo) (d : UInt8) (y : Nn) : Fo := if d.toNat < b.toNat then .cons d y .nil (.cons b x k .nil) else .cons b x k (.cons d y .nil .nil)
/-- A node with bytes put below it; K: what comes out of its kids. -/
def tputW (o v : Int) (K : UInt8 → List UInt8 → Fo) (x : Nn) (k : Fo) (l : List UInt8) : Nn × Fo :=
  match x.part.drop (lcp l x.part) with
  | b :: pt => match l.drop (lcp l x.part) with
    | [] => (⟨false, o, l, v, true⟩, .cons b ⟨x.leaf, o, pt, x.val, x.has⟩ k .nil)
    | d :: lr => (⟨false, o, l.take (lcp l x.part), 0, false⟩, twoK b ⟨x.leaf, o, pt, x.val, x.has⟩ k d (lfP o v lr))
  | [] => match l.drop (lcp l x.part) with
    | [] => (⟨x.leaf, o, x.part, v, true⟩, k)
    | d :: lr => if x.leaf then (⟨false, o, x.part, x.val, true⟩, .cons d (lfP o v lr) .nil .nil) else (⟨false, o, x.part, x.val, x.has⟩, K d lr)
def Fo.puts (o v : Int) : Fo → UInt8 → List UInt8 → Fo
  | .nil, c, l => .cons c (lfP o v l) .nil .nil
  | .cons b x k r, c, l =>
    if c = b then .cons b (tputW o v (Fo.puts o v k) x k l).1 (tputW o v (Fo.puts o v k) x k l).2 r
    else if c.toNat < b.toNat then .cons c (lfP o v l) .nil (.cons b x k r)
    else .cons b x k (Fo.puts o v r c l)
/-- The tree with l and v. -/
def tput (o v : Int) (x : Nn) (k : Fo) (l : List UInt8) : Nn × Fo := tputW o v (Fo.puts o v k) x k l
def oput (o v : Int) : Option (Nn × Fo) → List UInt8 → Nn × Fo
  | none, l => (lfP o v l, .nil)
  | some t, l => tput o v t.1 t.2 l

/-- What is among a list's pairs with one more. -/
def MemP (L M : List KV) (l : List UInt8) (v : Int) : Prop := ∀ p, p ∈ M ↔ p = (l, v) ∨ (p ∈ L ∧ p.1 ≠ l)
theorem mem_tlist {x : Nn} {k : Fo} {p : KV} : p ∈ tlist x k [] ↔ (x.has = true ∧ p = (x.part, x.val)) ∨ ∃ q ∈ k.list [], p = (x.part ++ q.1, q.2) := by
  rw [tlist_part, List.mem_append, List.mem_map]
  constructor
  · rintro (h | ⟨q, hq, rfl⟩)
    · cases hh : x.has with
      | true => rw [hh] at h; simp at h; exact .inl ⟨rfl, h⟩
      | false => rw [hh] at h; simp at h
    · exact .inr ⟨q, hq, rfl⟩
  · rintro (⟨h1, rfl⟩ | ⟨q, hq, rfl⟩)
    · exact .inl (by rw [h1]; simp)
    · exact .inr ⟨q, hq, rfl⟩
theorem mem_fo {b : UInt8} {x : Nn} {k r : Fo} {p : KV} : p ∈ (Fo.cons b x k r).list [] ↔ (∃ q ∈ tlist x k [], p = (b :: q.1, q.2)) ∨ p ∈ r.list [] := by
  rw [Fo.list_nil_cons, List.mem_append, List.mem_map]
  constructor
  · rintro (⟨q, hq, rfl⟩ | h)
    · exact .inl ⟨q, hq, rfl⟩
    · exact .inr h
  · rintro (⟨q, hq, rfl⟩ | h)
    · exact .inl ⟨q, hq, rfl⟩
    · exact .inr h
theorem mem_leaf {o v : Int} {l : List UInt8} {p : KV} : p ∈ tlist (lfP o v l) .nil [] ↔ p = (l, v) := by
  rw [mem_tlist]
  constructor
  · rintro (⟨_, h⟩ | ⟨q, hq, _⟩)
    · exact h
    · cases hq
  · intro h
    exact .inl ⟨rfl, h⟩
theorem mem_two {b d : UInt8} {x y : Nn} {k : Fo} {p : KV} : p ∈ (twoK b x k d y).list [] ↔ (∃ q ∈ tlist x k [], p = (b :: q.1, q.2)) ∨ ∃ q ∈ tlist y .nil [], p = (d :: q.1, q.2) := by
  unfold twoK
  have hn : ∀ p : KV, ¬ p ∈ Fo.nil.list [] := fun p h => by cases h
  split
  · rw [mem_fo, mem_fo]
    constructor
    · rintro (h | h | h)
      · exact .inr h
      · exact .inl h
      · exact (hn p h).elim
    · rintro (h | h)
      · exact .inr (.inl h)
      · exact .inl h
  · rw [mem_fo, mem_fo]
    constructor
    · rintro (h | h | h)
      · exact .inl h
      · exact .inr h
      · exact (hn p h).elim
    · rintro (h | h)
      · exact .inl h
      · exact .inr (.inl h)
/-- What holds of what comes out of kids. -/
structure PutF (o v : Int) (f : Fo) (c : UInt8) (l : List UInt8) (g : Fo) : Prop where
  wf : g.wf o
  good : g.good
  len : f.len ≤ g.len ∧ 1 ≤ g.len
  above : ∀ b : UInt8, f.above b → b.toNat < c.toNat → g.above b
  mem : MemP (f.list []) (g.list []) (c :: l) v
structure PutT (o v : Int) (x : Nn) (k : Fo) (l : List UInt8) (T : Nn × Fo) : Prop where
  top : wfN o T.1 T.2
  wf : T.2.wf o
  good : tgood T.1 T.2
  mem : MemP (tlist x k []) (tlist T.1 T.2 []) l v
section
variable {o v : Int} {x : Nn} {k : Fo} {l : List UInt8}
theorem lfP_wf (o v : Int) (l : List UInt8) : wfN o (lfP o v l) .nil := ⟨fun _ => ⟨rfl, rfl⟩, fun h => (by cases h), rfl⟩
theorem lfP_ok (o v : Int) (l : List UInt8) : okN (lfP o v l) .nil := by unfold okN lfP; simp
theorem pre_not {a t s : List UInt8} {b d : UInt8} (h : b ≠ d) : a ++ b :: t ≠ a ++ d :: s := fun e => h (by
  have := List.append_cancel_left e
  injection this)
/-- Where the part and the bytes part. -/
theorem lcp_two {l m : List UInt8} {b d : UInt8} {lt mt : List UInt8} (h1 : m.drop (lcp l m) = b :: mt) (h2 : l.drop (lcp l m) = d :: lt) : b ≠ d := by
  have e1 : l[lcp l m]? = some d := by
    have : (l.drop (lcp l m))[0]? = some d := by rw [h2]; rfl
    rwa [List.getElem?_drop, Nat.add_zero] at this
  have e2 : m[lcp l m]? = some b := by
    have : (m.drop (lcp l m))[0]? = some b := by rw [h1]; rfl
    rwa [List.getElem?_drop, Nat.add_zero] at this
  have h3 := lcp_differ (p := l) (z := m) (List.getElem?_eq_some_iff.1 e1).1 (List.getElem?_eq_some_iff.1 e2).1
  rw [e1, e2] at h3
  exact fun e => h3 (by rw [e])
theorem lcp_takes (l m : List UInt8) : m.take (lcp l m) = l.take (lcp l m) := by
  have := lcp_take (p := l) (u := m) (e := lcp l m) (Nat.le_refl _)
  have h2 := congrArg (List.take (lcp l m)) this
  rw [List.take_append_of_le_length (by rw [List.length_take]; have := lcp_le_left l m; omega), List.take_take, Nat.min_self] at h2
  exact h2
/-- The step at a node. -/
theorem tputW_ok (hx : wfN o x k) (hk : k.wf o) (hg : tgood x k) {K : UInt8 → List UInt8 → Fo} (hK : ∀ c l, PutF o v k c l (K c l)) (l : List UInt8) : PutT o v x k l (tputW o v K x k l) := by
  obtain ⟨w1, w2, w3⟩ := hx
  obtain ⟨g1, g2⟩ := hg
  have ep : x.part = l.take (lcp l x.part) ++ x.part.drop (lcp l x.part) := lcp_take (p := l) (u := x.part) (Nat.le_refl _)
  have el : l = l.take (lcp l x.part) ++ l.drop (lcp l x.part) := (List.take_append_drop _ _).symm
  unfold tputW
  obtain ⟨a, ha⟩ : ∃ a, l.take (lcp l x.part) = a := ⟨_, rfl⟩
  rcases hp : x.part.drop (lcp l x.part) with _ | ⟨b, pt⟩
  · rcases hl : l.drop (lcp l x.part) with _ | ⟨d, lr⟩
    · -- the node's own bytes
      rw [hp, List.append_nil] at ep
      rw [hl, List.append_nil] at el
      have hlp : x.part = l := by rw [ep]; exact el.symm
      dsimp only
      refine ⟨⟨fun h => ⟨(w1 h).1, rfl⟩, fun h => (by cases h), rfl⟩, hk, ⟨?_, g2⟩, fun p => ?_⟩
      · unfold okN at g1 ⊢
        cases hlf : x.leaf with
        | true => rw [hlf] at g1; simp at g1 ⊢; exact g1.1
        | false => rw [hlf] at g1; simp at g1 ⊢; split at g1 <;> omega
      · rw [mem_tlist, mem_tlist]
        dsimp only
        rw [hlp]
        have hne : ∀ q ∈ k.list [], l ++ q.1 ≠ l := fun q hq e => by
          obtain ⟨c, t, e2⟩ := Fo.heads_nil hk q hq
          rw [e2] at e
          have := congrArg List.length e
          simp at this
        constructor
        · rintro (⟨_, h⟩ | ⟨q, hq, rfl⟩)
          · exact .inl h
          · exact .inr ⟨.inr ⟨q, hq, rfl⟩, hne q hq⟩
        · rintro (h | ⟨⟨_, h⟩ | h, h2⟩)
          · exact .inl ⟨rfl, h⟩
          · exact absurd (by rw [h]) h2
          · exact .inr h
    · -- below the node
      rw [hp, List.append_nil] at ep
      rw [hl] at el
      rw [ha] at ep el
      have hlp : l = x.part ++ d :: lr := by rw [ep]; exact el
      have hpl : ∀ q : KV, x.part ++ q.1 = l ↔ q.1 = d :: lr := fun q => by
        rw [hlp]
        exact ⟨fun e => List.append_cancel_left e, fun e => by rw [e]⟩
      have hpn : x.part ≠ l := fun e => by
        have := congrArg List.length (e.trans hlp)
        simp at this
      dsimp only
      cases hlf : x.leaf with
      | true =>
        obtain ⟨rfl, hh⟩ := w1 hlf
        simp only [if_true]
        refine ⟨⟨fun h => (by cases h), fun h => (by cases h), rfl⟩, ⟨trivial, lfP_wf o v lr, trivial, trivial⟩, ⟨by unfold okN; simp [Fo.len], lfP_ok o v lr, trivial, trivial⟩, fun p => ?_⟩
        rw [mem_tlist, mem_tlist]
        dsimp only
        constructor
        · rintro (⟨_, rfl⟩ | ⟨q, hq, rfl⟩)
          · exact .inr ⟨.inl ⟨hh, rfl⟩, hpn⟩
          · rcases mem_fo.1 hq with ⟨q', hq', rfl⟩ | h
            · rw [mem_leaf] at hq'
              subst hq'
              exact .inl (by rw [hlp])
            · cases h
        · rintro (rfl | ⟨⟨_, h⟩ | ⟨q, hq, _⟩, _⟩)
          · exact .inr ⟨(d :: lr, v), mem_fo.2 (.inl ⟨(lr, v), mem_leaf.2 rfl, rfl⟩), by rw [hlp]⟩
          · exact .inl ⟨rfl, h⟩
          · cases hq
      | false =>
        have hF := hK d lr
        simp only [Bool.false_eq_true, if_false]
        refine ⟨⟨fun h => (by cases h), w2, rfl⟩, hF.wf, ⟨?_, hF.good⟩, fun p => ?_⟩
        · unfold okN at g1 ⊢
          rw [hlf] at g1
          have h1 := hF.len.1
          simp only [Bool.false_eq_true, if_false] at g1 ⊢
          omega
        · rw [mem_tlist, mem_tlist]
          dsimp only
          constructor
          · rintro (⟨h1, rfl⟩ | ⟨q, hq, rfl⟩)
            · exact .inr ⟨.inl ⟨h1, rfl⟩, hpn⟩
            · rcases (hF.mem q).1 hq with rfl | ⟨h1, h2⟩
              · exact .inl (by rw [hlp])
              · exact .inr ⟨.inr ⟨q, h1, rfl⟩, fun e => h2 ((hpl q).1 e)⟩
          · rintro (rfl | ⟨⟨h1, rfl⟩ | ⟨q, hq, rfl⟩, h2⟩)
            · exact .inr ⟨(d :: lr, v), (hF.mem _).2 (.inl rfl), by rw [hlp]⟩
            · exact .inl ⟨h1, rfl⟩
            · exact .inr ⟨q, (hF.mem q).2 (.inr ⟨hq, fun e => h2 ((hpl q).2 e)⟩), rfl⟩
  · have hlow : wfN o ⟨x.leaf, o, pt, x.val, x.has⟩ k := ⟨w1, w2, rfl⟩
    have holow : okN ⟨x.leaf, o, pt, x.val, x.has⟩ k := g1
    have hmlow : ∀ p : KV, (∃ q ∈ tlist ⟨x.leaf, o, pt, x.val, x.has⟩ k [], p = (a ++ b :: q.1, q.2)) ↔ p ∈ tlist x k [] := fun p => by
      have e : x.part = a ++ b :: pt := by rw [← ha, ← hp]; exact ep
      rw [mem_tlist]
      constructor
      · rintro ⟨q, hq, rfl⟩
        rcases mem_tlist.1 hq with ⟨h1, rfl⟩ | ⟨q', hq', rfl⟩
        · exact .inl ⟨h1, by rw [e]⟩
        · exact .inr ⟨q', hq', by rw [e]; simp⟩
      · rintro (⟨h1, rfl⟩ | ⟨q', hq', rfl⟩)
        · exact ⟨(pt, x.val), mem_tlist.2 (.inl ⟨h1, rfl⟩), by rw [e]⟩
        · exact ⟨(pt ++ q'.1, q'.2), mem_tlist.2 (.inr ⟨q', hq', rfl⟩), by rw [e]; simp⟩
    rcases hl : l.drop (lcp l x.part) with _ | ⟨d, lr⟩
    · -- in the middle of the part
      rw [hl, List.append_nil, ha] at el
      dsimp only
      refine ⟨⟨fun h => (by cases h), fun h => (by cases h), rfl⟩, ⟨trivial, hlow, hk, trivial⟩, ⟨by unfold okN; simp [Fo.len], holow, g2, trivial⟩, fun p => ?_⟩
      have hne : p ∈ tlist x k [] → p.1 ≠ l := fun h e => by
        obtain ⟨q, _, rfl⟩ := (hmlow p).2 h
        rw [el] at e
        have := congrArg List.length e
        simp at this
      rw [mem_tlist]
      dsimp only
      constructor
      · rintro (⟨_, h⟩ | ⟨q, hq, rfl⟩)
        · exact .inl h
        · rcases mem_fo.1 hq with ⟨q', hq', rfl⟩ | h
          · have h2 := (hmlow (l ++ b :: q'.1, q'.2)).1 ⟨q', hq', by rw [← el]⟩
            exact .inr ⟨h2, hne h2⟩
          · cases h
      · rintro (h | ⟨h, _⟩)
        · exact .inl ⟨rfl, h⟩
        · obtain ⟨q, hq, rfl⟩ := (hmlow p).2 h
          exact .inr ⟨(b :: q.1, q.2), mem_fo.2 (.inl ⟨q, hq, rfl⟩), by rw [el]⟩
    · -- they part
      have hbd := lcp_two hp hl
      rw [hl, ha] at el
      rw [ha]
      dsimp only
      have hbn : b.toNat ≠ d.toNat := fun e => hbd (UInt8.toNat_inj.1 e)
      refine ⟨⟨fun h => (by cases h), fun _ => rfl, rfl⟩, ?_, ⟨?_, ?_⟩, fun p => ?_⟩
      · unfold twoK
        split
        · rename_i h
          exact ⟨h, lfP_wf o v lr, trivial, trivial, hlow, hk, trivial⟩
        · rename_i h
          exact ⟨by show b.toNat < d.toNat; omega, hlow, hk, trivial, lfP_wf o v lr, trivial, trivial⟩
      · unfold okN twoK
        split <;> simp [Fo.len]
      · unfold twoK
        split
        · exact ⟨lfP_ok o v lr, trivial, holow, g2, trivial⟩
        · exact ⟨holow, g2, lfP_ok o v lr, trivial, trivial⟩
      · have hne : p ∈ tlist x k [] → p.1 ≠ l := fun h e => by
          obtain ⟨q, _, rfl⟩ := (hmlow p).2 h
          rw [el] at e
          exact pre_not hbd e
        rw [mem_tlist]
        dsimp only
        constructor
        · rintro (⟨h, _⟩ | ⟨q, hq, rfl⟩)
          · cases h
          · rcases mem_two.1 hq with ⟨q', hq', rfl⟩ | ⟨q', hq', rfl⟩
            · have h2 := (hmlow (a ++ b :: q'.1, q'.2)).1 ⟨q', hq', rfl⟩
              exact .inr ⟨h2, hne h2⟩
            · rw [mem_leaf] at hq'
              subst hq'
              exact .inl (by rw [el])
        · rintro (rfl | ⟨h, _⟩)
          · exact .inr ⟨(d :: lr, v), mem_two.2 (.inr ⟨(lr, v), mem_leaf.2 rfl, rfl⟩), by rw [← el]⟩
          · obtain ⟨q, hq, rfl⟩ := (hmlow p).2 h
            exact .inr ⟨(b :: q.1, q.2), mem_two.2 (.inl ⟨q, hq, rfl⟩), rfl⟩
theorem Fo.puts_ok : ∀ {f : Fo}, f.wf o → f.good → ∀ c l, PutF o v f c l (f.puts o v c l)
  | .nil, _, _, c, l => by
    refine ⟨⟨trivial, lfP_wf o v l, trivial, trivial⟩, ⟨lfP_ok o v l, trivial, trivial⟩, ⟨Nat.zero_le _, Nat.le_refl _⟩, fun b _ h => h, fun p => ?_⟩
    rw [Fo.puts, mem_fo]
    constructor
    · rintro (⟨q, hq, rfl⟩ | h)
      · rw [mem_leaf] at hq
        subst hq
        exact .inl rfl
      · cases h
    · rintro (rfl | ⟨h, _⟩)
      · exact .inl ⟨(l, v), mem_leaf.2 rfl, rfl⟩
      · cases h
  | .cons b x k r, ⟨h1, h2, h3, h4⟩, ⟨g1, g2, g3⟩, c, l => by
    have hr : ∀ p ∈ r.list [], ∃ c t, p.1 = c :: t ∧ b.toNat < c.toNat := Fo.heads h4 h1
    rw [Fo.puts]
    by_cases hc : c = b
    · subst hc
      rw [if_pos rfl]
      have hT := tputW_ok (v := v) h2 h3 ⟨g1, g2⟩ (fun c l => Fo.puts_ok h3 g2 c l) l
      generalize tputW o v (k.puts o v) x k l = T at hT
      refine ⟨⟨h1, hT.top, hT.wf, h4⟩, ⟨hT.good.1, hT.good.2, g3⟩, ⟨Nat.le_refl _, by show 1 ≤ r.len + 1; omega⟩, fun b _ h => h, fun p => ?_⟩
      rw [mem_fo, mem_fo]
      constructor
      · rintro (⟨q, hq, rfl⟩ | h)
        · rcases (hT.mem q).1 hq with rfl | ⟨q1, q2⟩
          · exact .inl rfl
          · exact .inr ⟨.inl ⟨q, q1, rfl⟩, fun e => q2 (by injection e)⟩
        · refine .inr ⟨.inr h, fun e => ?_⟩
          obtain ⟨c', t, e2, hlt⟩ := hr p h
          rw [e2] at e
          injection e with e _
          subst e
          omega
      · rintro (rfl | ⟨⟨q, hq, rfl⟩ | h, h2⟩)
        · exact .inl ⟨(l, v), (hT.mem _).2 (.inl rfl), rfl⟩
        · exact .inl ⟨q, (hT.mem q).2 (.inr ⟨hq, fun e => h2 (by rw [e])⟩), rfl⟩
        · exact .inr h
    · rw [if_neg hc]
      have hcn : c.toNat ≠ b.toNat := fun e => hc (UInt8.toNat_inj.1 e)
      by_cases hlt : c.toNat < b.toNat
      · rw [if_pos hlt]
        refine ⟨⟨hlt, lfP_wf o v l, trivial, h1, h2, h3, h4⟩, ⟨lfP_ok o v l, trivial, g1, g2, g3⟩, ⟨by show r.len + 1 ≤ r.len + 1 + 1; omega, by show 1 ≤ r.len + 1 + 1; omega⟩, fun b' _ h => h, fun p => ?_⟩
        have hne : p ∈ (Fo.cons b x k r).list [] → p.1 ≠ c :: l := fun h e => by
          rcases mem_fo.1 h with ⟨q, _, rfl⟩ | h
          · injection e with e _
            exact hc e.symm
          · obtain ⟨c', t, e2, hlt2⟩ := hr p h
            rw [e2] at e
            injection e with e _
            subst e
            omega
        rw [mem_fo]
        constructor
        · rintro (⟨q, hq, rfl⟩ | h)
          · rw [mem_leaf] at hq
            subst hq
            exact .inl rfl
          · exact .inr ⟨h, hne h⟩
        · rintro (rfl | ⟨h, _⟩)
          · exact .inl ⟨(l, v), mem_leaf.2 rfl, rfl⟩
          · exact .inr h
      · rw [if_neg hlt]
        have ih := Fo.puts_ok h4 g3 c l
        refine ⟨⟨ih.above b h1 (by omega), h2, h3, ih.wf⟩, ⟨g1, g2, ih.good⟩, ⟨by show r.len + 1 ≤ _ + 1; have := ih.len.1; omega, by show 1 ≤ _ + 1; omega⟩, fun b' h _ => h, fun p => ?_⟩
        rw [mem_fo, mem_fo, ih.mem p]
        constructor
        · rintro (⟨q, hq, rfl⟩ | rfl | ⟨h, h'⟩)
          · exact .inr ⟨.inl ⟨q, hq, rfl⟩, fun e => by injection e with e _; exact hc e.symm⟩
          · exact .inl rfl
          · exact .inr ⟨.inr h, h'⟩
        · rintro (rfl | ⟨h | h, h'⟩)
          · exact .inr (.inl rfl)
          · exact .inl h
          · exact .inr (.inr ⟨h, h'⟩)
theorem tput_ok (hx : wfN o x k) (hk : k.wf o) (hg : tgood x k) (v : Int) (l : List UInt8) : PutT o v x k l (tput o v x k l) := tputW_ok hx hk hg (fun c l => Fo.puts_ok hk hg.2 c l) l
end
end Go.Proofs.YtajpipaooaemdaaGreatDoor

namespace Go.Proofs.YtajpipaooaemdaaGreatDoor
open Go.RowKit

theorem riseK_same : ∀ {a b : List KV}, Rise a → Rise b → (∀ x, x ∈ a ↔ x ∈ b) → a = b
  | [], [], _, _, _ => rfl
  | [], y :: b, _, _, h => by have := (h y).2 (by simp); cases this
  | x :: a, [], _, _, h => by have := (h x).1 (by simp); cases this
  | x :: a, y :: b, ha, hb, h => by
    obtain ⟨a1, a2⟩ := List.pairwise_cons.1 ha
    obtain ⟨b1, b2⟩ := List.pairwise_cons.1 hb
    have hxy : x = y := by
      rcases List.mem_cons.1 ((h x).1 (by simp)) with e | q
      · exact e
      · rcases List.mem_cons.1 ((h y).2 (by simp)) with e | q2
        · exact e.symm
        · exact absurd (lt_trans (a1 y q2) (b1 x q)) (lt_irr x.1)
    subst hxy
    rw [riseK_same a2 b2 fun z => ⟨fun hz => ?_, fun hz => ?_⟩]
    · rcases List.mem_cons.1 ((h z).1 (by simp [hz])) with e | q
      · subst e; exact absurd (a1 _ hz) (lt_irr _)
      · exact q
    · rcases List.mem_cons.1 ((h z).2 (by simp [hz])) with e | q
      · subst e; exact absurd (b1 _ hz) (lt_irr _)
      · exact q
theorem drop_atK {α : Type} {l : List α} {k : Nat} {a : α} (h : l[k]? = some a) : l.drop k = a :: l.drop (k + 1) := by
  obtain ⟨hq, e⟩ := List.getElem?_eq_some_iff.1 h
  rw [List.drop_eq_getElem_cons hq, e]
theorem insS_mem {ps : List PV} (h : Rsn ps) (x : PV) : MemP (ps.map kvP) ((insS x ps).map kvP) x.key x.val := by
  obtain ⟨s1, s2⟩ := posS_split x.key ps
  obtain ⟨j, hj⟩ : ∃ j, posS x.key ps = j := ⟨_, rfl⟩
  have hlt : ∀ y ∈ ps.take j, y.key ≠ x.key := fun y hy e => by
    have := s1 y (by rw [hj]; exact hy)
    rw [e] at this
    exact lt_irr _ this
  have far : (∀ y ∈ ps.drop j, y.key ≠ x.key) → MemP (ps.map kvP) ((ps.take j ++ x :: ps.drop j).map kvP) x.key x.val := fun hd p => by
    have hm : p ∈ ps.map kvP ↔ p ∈ (ps.take j).map kvP ∨ p ∈ (ps.drop j).map kvP := by
      rw [← List.mem_append, ← List.map_append, List.take_append_drop]
    have hne : p ∈ ps.map kvP → p.1 ≠ x.key := fun hp => by
      rcases hm.1 hp with q | q
      · obtain ⟨y, hy, rfl⟩ := List.mem_map.1 q
        exact hlt y hy
      · obtain ⟨y, hy, rfl⟩ := List.mem_map.1 q
        exact hd y hy
    rw [List.map_append, List.map_cons, List.mem_append, List.mem_cons]
    constructor
    · rintro (q | rfl | q)
      · exact .inr ⟨hm.2 (.inl q), hne (hm.2 (.inl q))⟩
      · exact .inl rfl
      · exact .inr ⟨hm.2 (.inr q), hne (hm.2 (.inr q))⟩
    · rintro (rfl | ⟨q, _⟩)
      · exact .inr (.inl rfl)
      · rcases hm.1 q with z | z
        · exact .inl z
        · exact .inr (.inr z)
  unfold insS
  rw [hj] at s1 s2 ⊢
  rcases hy : ps[j]? with _ | y
  · dsimp only
    refine far fun y hy2 => ?_
    have : ps.length ≤ j := List.getElem?_eq_none_iff.1 hy
    rw [List.drop_of_length_le this] at hy2
    cases hy2
  · dsimp only
    have hyl := (List.getElem?_eq_some_iff.1 hy).1
    have hdr := drop_atK hy
    have hs : Rsn (ps.drop j) := h.drop
    rw [hdr] at hs
    obtain ⟨t1, _⟩ := List.pairwise_cons.1 hs
    by_cases he : y.key = x.key
    · rw [if_pos he]
      have hset : ps.set j ⟨y.A, y.n, y.c, y.key, x.val⟩ = ps.take j ++ ⟨y.A, y.n, y.c, y.key, x.val⟩ :: ps.drop (j + 1) := by
        rw [List.set_eq_take_append_cons_drop, if_pos hyl]
      rw [hset]
      intro p
      have hps : ps = ps.take j ++ y :: ps.drop (j + 1) := by rw [← hdr, List.take_append_drop]
      have hm : p ∈ ps.map kvP ↔ p ∈ (ps.take j).map kvP ∨ p = kvP y ∨ p ∈ (ps.drop (j + 1)).map kvP := by
        conv => lhs; rw [hps]
        rw [List.map_append, List.map_cons, List.mem_append, List.mem_cons]
      rw [List.map_append, List.map_cons, List.mem_append, List.mem_cons]
      have n1 : p ∈ (ps.take j).map kvP → p.1 ≠ x.key := fun q => by
        obtain ⟨z, hz, rfl⟩ := List.mem_map.1 q
        exact hlt z hz
      have n2 : p ∈ (ps.drop (j + 1)).map kvP → p.1 ≠ x.key := fun q e => by
        obtain ⟨z, hz, rfl⟩ := List.mem_map.1 q
        have h2 := t1 z hz
        have e2 : z.key = x.key := e
        rw [he, e2] at h2
        exact lt_irr _ h2
      constructor
      · rintro (q | q | q)
        · exact .inr ⟨hm.2 (.inl q), n1 q⟩
        · refine .inl ?_
          rw [q]
          show (y.key, x.val) = _
          rw [he]
        · exact .inr ⟨hm.2 (.inr (.inr q)), n2 q⟩
      · rintro (rfl | ⟨q, q2⟩)
        · exact .inr (.inl (by show _ = (y.key, x.val); rw [he]))
        · rcases hm.1 q with z | rfl | z
          · exact .inl z
          · exact absurd he q2
          · exact .inr (.inr z)
    · rw [if_neg he]
      refine far fun z hz e => ?_
      rw [hdr] at hz
      rcases List.mem_cons.1 hz with rfl | hz
      · exact he e
      · have h1 := t1 z hz
        rw [e] at h1
        exact s2 y hy h1
/-- The pairs of what comes out. -/
theorem put_list {o : Int} {x : Nn} {k : Fo} (hx : wfN o x k) (hk : k.wf o) (hg : tgood x k) {ps : List PV} (hr : Rsn ps) (hL : tlist x k [] = ps.map kvP) (p : PV) : tlist (tput o p.val x k p.key).1 (tput o p.val x k p.key).2 [] = (insS p ps).map kvP := by
  have h := tput_ok hx hk hg p.val p.key
  have hm := insS_mem hr p
  refine riseK_same (tree_rise h.wf (Fo.rise h.wf)) (by unfold Rise; rw [List.pairwise_map]; exact insS_rise hr) fun q => ?_
  rw [h.mem q, hm q, hL]

/-- The same tree, all of it one owner's. -/
def Nn.by (o : Int) (x : Nn) : Nn := ⟨x.leaf, o, x.part, x.val, x.has⟩
def Fo.by (o : Int) : Fo → Fo
  | .nil => .nil
  | .cons b x k r => .cons b (x.by o) (k.by o) (r.by o)
abbrev byT (o : Int) (T : Nn × Fo) : Nn × Fo := (T.1.by o, T.2.by o)
theorem Fo.by_len (o : Int) : ∀ f : Fo, (f.by o).len = f.len
  | .nil => rfl
  | .cons b x k r => by rw [Fo.by, Fo.len, Fo.len, Fo.by_len o r]
theorem Fo.by_list (o : Int) : ∀ (f : Fo) (w : List UInt8), (f.by o).list w = f.list w
  | .nil, _ => rfl
  | .cons b x k r, w => by
    rw [Fo.by, Fo.list, Fo.list]
    rw [Fo.by_list o k, Fo.by_list o r]
    rfl
theorem by_tlist (o : Int) (x : Nn) (k : Fo) (w : List UInt8) : tlist (x.by o) (k.by o) w = tlist x k w := by
  unfold tlist
  rw [Fo.by_list]
  rfl
theorem by_okN (o : Int) (x : Nn) (k : Fo) : okN (x.by o) (k.by o) ↔ okN x k := by
  unfold okN
  rw [Fo.by_len]
  show (if x.leaf = true then _ else _) ↔ _
  split
  · refine and_congr ?_ Iff.rfl
    cases k <;> simp [Fo.by]
  · exact Iff.rfl
theorem Fo.by_good (o : Int) : ∀ f : Fo, (f.by o).good ↔ f.good
  | .nil => Iff.rfl
  | .cons b x k r => by
    rw [Fo.by, Fo.good, Fo.good, by_okN, Fo.by_good o k, Fo.by_good o r]
theorem by_tgood (o : Int) (x : Nn) (k : Fo) : tgood (x.by o) (k.by o) ↔ tgood x k := by
  unfold tgood
  rw [by_okN, Fo.by_good]
theorem by_two (o : Int) (b : UInt8) (x : Nn) (k : Fo) (d : UInt8) (y : Nn) : (twoK b x k d y).by o = twoK b (x.by o) (k.by o) d (y.by o) := by
  unfold twoK
  split <;> rfl
theorem by_putW (o v : Int) {K K' : UInt8 → List UInt8 → Fo} (x : Nn) (k : Fo) (hK : ∀ c l, (K c l).by o = K' c l) (l : List UInt8) : byT o (tputW o v K x k l) = tputW o v K' (x.by o) (k.by o) l := by
  unfold tputW
  have e : (x.by o).part = x.part := rfl
  rw [e]
  rcases x.part.drop (lcp l x.part) with _ | ⟨b, pt⟩
  · rcases l.drop (lcp l x.part) with _ | ⟨d, lr⟩
    · rfl
    · show byT o (if x.leaf = true then _ else _) = if x.leaf = true then _ else _
      split
      · rfl
      · show (_, (K d lr).by o) = _
        rw [hK]
        rfl
  · rcases l.drop (lcp l x.part) with _ | ⟨d, lr⟩
    · rfl
    · show (_, (twoK b _ k d _).by o) = _
      rw [by_two]
      rfl
theorem Fo.by_puts (o v : Int) : ∀ (f : Fo) (c : UInt8) (l : List UInt8), (f.puts o v c l).by o = (f.by o).puts o v c l
  | .nil, _, _ => rfl
  | .cons b x k r, c, l => by
    have h := by_putW o v x k (fun c l => Fo.by_puts o v k c l) l
    rw [Fo.puts, Fo.by, Fo.puts]
    split
    · rw [← h]
      rfl
    · split
      · rfl
      · rw [Fo.by, Fo.by_puts o v r]
theorem by_put (o v : Int) (x : Nn) (k : Fo) (l : List UInt8) : byT o (tput o v x k l) = tput o v (x.by o) (k.by o) l := by_putW o v x k (fun c l => Fo.by_puts o v k c l) l
/-- A tree that is well made and good, whoever owns its nodes, with just these pairs: the canonical one of them. -/
structure Can (ps : List PV) (T : Nn × Fo) : Prop where
  top : wfN 1 (T.1.by 1) (T.2.by 1)
  wf : (T.2.by 1).wf 1
  good : tgood T.1 T.2
  list : tlist T.1 T.2 [] = ps.map kvP
theorem Can.is_ {ps : List PV} {T : Nn × Fo} (h : Can ps T) (f : Nat) (hf : ∀ p ∈ ps, p.key.length < f) : cT 1 f (ps.map kvP) = byT 1 T := by
  have := canon_is h.top h.wf ((by_tgood 1 T.1 T.2).2 h.good) f (by
    rw [by_tlist, h.list]
    intro q hq
    obtain ⟨p, hp, rfl⟩ := List.mem_map.1 hq
    exact hf p hp)
  rwa [by_tlist, h.list] at this
theorem Nn.by_by (o o' : Int) (x : Nn) : (x.by o).by o' = x.by o' := rfl
theorem Fo.by_by (o o' : Int) : ∀ f : Fo, (f.by o).by o' = f.by o'
  | .nil => rfl
  | .cons b x k r => by rw [Fo.by, Fo.by, Fo.by_by o o' k, Fo.by_by o o' r]; rfl
/-- Owners in an owner's place. -/
theorem wf_by {o o' : Int} : ∀ {f : Fo}, f.wf o → (f.by o').wf o'
  | .nil, _ => trivial
  | .cons b x k r, ⟨h1, h2, h3, h4⟩ => by
    refine ⟨?_, ⟨fun h => ?_, h2.2.1, rfl⟩, wf_by h3, wf_by h4⟩
    · cases r with
      | nil => trivial
      | cons _ _ _ _ => exact h1
    · obtain ⟨rfl, q⟩ := h2.1 h
      exact ⟨rfl, q⟩
theorem wfN_by {o o' : Int} {x : Nn} {k : Fo} (h : wfN o x k) : wfN o' (x.by o') (k.by o') := ⟨fun q => by
  obtain ⟨rfl, z⟩ := h.1 q
  exact ⟨rfl, z⟩, h.2.1, rfl⟩
theorem Can.put {ps : List PV} {T : Nn × Fo} (h : Can ps T) (hr : Rsn ps) (o : Int) (p : PV) : Can (insS p ps) (tput o p.val T.1 T.2 p.key) := by
  have hx : wfN o (T.1.by o) (T.2.by o) := by
    have := wfN_by (o' := o) h.top
    rwa [Nn.by_by, Fo.by_by] at this
  have hk : (T.2.by o).wf o := by
    have := wf_by (o' := o) h.wf
    rwa [Fo.by_by] at this
  have hg := (by_tgood o T.1 T.2).2 h.good
  have hl : tlist (T.1.by o) (T.2.by o) [] = ps.map kvP := by rw [by_tlist]; exact h.list
  have h1 := tput_ok hx hk hg p.val p.key
  have h2 := put_list hx hk hg hr hl p
  rw [← by_put] at h1 h2
  rw [by_tlist] at h2
  refine ⟨?_, ?_, (by_tgood o _ _).1 h1.good, h2⟩
  · have := wfN_by (o' := 1) h1.top
    rwa [Nn.by_by, Fo.by_by] at this
  · have := wf_by (o' := 1) h1.wf
    rwa [Fo.by_by] at this
theorem Can.leaf (o : Int) (p : PV) : Can [p] (lfP o p.val p.key, .nil) :=
  ⟨⟨fun _ => ⟨rfl, rfl⟩, fun h => (by cases h), rfl⟩, trivial, ⟨lfP_ok o p.val p.key, trivial⟩, by simp [tlist, lfP, Fo.list]⟩
end Go.Proofs.YtajpipaooaemdaaGreatDoor

namespace Go.Proofs.YtajpipaooaemdaaGreatDoor
open Go.RowKit

section
variable {o v : Int} {x : Nn} {k : Fo} {l : List UInt8}
/-- A way is one of the five. -/
theorem part_end : x.part.drop (lcp l x.part) = [] ↔ x.part <+: l := by
  constructor
  · intro h
    have h1 := lcp_takes l x.part
    have h2 : x.part.take (lcp l x.part) = x.part := by
      conv => rhs; rw [← List.take_append_drop (lcp l x.part) x.part, h, List.append_nil]
    rw [h2] at h1
    rw [h1]
    exact List.take_prefix _ _
  · rintro ⟨t, rfl⟩
    have : ∀ m : List UInt8, lcp (m ++ t) m = m.length := by
      intro m
      induction m with
      | nil => cases t <;> rfl
      | cons a q ih =>
        show lcp (a :: (q ++ t)) (a :: q) = _
        rw [lcp, if_pos rfl, ih]
        rfl
    rw [this]
    exact List.drop_length ..
end
/-- A tree with a pair: what it is, if it has that already. -/
def tputs (o v : Int) (T : Nn × Fo) (l : List UInt8) : Nn × Fo := if (l, v) ∈ tlist T.1 T.2 [] then T else tput o v T.1 T.2 l
theorem rise_one : ∀ {L : List KV}, Rise L → ∀ {p q : KV}, p ∈ L → q ∈ L → p.1 = q.1 → p = q
  | x :: L, h, p, q, hp, hq, e => by
    obtain ⟨h1, h2⟩ := List.pairwise_cons.1 h
    rcases List.mem_cons.1 hp with rfl | hp' <;> rcases List.mem_cons.1 hq with rfl | hq'
    · rfl
    · have := h1 q hq'
      rw [e] at this
      exact absurd this (lt_irr _)
    · have := h1 p hp'
      rw [e] at this
      exact absurd this (lt_irr _)
    · exact rise_one h2 hp' hq' e
theorem ins_has {ps : List PV} (hr : Rsn ps) {p : PV} (h : (p.key, p.val) ∈ ps.map kvP) : (insS p ps).map kvP = ps.map kvP := by
  have hm := insS_mem hr p
  refine riseK_same (by unfold Rise; rw [List.pairwise_map]; exact insS_rise hr) (by unfold Rise; rw [List.pairwise_map]; exact hr) fun q => ?_
  rw [hm q]
  constructor
  · rintro (rfl | ⟨q1, _⟩)
    · exact h
    · exact q1
  · intro hq
    by_cases e : q.1 = p.key
    · left
      have hR : Rise (ps.map kvP) := by unfold Rise; rw [List.pairwise_map]; exact hr
      exact rise_one hR hq h e
    · exact .inr ⟨hq, e⟩
theorem Can.same {ps qs : List PV} {T : Nn × Fo} (h : Can ps T) (e : qs.map kvP = ps.map kvP) : Can qs T := ⟨h.top, h.wf, h.good, by rw [h.list, e]⟩
theorem Can.puts {ps : List PV} {T : Nn × Fo} (h : Can ps T) (hr : Rsn ps) (o : Int) (p : PV) : Can (insS p ps) (tputs o p.val T p.key) := by
  unfold tputs
  by_cases hc : (p.key, p.val) ∈ tlist T.1 T.2 []
  · rw [if_pos hc]
    exact h.same (ins_has hr (by rwa [h.list] at hc))
  · rw [if_neg hc]
    exact h.put hr o p
/-- All owners of a forest's nodes are such. -/
def Fo.all (P : Int → Prop) : Fo → Prop
  | .nil => True
  | .cons _ x k r => P x.ow ∧ k.all P ∧ r.all P
abbrev allT (P : Int → Prop) (T : Nn × Fo) : Prop := P T.1.ow ∧ T.2.all P
theorem Fo.wf_all {o : Int} : ∀ {f : Fo}, f.wf o → f.all (fun q => q = o)
  | .nil, _ => trivial
  | .cons _ _ _ _, ⟨_, h2, h3, h4⟩ => ⟨h2.2.2, Fo.wf_all h3, Fo.wf_all h4⟩
/-- How many of the nodes that are gone into are not the owner's. -/
def Fo.ways (o : Int) : Fo → UInt8 → List UInt8 → Nat
  | .nil, _, _ => 0
  | .cons b x k r, c, l =>
    if b = c then (if x.ow = o then 0 else 1) + (if begB l x.part = true then (match l.drop x.part.length with
      | [] => 0
      | c' :: l' => k.ways o c' l') else 0)
    else r.ways o c l
def tway (o : Int) (x : Nn) (k : Fo) (l : List UInt8) : Nat := (if x.ow = o then 0 else 1) + (if begB l x.part = true then (match l.drop x.part.length with
  | [] => 0
  | c' :: l' => k.ways o c' l') else 0)
def oway (o : Int) : Option (Nn × Fo) → List UInt8 → Nat
  | none, _ => 0
  | some t, l => tway o t.1 t.2 l
/-- The canonical tree of pairs, or nothing of none. -/
def OCan (ps : List PV) : Option (Nn × Fo) → Prop
  | none => ps = []
  | some T => Can ps T
def oputs (o v : Int) : Option (Nn × Fo) → List UInt8 → Nn × Fo
  | none, l => (lfP o v l, .nil)
  | some T, l => tputs o v T l
def oall (P : Int → Prop) : Option (Nn × Fo) → Prop
  | none => True
  | some T => allT P T
theorem OCan.list {ps : List PV} {t : Option (Nn × Fo)} (h : OCan ps t) : olist t = ps.map kvP := by
  cases t with
  | none =>
    obtain rfl : ps = [] := h
    rfl
  | some T => exact Can.list h
theorem OCan.puts {ps : List PV} {t : Option (Nn × Fo)} (h : OCan ps t) (hr : Rsn ps) (o : Int) (p : PV) : Can (insS p ps) (oputs o p.val t p.key) := by
  cases t with
  | none =>
    obtain rfl : ps = [] := h
    exact Can.leaf o p
  | some T => exact Can.puts h hr o p
/-- Pairs put one behind the other, the i-th one by the owner f i. -/
def wayT (f : Nat → Int) (ps : List PV) : Nat → Option (Nn × Fo)
  | 0 => none
  | i + 1 => match ps[i]? with
    | some p => some (oputs (f i) p.val (wayT f ps i) p.key)
    | none => wayT f ps i
end Go.Proofs.YtajpipaooaemdaaGreatDoor

namespace Go.Proofs.YtajpipaooaemdaaGreatDoor
open Go.RowKit

theorem Fo.sh_by (o : Int) : ∀ f : Fo, (f.by o).sh = f.sh
  | .nil => rfl
  | .cons b x k r => by
    rw [Fo.by, Fo.sh, Fo.sh, Fo.sh_by o k, Fo.sh_by o r, Fo.by_len]
    rfl
theorem shL_by (o : Int) (x : Nn) (k : Fo) : shL (x.by o) (k.by o) = shL x k := by
  unfold shL
  rw [Fo.sh_by, Fo.by_len]
  rfl
theorem Fo.ok_by (o : Int) : ∀ {f : Fo}, (f.by o).ok → f.ok
  | .nil, _ => trivial
  | .cons _ _ _ _, ⟨h1, h2, h3⟩ => ⟨h1, Fo.ok_by o h2, Fo.ok_by o h3⟩
theorem lfN_by (o : Int) {x : Nn} {k : Fo} (h : lfN (x.by o) (k.by o)) : lfN x k := fun q => by
  obtain ⟨h1, h2⟩ := h q
  refine ⟨?_, h2⟩
  cases k with
  | nil => rfl
  | cons _ _ _ _ => cases h1
theorem Fo.lf_by (o : Int) : ∀ {f : Fo}, (f.by o).lf → f.lf
  | .nil, _ => trivial
  | .cons _ _ _ _, ⟨h1, h2, h3⟩ => ⟨lfN_by o h1, Fo.lf_by o h2, Fo.lf_by o h3⟩
section
variable {ps : List PV} {T : Nn × Fo}
theorem Can.f (h : Can ps T) : CanF (ps.map kvP) T := ⟨h.list, h.good⟩
/-- The document's tree of the same pairs has the same shape. -/
theorem Can.sh (h : Can ps T) (f : Nat) (hf : ∀ p ∈ ps, p.key.length < f) : oshL (bTr 1 f (rel 0 ps)) = oshL (some T) := by
  have hne : rel 0 ps ≠ [] := by
    rw [rel_zero]
    intro e
    have h1 := h.f.points
    have h2 : (ps.map kvP).length = 0 := congrArg List.length e
    omega
  have h3 : rel 0 ps = ps.map kvP := rel_zero ps
  unfold bTr
  rw [if_neg hne, h3, h.is_ f hf]
  exact shL_by 1 T.1 T.2
theorem Can.o (h : Can ps T) (hk : ∀ p ∈ ps, p.key.length ≤ 600) (hn : ps.length ≤ 300) (hv : ∀ p ∈ ps, 0 ≤ p.val ∧ p.val ≤ 18446744073709551615) : CanO ps (some T) := by
  have hM : ∀ p ∈ ps.map kvP, p.1.length ≤ 600 := fun p hp => by obtain ⟨q, hq, rfl⟩ := List.mem_map.1 hp; exact hk q hq
  have hc := h.f
  have hok := cT_ok 1 601 (ps.map kvP) (fun p hp => by
    obtain ⟨q, hq, rfl⟩ := List.mem_map.1 hp
    exact ⟨by have := hk q hq; show q.key.length ≤ _; omega, hv q hq⟩)
  rw [h.is_ 601 (fun p hp => by have := hk p hp; omega)] at hok
  have o1 : T.1.ok := hok.1
  have o2 : T.2.ok := Fo.ok_by 1 hok.2
  have h1 := hc.points
  have h2 := hc.nodes
  have hct := hc.count
  rw [List.length_map] at h1 h2 hct
  have hd := hc.depth (M := 600) hM
  have htn : 1 + T.2.tn ≤ 600 := by unfold tnT at h2; omega
  have hsl := oshL_len o1 o2 (m := 600) htn
  exact ⟨hc.fits (fun p hp => by have := hM p hp; omega) (by rw [List.length_map]; omega), ⟨o1, o2⟩, ⟨lfN_by 1 h.top.1, Fo.lf_by 1 (Fo.wf_lf h.wf)⟩, by
    refine Nat.le_trans hsl ?_
    omega, by show tnT _ ≤ 1000; unfold tnT; omega, hct, hc.listed, hc.fine (fun p hp => by have := hM p hp; omega), by omega⟩
end
theorem OCan.sh {ps : List PV} {t : Option (Nn × Fo)} (h : OCan ps t) (f : Nat) (hf : ∀ p ∈ ps, p.key.length < f) : oshL (bTr 1 f (rel 0 ps)) = oshL t := by
  cases t with
  | none =>
    obtain rfl : ps = [] := h
    rfl
  | some T => exact Can.sh h f hf
theorem OCan.o {ps : List PV} {t : Option (Nn × Fo)} (h : OCan ps t) (hk : ∀ p ∈ ps, p.key.length ≤ 600) (hn : ps.length ≤ 300) (hv : ∀ p ∈ ps, 0 ≤ p.val ∧ p.val ≤ 18446744073709551615) : CanO ps t := by
  cases t with
  | none =>
    obtain rfl : ps = [] := h
    exact can_o (ps := []) List.Pairwise.nil (fun p hp => by cases hp) (Nat.zero_le _) (fun p hp => by cases hp)
  | some T => exact Can.o h hk hn hv
end Go.Proofs.YtajpipaooaemdaaGreatDoor

namespace Go.Proofs.YtajpipaooaemdaaGreatDoor
open Go.RowKit

def alQ : Nn × Fo := (⟨false, 4, [1], 0, false⟩, .cons 2 ⟨true, 4, [], 5, true⟩ .nil (.cons 4 ⟨true, 4, [], 6, true⟩ .nil .nil))
end Go.Proofs.YtajpipaooaemdaaGreatDoor
