/-
  Where a tree stands on the way of a put: what it is, whose blocks, what was counted; a node's part with its room.
  What is left of a canonical tree's top node, when it has another value, or none, and some of its kids: the canonical tree of those pairs, or nothing. No program is run.
  A new node over kids that stay as they are, whoever owns them: a copy of a node, or one that is made; its part, its value and its kids are set.
-/
import Derived.Test.YtajpipaooaemdaaGreatDoorPutG
import Derived.Test.YtajpipaooaemdaaGreatDoorTowW
import Derived.Deep.RegionHeld3
import Derived.Deep.DeepCutAuto
import Derived.Test.YtajpipaooaemdaaGreatDoorDelP
namespace Go.Proofs.YtajpipaooaemdaaGreatDoor
open Go.RowKit Go.Shelf
attribute [local go_sem] Oper.semAt_some

/-- Where a tree stands that was w0's: what it is now, whose blocks, how many nodes were made for it. -/
structure Std (w0 w1 : World) (o : Int) (S D : Nat → Prop) (m : Option Nat) (rest : List Value) (cnt : Int) (x : Nn) (k : Fo) (u : Nat) (D1 : Nat → Prop) (j : Nat) : Prop where
  tow : TOw w1 o S x k u D1
  sub : ∀ i, D1 i → D i ∨ w0.heap.size ≤ i
  kept : Kept (fun i => D i ∨ m = some i) w0 w1
  num : ∀ q, m = some q → Lst w1 q (.int .i64 (cnt + (j : Nat)) :: rest)
/-- What holds ahead of a put below a tree. -/
structure Pre (w : World) (o : Int) (S D : Nat → Prop) (m : Option Nat) (rest : List Value) (cnt : Int) (j : Nat) : Prop where
  pos : 1 ≤ o
  far : ∀ i, S i → ¬ D i ∧ i < w.heap.size
  mt : Mt w m rest cnt
  off : ∀ i, m = some i → ¬ S i ∧ ¬ D i
  few : cnt + (j : Nat) ≤ 9223372036854775806
theorem Kept.thru {D D' : Nat → Prop} {a b w : World} (h : Kept D a b) (k : Kept D' b w) (hd : ∀ i, i < a.heap.size → D' i → D i) : Kept D a w :=
  ⟨k.os.trans h.os, k.tape.trans h.tape, k.output.trans h.output, Nat.le_trans h.size k.size, fun i hi hn => (k.block i (Nat.lt_of_lt_of_le hi h.size) (fun q => hn (hd i hi q))).trans (h.block i hi hn)⟩
section
variable {w w1 w2 : World} {o : Int} {S D D1 : Nat → Prop} {m : Option Nat} {rest : List Value} {cnt : Int} {x : Nn} {k : Fo} {u j i : Nat}
theorem Pre.lt (h : Pre w o S D m rest cnt j) {i : Nat} (hi : m = some i) : i < w.heap.size := h.mt.lt hi
theorem Pre.ne (h : Pre w o S D m rest cnt j) : o ≠ 0 := by have := h.pos; omega
/-- The same further on. -/
theorem Pre.on (h : Pre w o S D m rest cnt j) (hs : Std w w1 o S D m rest cnt x k u D1 i) (hi : i ≤ j) : Pre w1 o S D1 m rest (cnt + (i : Nat)) (j - i) := by
  refine ⟨h.pos, fun q hq => ⟨fun z => ?_, Nat.lt_of_lt_of_le (h.far q hq).2 hs.kept.size⟩, fun q hq => ⟨hs.num q hq, ?_, ?_⟩, fun q hq => ⟨(h.off q hq).1, fun z => ?_⟩, ?_⟩
  · rcases hs.sub q z with y | y
    · exact (h.far q hq).1 y
    · have := (h.far q hq).2
      omega
  · have := (h.mt q hq).2.1
    omega
  · have := h.few
    omega
  · rcases hs.sub q z with y | y
    · exact (h.off q hq).2 y
    · have := h.lt hq
      omega
  · have := h.few
    omega
/-- One behind the other. -/
theorem Std.trans {x' : Nn} {k' : Fo} {u' i' : Nat} {D2 : Nat → Prop} (h : Std w w1 o S D m rest cnt x k u D1 i) (h2 : Std w1 w2 o S D1 m rest (cnt + (i : Nat)) x' k' u' D2 i') : Std w w2 o S D m rest cnt x' k' u' D2 (i + i') := by
  have hz := h.kept.size
  refine ⟨h2.tow, fun q hq => ?_, h.kept.thru h2.kept (fun q hq z => ?_), fun q hq => ?_⟩
  · rcases h2.sub q hq with y | y
    · exact h.sub q y
    · exact .inr (by omega)
  · rcases z with z | z
    · rcases h.sub q z with y | y
      · exact .inl y
      · omega
    · exact .inr z
  · have := h2.num q hq
    rw [show cnt + ((i + i' : Nat) : Int) = cnt + (i : Nat) + (i' : Nat) by omega]
    exact this
theorem Std.start (h : Pre w o S D m rest cnt j) (ht : TOw w o S x k u D) : Std w w o S D m rest cnt x k u D 0 :=
  ⟨ht, fun _ q => .inl q, Kept.refl _ _, fun q hq => by have := (h.mt q hq).1; simpa using this⟩
/-- New blocks elsewhere: nothing of it is touched. -/
theorem Std.below (h : Std w w1 o S D m rest cnt x k u D1 i) (hp : Pre w o S D m rest cnt j) (hb : Below w1.heap.size w1 w2) : Std w w2 o S D m rest cnt x k u (fun q => D1 q ∧ q < w1.heap.size) i := by
  have hz := h.kept.size
  have hk : Kept (fun q => w1.heap.size ≤ q) w1 w2 := Kept.of_below hb
  refine ⟨h.tow.there.kept hk (fun q hq y => by have := (hp.far q hq).2; omega) (fun q hq y => by have := hq.2; omega), fun q hq => h.sub q hq.1, h.kept.thru hk (fun q hq z => by omega), fun q hq => hk.blk (h.num q hq) (fun y => by have := hp.lt hq; omega)⟩
theorem Std.mono {D2 : Nat → Prop} (h : Std w w1 o S D m rest cnt x k u D1 i) (hd : ∀ q, D q → D2 q) : Std w w1 o S D2 m rest cnt x k u D1 i :=
  ⟨h.tow, fun q hq => (h.sub q hq).imp (hd q) id, h.kept.mono (fun q z => z.imp (hd q) id), h.num⟩
/-- Seen from a world ahead of it. -/
theorem Std.from {w' : World} (h : Std w w1 o S D m rest cnt x k u D1 i) (hb : Below w'.heap.size w' w) : Std w' w1 o S D m rest cnt x k u D1 i := by
  have hz := hb.size
  exact ⟨h.tow, fun q hq => (h.sub q hq).imp id (fun y => by omega), (Kept.of_below hb).trans h.kept, h.num⟩
theorem Pre.below {w' : World} (h : Pre w o S D m rest cnt j) (hb : Below w.heap.size w w') : Pre w' o S D m rest cnt j := by
  have hz := hb.size
  exact ⟨h.pos, fun q hq => ⟨(h.far q hq).1, by have := (h.far q hq).2; omega⟩, h.mt.on hb, h.off, h.few⟩
theorem Pre.there (h : Pre w o S D m rest cnt j) : Pre w o S (fun i => D i ∧ i < w.heap.size) m rest cnt j :=
  ⟨h.pos, fun q hq => ⟨fun z => (h.far q hq).1 z.1, (h.far q hq).2⟩, h.mt, fun q hq => ⟨(h.off q hq).1, fun z => (h.off q hq).2 z.1⟩, h.few⟩
theorem Pre.less (h : Pre w o S D m rest cnt j) (hi : i ≤ j) : Pre w o S D m rest cnt i :=
  ⟨h.pos, h.far, h.mt, h.off, by have := h.few; omega⟩
/-- What who puts hands on: the value, himself, the meter. -/
abbrev cmV (v o : Int) (m : Option Nat) : Value := .agg #[.int .u64 v, .int .u64 o, mtr m]
set_option maxRecDepth 100000 in
/-- Own, told so. -/
theorem Std.own (hp : Pre w o S D m rest cnt j) (h : TOw w o S x k u D) :
    Calls Tryz.prog 72 #[.pointer (some ⟨u, 0, none⟩), mtr m, .int .u64 o] w fun e w' => ∃ u' D', e = .returned (.pointer (some ⟨u', 0, none⟩)) ∧ Std w w' o S D m rest cnt ⟨x.leaf, o, x.part, x.val, x.has⟩ k u' D' (if x.ow = o then 0 else 1) ∧ (x.ow = o → u' = u ∧ w' = w) := by
  refine (h.own hp.ne m cnt hp.mt (fun q hq => (hp.off q hq).1)).mono ?_
  rintro e w' ⟨u', D', rfl, h1, h2, h3, h4, h5⟩
  refine ⟨u', D', rfl, ⟨h1, h2, h3.mono (fun q z => .inr z), fun q hq => ?_⟩, h5⟩
  have := h4 q hq
  by_cases e : x.ow = o
  · rw [if_pos e] at this ⊢
    simpa using this
  · rw [if_neg e] at this ⊢
    simpa using this
end
end Go.Proofs.YtajpipaooaemdaaGreatDoor

namespace Go.Proofs.YtajpipaooaemdaaGreatDoor
open Go.RowKit

/-- Kids by some bytes alone. -/
def Fo.pick (P : UInt8 → Bool) : Fo → Fo
  | .nil => .nil
  | .cons b x k r => if P b = true then .cons b x k (r.pick P) else r.pick P
theorem above_less {b c : UInt8} (h : b.toNat < c.toNat) {f : Fo} (hf : f.above c) : f.above b := by
  cases f with
  | nil => trivial
  | cons b' _ _ _ =>
    have h1 : c.toNat < b'.toNat := hf
    show b.toNat < b'.toNat
    omega
theorem Fo.pick_above {o : Int} {P : UInt8 → Bool} : ∀ {f : Fo} {b : UInt8}, f.wf o → f.above b → (f.pick P).above b
  | .nil, _, _, h => h
  | .cons b' x k r, b, ⟨h1, _, _, h4⟩, h => by
    rw [Fo.pick]
    split
    · exact h
    · exact Fo.pick_above h4 (above_less h h1)
theorem Fo.pick_wf {o : Int} {P : UInt8 → Bool} : ∀ {f : Fo}, f.wf o → (f.pick P).wf o
  | .nil, _ => trivial
  | .cons b x k r, ⟨h1, h2, h3, h4⟩ => by
    rw [Fo.pick]
    split
    · exact ⟨Fo.pick_above h4 h1, h2, h3, Fo.pick_wf h4⟩
    · exact Fo.pick_wf h4
theorem Fo.pick_good {P : UInt8 → Bool} : ∀ {f : Fo}, f.good → (f.pick P).good
  | .nil, _ => trivial
  | .cons b x k r, ⟨h1, h2, h3⟩ => by
    rw [Fo.pick]
    split
    · exact ⟨h1, h2, Fo.pick_good h3⟩
    · exact Fo.pick_good h3
theorem Fo.pick_mem {P : UInt8 → Bool} : ∀ {f : Fo} (p : KV), p ∈ (f.pick P).list [] ↔ p ∈ f.list [] ∧ ∃ c t, p.1 = c :: t ∧ P c = true
  | .nil, p => ⟨fun h => (by cases h), fun h => (by cases h.1)⟩
  | .cons b x k r, p => by
    have ih := Fo.pick_mem (P := P) (f := r) p
    rw [Fo.pick]
    by_cases hb : P b = true
    · rw [if_pos hb, mem_fo, mem_fo, ih]
      constructor
      · rintro (⟨q, hq, rfl⟩ | ⟨h1, h2⟩)
        · exact ⟨.inl ⟨q, hq, rfl⟩, b, q.1, rfl, hb⟩
        · exact ⟨.inr h1, h2⟩
      · rintro ⟨h1 | h1, h2⟩
        · exact .inl h1
        · exact .inr ⟨h1, h2⟩
    · rw [if_neg hb, mem_fo, ih]
      constructor
      · rintro ⟨h1, h2⟩
        exact ⟨.inr h1, h2⟩
      · rintro ⟨⟨q, hq, rfl⟩ | h1, h2⟩
        · obtain ⟨c, t, e, hc⟩ := h2
          injection e with e _
          subst e
          exact absurd hc hb
        · exact ⟨h1, h2⟩
theorem Fo.pick_by (o : Int) {P : UInt8 → Bool} : ∀ f : Fo, (f.pick P).by o = (f.by o).pick P
  | .nil => rfl
  | .cons b x k r => by
    rw [Fo.pick, Fo.by, Fo.pick]
    split
    · rw [Fo.by, Fo.pick_by o r]
    · exact Fo.pick_by o r
/-- The byte behind a part. -/
def behB (part : List UInt8) (P : UInt8 → Bool) (l : List UInt8) : Bool := match l.drop part.length with
  | [] => false
  | c :: _ => P c
/-- The pairs that are left: one of the part itself, if there is a value, and those behind some bytes. -/
def leftS (v : Option PV) (part : List UInt8) (P : UInt8 → Bool) (ps : List PV) : List PV := v.toList ++ ps.filter fun p => behB part P p.key
theorem leftS_mem {v : Option PV} {part : List UInt8} {P : UInt8 → Bool} {ps : List PV} (p : KV) : p ∈ (leftS v part P ps).map kvP ↔ (∃ x, v = some x ∧ p = kvP x) ∨ (p ∈ ps.map kvP ∧ behB part P p.1 = true) := by
  unfold leftS
  rw [List.map_append, List.mem_append]
  refine or_congr ?_ ?_
  · cases v with
    | none => simp
    | some x => simp
  · simp only [List.mem_map, List.mem_filter]
    constructor
    · rintro ⟨q, ⟨h1, h2⟩, rfl⟩
      exact ⟨⟨q, h1, rfl⟩, h2⟩
    · rintro ⟨⟨q, h1, rfl⟩, h2⟩
      exact ⟨q, ⟨h1, h2⟩, rfl⟩
theorem lt_more (m : List UInt8) (c : UInt8) (t : List UInt8) : cmpL m (m ++ c :: t) < 0 := by
  induction m with
  | nil => simp [cmpL]
  | cons a m ih => rw [List.cons_append, lt_cons]; exact .inr ⟨rfl, ih⟩
theorem beh_split {part l : List UInt8} {P : UInt8 → Bool} (hb : part <+: l) (h : behB part P l = true) : ∃ c t, l = part ++ c :: t ∧ P c = true := by
  obtain ⟨s, rfl⟩ := hb
  unfold behB at h
  rw [List.drop_left] at h
  cases s with
  | nil => cases h
  | cons c t => exact ⟨c, t, rfl, h⟩
theorem leftS_rise {v : Option PV} {part : List UInt8} {P : UInt8 → Bool} {ps : List PV} (hr : Rsn ps) (hv : ∀ x, v = some x → x.key = part) (hp : ∀ p ∈ ps, part <+: p.key) : Rsn (leftS v part P ps) := by
  unfold leftS
  refine List.pairwise_append.2 ⟨?_, hr.sublist (List.filter_sublist ..), fun a ha b hb => ?_⟩
  · cases v with
    | none => exact List.Pairwise.nil
    | some x => exact List.pairwise_singleton ..
  · cases v with
    | none => cases ha
    | some x =>
      obtain rfl : a = x := by simpa using ha
      obtain ⟨h1, h2⟩ := List.mem_filter.1 hb
      obtain ⟨c, t, e, _⟩ := beh_split (hp b h1) h2
      rw [hv a rfl, e]
      exact lt_more part c t
/-- All keys of a tree begin with its part. -/
theorem tlist_begs {x : Nn} {k : Fo} : ∀ p ∈ tlist x k [], x.part <+: p.1 := fun p hp => by
  rcases mem_tlist.1 hp with ⟨_, rfl⟩ | ⟨q, _, rfl⟩
  · exact List.prefix_refl _
  · exact List.prefix_append _ _
theorem Can.left {ps : List PV} {T : Nn × Fo} (h : Can ps T) (hr : Rsn ps) (o : Int) (v : Option PV) (hv : ∀ x, v = some x → x.key = T.1.part) (P : UInt8 → Bool) {has : Bool} {val : Int} (hh : has = v.isSome) (hval : val = (v.map PV.val).getD 0) :
    OCan (leftS v T.1.part P ps) (tleft o ⟨false, o, T.1.part, val, has⟩ (T.2.pick P)) := by
  have hk : (T.2.by o).wf o := by
    have := wf_by (o' := o) h.wf
    rwa [Fo.by_by] at this
  have hg := ((by_tgood o T.1 T.2).2 h.good).2
  have hrl := leftS_rise (P := P) hr hv (fun p hp => by
    have := tlist_begs (x := T.1) (k := T.2) (kvP p) (by rw [h.list]; exact List.mem_map.2 ⟨p, hp, rfl⟩)
    exact this)
  have h1 := tleft_ok (o := o) (x := ⟨false, o, T.1.part, val, has⟩) (fun e => by
    cases v with
    | none => exact hval
    | some x => rw [hh] at e; cases e) (Fo.pick_wf (P := P) hk) (Fo.pick_good (P := P) hg)
  have e1 : tleft o ⟨false, o, T.1.part, val, has⟩ ((T.2.by o).pick P) = (tleft o ⟨false, o, T.1.part, val, has⟩ (T.2.pick P)).map (byT o) := by
    rw [by_left, Fo.pick_by]
    rfl
  rw [e1] at h1
  generalize tleft o ⟨false, o, T.1.part, val, has⟩ (T.2.pick P) = U at h1
  have hmem : ∀ p, p ∈ olist (U.map (byT o)) ↔ p ∈ (leftS v T.1.part P ps).map kvP := fun p => by
    rw [h1.mem p, leftS_mem, mem_tlist, ← h.list]
    dsimp only
    refine or_congr ?_ ?_
    · constructor
      · rintro ⟨e, rfl⟩
        cases v with
        | none => rw [hh] at e; cases e
        | some x =>
          refine ⟨x, rfl, ?_⟩
          show (_, val) = (x.key, x.val)
          rw [hv x rfl, hval]
          rfl
      · rintro ⟨x, rfl, rfl⟩
        refine ⟨hh, ?_⟩
        show (x.key, x.val) = (_, val)
        rw [hv x rfl, hval]
        rfl
    · constructor
      · rintro ⟨q, hq, rfl⟩
        obtain ⟨h2, c, t, e, hc⟩ := (Fo.pick_mem q).1 hq
        rw [Fo.by_list] at h2
        refine ⟨mem_tlist.2 (.inr ⟨q, h2, rfl⟩), ?_⟩
        unfold behB
        rw [List.drop_left, e]
        exact hc
      · rintro ⟨h2, h3⟩
        rcases mem_tlist.1 h2 with ⟨_, rfl⟩ | ⟨q, hq, rfl⟩
        · unfold behB at h3
          rw [List.drop_length] at h3
          cases h3
        · refine ⟨q, (Fo.pick_mem q).2 ⟨by rw [Fo.by_list]; exact hq, ?_⟩, rfl⟩
          unfold behB at h3
          rw [List.drop_left] at h3
          obtain ⟨q1, q2⟩ := q
          cases q1 with
          | nil => cases h3
          | cons c t => exact ⟨c, t, rfl, h3⟩
  cases U with
  | none =>
    have : (leftS v T.1.part P ps).map kvP = [] := List.eq_nil_iff_forall_not_mem.2 fun p hp => by
      have := (hmem p).2 hp
      cases this
    show leftS v T.1.part P ps = []
    simpa using this
  | some U =>
    obtain ⟨t1, t2, t3⟩ := h1.ok (byT o U) rfl
    have hr2 : Rise (tlist U.1 U.2 []) := by
      have := tree_rise t2 (x := U.1.by o) (Fo.rise t2)
      rwa [by_tlist] at this
    refine ⟨?_, ?_, (by_tgood o _ _).1 t3, ?_⟩
    · have := wfN_by (o' := 1) t1
      rwa [Nn.by_by, Fo.by_by] at this
    · have := wf_by (o' := 1) t2
      rwa [Fo.by_by] at this
    · refine riseK_same hr2 (by unfold Rise; rw [List.pairwise_map]; exact hrl) fun p => ?_
      rw [← hmem p]
      show p ∈ tlist U.1 U.2 [] ↔ p ∈ tlist (U.1.by o) (U.2.by o) []
      rw [by_tlist]
end Go.Proofs.YtajpipaooaemdaaGreatDoor

namespace Go.Proofs.YtajpipaooaemdaaGreatDoor
open Go.RowKit

/-- The node's own blocks lie in D, all else in S. -/
def Nin (w : World) (x : Nn) (k : Fo) (g : Nat) (S D : Nat → Prop) : Prop :=
  ∃ (be : Be) (A : Option Addr) (ek : List Ent), Nod w g (x.nd ek) be A ∧ (∀ i, be.all g i → D i) ∧ (∀ i, Pb A x.part i → S i ∨ D i) ∧ k.Is w S ek
section
variable {w w' : World} {o : Int} {S D D' : Nat → Prop} {x : Nn} {k : Fo} {g : Nat} {rest : List Value}
theorem Nin.tre (h : Nin w x k g S D) : Tre w (fun i => S i ∨ D i) x k g := by
  obtain ⟨be, A, ek, n, h1, h2, h3⟩ := h
  exact ⟨be, A, ek, n, fun i q => q.elim (fun z => .inr (h1 i z)) (h2 i), h3.mono (fun i q => .inl q)⟩
theorem Nin.mono (h : Nin w x k g S D) (hd : ∀ i, D i → D' i) : Nin w x k g S D' := by
  obtain ⟨be, A, ek, n, h1, h2, h3⟩ := h
  exact ⟨be, A, ek, n, fun i q => hd i (h1 i q), fun i q => (h2 i q).imp id (hd i), h3⟩
theorem Nin.there (h : Nin w x k g S D) : Nin w x k g S (fun i => D i ∧ i < w.heap.size) := by
  obtain ⟨be, A, ek, n, h1, h2, h3⟩ := h
  exact ⟨be, A, ek, n, fun i q => ⟨h1 i q, n.lt q⟩, fun i q => (h2 i q).imp id (fun z => ⟨z, n.ltA q⟩), h3⟩
theorem Nin.kept {N : Nat → Prop} (h : Nin w x k g S D) (hk : Kept N w w') (hS : ∀ i, S i → ¬ N i) (hD : ∀ i, D i → ¬ N i) : Nin w' x k g S D := by
  obtain ⟨be, A, ek, n, h1, h2, h3⟩ := h
  exact ⟨be, A, ek, n.kept hk (fun i q => q.elim (fun z => hD i (h1 i z)) (fun z => (h2 i z).elim (hS i) (hD i))), h1, h2, h3.kept hk hS⟩
theorem Nin.nod (h : Nin w x k g S D) : ∃ be A ek, Nod w g (x.nd ek) be A := by
  obtain ⟨be, A, ek, n, _⟩ := h
  exact ⟨be, A, ek, n⟩
set_option maxRecDepth 100000 in
/-- What a write to it leaves. -/
theorem Nin.wrote {x' : Nn} (h : Nin w x k g S D) (hSD : ∀ i, S i → ¬ D i) {f : FuncId} {args : Array Value} {r : Ending}
    (hc : ∀ be A ek, Nod w g (x.nd ek) be A → Calls Tryz.prog f args w fun e w' => e = r ∧ NdPost w w' g (x'.nd ek) be A x.part) :
    Calls Tryz.prog f args w fun e w' => e = r ∧ Nin w' x' k g S (fun i => D i ∨ w.heap.size ≤ i) ∧ Kept D w w' := by
  obtain ⟨be, A, ek, n, h1, h2, h3⟩ := h
  refine (hc be A ek n).mono ?_
  rintro e w' ⟨rfl, b', A', n', c1, c2, c3⟩
  refine ⟨rfl, ⟨b', A', ek, n', fun i hi => ?_, fun i hi => ?_, h3.kept c3 (fun i hi q => hSD i hi (h1 i q))⟩, c3.mono h1⟩
  · rcases hi with hi | hi
    · exact .inl (h1 i (.inl hi))
    · exact (c1 i hi).imp (fun z => h1 i (.inr z)) id
  · rcases c2 i hi with q | q
    · exact (h2 i q).imp id .inl
    · exact .inr (.inr q)
set_option maxRecDepth 100000 in
theorem Nin.setpart (h : Nin w x k g S D) (hx : x.ow = o) (ho : o ≠ 0) (hSD : ∀ i, S i → ¬ D i) {A' : Option Addr} {n c B : Nat} {l : List UInt8} (ha : Byt w B A' n l) (hB : B ≤ w.heap.size) (hn : n ≤ 140737488355328) :
    Calls Tryz.prog 52 #[.pointer (some ⟨g, 0, none⟩), .int .u64 o, .slice A' n c] w fun e w' => e = .returned (.int .i64 0) ∧ Nin w' ⟨x.leaf, o, l, x.val, x.has⟩ k g S (fun i => D i ∨ w.heap.size ≤ i) ∧ Kept D w w' := by
  refine Nin.wrote (x' := ⟨x.leaf, o, l, x.val, x.has⟩) h hSD fun be A ek nd => ?_
  have h1 := nsetpart_any nd o A' n c B l ha hB hn
  have hm : mineB (x.nd ek).ow o = true := mine_yes ho hx.symm
  have e1 : closN (x.nd ek) o = 0 := by unfold closN; rw [hm]; rfl
  have e2 : nSetPart (x.nd ek) o l = (⟨x.leaf, o, l, x.val, x.has⟩ : Nn).nd ek := by
    unfold nSetPart
    rw [hm]
    show ({ x.nd ek with part := l } : Nd) = _
    rw [← hx]
  rw [e1, e2] at h1
  exact h1
theorem Fo.Is.bytes {P : UInt8 → Prop} : ∀ {f : Fo} {es : List Ent}, f.Is w S es → f.All (fun b _ _ => P b) → ∀ e ∈ es, P e.1
  | .nil, _, h, _, e, he => by
    obtain rfl : _ = [] := h
    cases he
  | .cons b x k r, _, ⟨g, be, A, ek, er, e0, h1, h2, h3, h4⟩, ⟨a1, a2⟩, e, he => by
    subst e0
    rcases List.mem_cons.1 he with rfl | he
    · exact a1
    · exact Fo.Is.bytes h4 a2 e he
theorem Fo.Is.one_more {c : UInt8} {y : Nn} {l : Fo} {g' : Nat} (ht : Tre w S y l g') : ∀ {f : Fo} {es : List Ent}, f.Is w S es → (f.app (.cons c y l .nil)).Is w S (es ++ [(c, some ⟨g', 0, none⟩)])
  | .nil, _, h => by
    obtain rfl : _ = [] := h
    obtain ⟨be, A, ek, h1, h2, h3⟩ := ht
    exact ⟨g', be, A, ek, [], rfl, h1, h2, h3, rfl⟩
  | .cons b x k r, _, ⟨g, be, A, ek, er, e0, h1, h2, h3, h4⟩ => by
    subst e0
    exact ⟨g, be, A, ek, _, rfl, h1, h2, h3, Fo.Is.one_more ht h4⟩
set_option maxRecDepth 100000 in
/-- Another kid behind those that are there: it is a tree that stays as it is. -/
theorem Nin.setkid {y : Nn} {l : Fo} {g' : Nat} (h : Nin w x k g S D) (hx : x.ow = o) (ho : o ≠ 0) (hl : x.leaf = false) (hSD : ∀ i, S i → ¬ D i) (ht : Tre w S y l g') {c : UInt8} (hb : k.All (fun b _ _ => b.toNat < c.toNat)) (z : Int) (hz : z = (c.toNat : Int)) :
    Calls Tryz.prog 71 #[.pointer (some ⟨g, 0, none⟩), .int .u64 o, .int .u8 z, .pointer (some ⟨g', 0, none⟩)] w fun e w' => e = .returned (.int .i64 0) ∧ Nin w' x (k.app (.cons c y l .nil)) g S (fun i => D i ∨ w.heap.size ≤ i) ∧ Kept D w w' := by
  obtain ⟨be, A, ek, n, h1, h2, h3⟩ := h
  obtain ⟨be2, A2, ek2, n2, _, _⟩ := id ht
  have hm : mineB (x.nd ek).ow o = true := mine_yes ho hx.symm
  have h4 := nsetkid_any n o c z hz (some ⟨g', 0, none⟩) (fun a ha => by
    injection ha with ha
    subst ha
    exact ⟨isN y.leaf, by unfold isN; split <;> omega, what_any n2⟩)
  have e1 : setKN (x.nd ek) o (some ⟨g', 0, none⟩) = 0 := by
    unfold setKN
    rw [hm]
    show (if true = true then (if x.leaf = true then _ else _) else _) = _
    rw [hl]
    rfl
  have e2 : nSetKid (x.nd ek) o c (some ⟨g', 0, none⟩) = x.nd (setE ek c (some ⟨g', 0, none⟩)) := by
    unfold nSetKid
    rw [hm]
    show (if (true && !x.leaf && true) = true then _ else _) = _
    rw [hl]
    rfl
  have e3 : setE ek c (some ⟨g', 0, none⟩) = ek ++ [(c, some ⟨g', 0, none⟩)] := set_end c _ (Fo.Is.bytes h3 hb)
  rw [e1, e2, e3] at h4
  refine h4.mono ?_
  rintro e w' ⟨rfl, b', A', n', c1, c2, c3⟩
  have hk : ∀ i, S i → ¬ be.all g i := fun i q z => hSD i q (h1 i z)
  refine ⟨rfl, ⟨b', A', _, n', fun i hi => ?_, fun i hi => ?_, Fo.Is.one_more (ht.kept c3 hk) (h3.kept c3 hk)⟩, c3.mono h1⟩
  · rcases hi with hi | hi
    · exact .inl (h1 i (.inl hi))
    · exact (c1 i hi).imp (fun z => h1 i (.inr z)) id
  · rcases c2 i hi with q | q
    · exact (h2 i q).imp id .inl
    · exact .inr (.inr q)
set_option maxRecDepth 100000 in
theorem Nin.copy (h : Tre w S x k g) (o : Int) (m : Option Nat) (cnt : Int) (hm : Mt w m rest cnt) (hmS : ∀ i, m = some i → ¬ S i) :
    Calls Tryz.prog 51 #[.pointer (some ⟨g, 0, none⟩), mtr m, .int .u64 o] w fun e w' => ∃ u, e = .returned (.pointer (some ⟨u, 0, none⟩)) ∧ Nin w' ⟨x.leaf, o, x.part, x.val, x.has⟩ k u S (fun i => w.heap.size ≤ i) ∧ Kept (fun i => m = some i) w w' ∧ ∀ q, m = some q → Lst w' q (.int .i64 (cnt + 1) :: rest) := by
  obtain ⟨be, A, ek, n, hS, hk⟩ := h
  refine (ncopy_any n m cnt o hm (fun i hi e => hmS i e (hS i hi))).mono ?_
  rintro e w' ⟨u, rfl, ⟨b', A', n', c1, c2, c3⟩, c4⟩
  refine ⟨u, rfl, ⟨b', A', ek, n', c1, fun i hi => (c2 i hi).imp (fun q => hS i (.inr q)) id, hk.kept c3 (fun i hi q => hmS i q hi)⟩, c3, c4⟩
end
end Go.Proofs.YtajpipaooaemdaaGreatDoor
