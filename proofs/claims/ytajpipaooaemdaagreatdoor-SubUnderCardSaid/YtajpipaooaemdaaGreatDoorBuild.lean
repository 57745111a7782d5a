/-
  canon.build and canon.Build.
  canon.Build: what it refuses, and the tree that it makes.
  How many nodes the canonical tree has at most. No program is run.
-/
import Derived.Test.YtajpipaooaemdaaGreatDoorCanon
import Derived.Deep.RegionHeld3
namespace Go.Proofs.YtajpipaooaemdaaGreatDoor
open Go.RowKit Go.Shelf
attribute [local go_sem] Oper.semAt_some

/-- Pairs that lie where a meter's count doesn't reach. -/
structure PrM (W : World) (m : Option Nat) (B : Nat) (A : Option Addr) (n : Nat) (ps : List PV) : Prop where
  at_ : ∀ W', Kept (fun i => m = some i) W W' → Prs W' B A n ps
  far : ∀ p ∈ ps, ∀ i, Pb p.A p.key i → m ≠ some i
  room : ∀ p ∈ ps, p.n ≤ p.c
theorem PrM.on {W W' : World} {m : Option Nat} {B n : Nat} {A : Option Addr} {ps : List PV} (h : PrM W m B A n ps) (hk : Kept (fun i => m = some i) W W') : PrM W' m B A n ps :=
  ⟨fun V hV => h.at_ V (hk.trans hV), h.far, h.room⟩
theorem PrM.take {W : World} {m : Option Nat} {B n j : Nat} {A : Option Addr} {ps : List PV} (h : PrM W m B A n ps) (hj : j ≤ n) : PrM W m B A j (ps.take j) :=
  ⟨fun V hV => (h.at_ V hV).take hj, fun p hp => h.far p (List.mem_of_mem_take hp), fun p hp => h.room p (List.mem_of_mem_take hp)⟩
theorem PrM.drop {W : World} {m : Option Nat} {B n c j : Nat} {A : Option Addr} {ps : List PV} (h : PrM W m B A n ps) (hj : j ≤ n) (hc : n ≤ c) : PrM W m B (cutA A j c 2) (n - j) (ps.drop j) :=
  ⟨fun V hV => (h.at_ V hV).cut_ j hj hc, fun p hp => h.far p (List.mem_of_mem_drop hp), fun p hp => h.room p (List.mem_of_mem_drop hp)⟩
def tnT (T : Nn × Fo) : Nat := 1 + T.2.tn
/-- What is left behind build. -/
def BPost (o : Int) (W : World) (m : Option Nat) (rest : List Value) (cnt : Int) (T : Nn × Fo) (e : Ending) (W' : World) : Prop :=
  ∃ g, e = .returned (.pointer (some ⟨g, 0, none⟩)) ∧ TOw W' o (fun _ => False) T.1 T.2 g (fun i => W.heap.size ≤ i) ∧ Kept (fun i => m = some i) W W' ∧ ∀ qd, m = some qd → Lst W' qd (.int .i64 (cnt + (tnT T : Nat)) :: rest)
def Builds (o : Int) (f : Nat) : Prop :=
  ∀ (q n c B : Nat) (A : Option Addr) (ps : List PV) (m : Option Nat) (rest : List Value) (cnt : Int) (W : World),
    PrM W m B A n ps → B ≤ W.heap.size → n ≤ 1000000 → n ≤ c → 0 < n → (∀ p ∈ ps, q ≤ p.key.length ∧ p.key.length ≤ 1000000 ∧ p.key.length - q < f) → Rise (rel q ps) →
    Mt W m rest cnt → cnt + (tnT (cT o f (rel q ps)) : Nat) ≤ 9223372036854775807 →
    Calls Tryz.prog 48 #[mtr m, .int .u64 o, .slice A n c, .int .i64 (q : Int)] W (BPost o W m rest cnt (cT o f (rel q ps)))


theorem two_new (W : World) (t t' : TypeId) (a b : Array Value) : Blk ((W.alloc (.cells a t)).alloc (.cells b t')).drew W.heap.size a ∧ Blk ((W.alloc (.cells a t)).alloc (.cells b t')).drew (W.heap.size + 1) b ∧ Below W.heap.size W ((W.alloc (.cells a t)).alloc (.cells b t')).drew := by
  refine ⟨((Blk.new W t a).alloc _).drewN 1, ?_, ((Below.refl _ _).alloc (Nat.le_refl _) _ |>.alloc (by simp) _).drew⟩
  have := Blk.new (W.alloc (.cells a t)) t' b
  rw [World.size_alloc] at this
  exact this.drewN 1
theorem Mt.on {W W' : World} {m : Option Nat} {rest : List Value} {cnt : Int} (h : Mt W m rest cnt) (hb : Below W.heap.size W W') : Mt W' m rest cnt := fun g hg => by
  obtain ⟨h1, h2, h3⟩ := h g hg
  exact ⟨Blk.below h1 hb (Blk.lt h1), h2, h3⟩
theorem Mt.lt {W : World} {m : Option Nat} {rest : List Value} {cnt : Int} (h : Mt W m rest cnt) {i : Nat} (hi : m = some i) : i < W.heap.size := Blk.lt (h i hi).1
theorem MkPost.kept {w w' : World} {m : Option Nat} {rest : List Value} {cnt : Int} {x : Nd} {A0 : Option Addr} {l0 : List UInt8} {e : Ending} (h : MkPost w m rest cnt x A0 l0 e w') : Kept (fun i => m = some i) w w' := by
  obtain ⟨g, _, ⟨b, A, h1, h2, h3, h4⟩, h5⟩ := h
  exact h4
theorem leaf_post {W w1 w2 : World} {m : Option Nat} {rest : List Value} {cnt : Int} {o : Int} {l : List UInt8} {v : Int} {e : Ending} (hk : Kept (fun i => m = some i) W w1) (h : MkPost w1 m rest cnt ⟨true, o, l, v, true, []⟩ none [] e w2) :
    BPost o W m rest cnt (⟨true, o, l, v, true⟩, .nil) e w2 := by
  obtain ⟨g, rfl, ⟨b, A, h1, h2, h3, h4⟩, h5⟩ := h
  have hs := hk.size
  refine ⟨g, rfl, TOw.leaf (x := ⟨true, o, l, v, true⟩) rfl h1 (fun i hi => by have := h2 i hi; omega) (fun i hi => .inr ?_), hk.trans h4, fun qd hq => ?_⟩
  · rcases h3 i hi with q | q
    · exact absurd rfl q.1
    · omega
  · have := h5 qd hq
    simpa [tnT, Fo.tn] using this

/-- An inner node on its way: d of its kids are there, qs are left. -/
structure BNod (o : Int) (f : Nat) (W : World) (m : Option Nat) (rest : List Value) (cnt : Int) (g : Nat) (part : List UInt8) (val : Int) (has : Bool) (K : Fo) (e1 : Nat) (wr : World) (qs : List PV) (d : Fo) (b : Be) (Ap : Option Addr) (es : List Ent) : Prop where
  eq : K = d.app (mkF (cT o f) (grp (rel e1 qs)))
  nod : Nod wr g ⟨false, o, part, val, has, es⟩ b Ap
  new : ∀ i, b.all g i ∨ Pb Ap part i → W.heap.size ≤ i
  is : d.Ow wr o (fun _ => False) es (fun i => W.heap.size ≤ i ∧ ¬ (b.all g i ∨ Pb Ap part i))
  ord : ∀ e ∈ es, ∀ p ∈ qs, ∀ u, p.key[e1]? = some u → e.1.toNat < u.toNat
  num : ∀ qd, m = some qd → Lst wr qd (.int .i64 (cnt + (d.tn : Nat)) :: rest)
  kept : Kept (fun i => m = some i) W wr
section
variable {o : Int} {f : Nat} {W wr : World} {m : Option Nat} {rest : List Value} {cnt : Int} {g : Nat} {part : List UInt8} {val : Int} {has : Bool} {K : Fo} {e1 : Nat} {qs : List PV} {d : Fo} {b : Be} {Ap : Option Addr} {es : List Ent}
theorem BNod.on {W' : World} (h : BNod o f W m rest cnt g part val has K e1 wr qs d b Ap es) (hm : ∀ i, m = some i → i < W.heap.size) (hk : Below wr.heap.size wr W') : BNod o f W m rest cnt g part val has K e1 W' qs d b Ap es := by
  have hs := h.kept.size
  exact ⟨h.eq, h.nod.below hk, h.new, h.is.kept (N := fun _ => False) (Kept.of_below hk) (fun _ q => q.elim) (fun _ _ q => q), h.ord, fun qd hq => Blk.below (h.num qd hq) hk (by have := hm qd hq; omega), h.kept.trans (Kept.of_below hk)⟩
theorem BNod.step (h : BNod o f W m rest cnt g part val has K e1 wr qs d b Ap es) (ho : 1 ≤ o) (hm : ∀ i, m = some i → i < W.heap.size) {w1 w2 w3 : World} (k1 : Kept (fun i => m = some i) wr w1) {j : Nat} {bt : Nat → UInt8}
    (hbt : ∀ i p, qs[i]? = some p → p.key[e1]? = some (bt i)) (hr : Rise (rel e1 qs)) (h0 : 0 < j) (hj : j ≤ qs.length) (hs : ∀ i, i < j → bt i = bt 0) (hn : ∀ i, j ≤ i → i < qs.length → bt i ≠ bt 0)
    {T : Nn × Fo} (hT : T = cT o f (rel (e1 + 1) (qs.take j))) {g' : Nat} (ht : TOw w2 o (fun _ => False) T.1 T.2 g' (fun i => w1.heap.size ≤ i)) (k2 : Kept (fun i => m = some i) w1 w2) (hc : ∀ qd, m = some qd → Lst w2 qd (.int .i64 (cnt + (d.tn : Nat) + (tnT T : Nat)) :: rest))
    (hp : NdPost w2 w3 g (nSetKid ⟨false, o, part, val, has, es⟩ o (bt 0) (some ⟨g', 0, none⟩)) b Ap part) :
    ∃ b' Ap', BNod o f W m rest cnt g part val has K e1 w3 (qs.drop j) (d.app (.cons (bt 0) T.1 T.2 .nil)) b' Ap' (es ++ [(bt 0, some ⟨g', 0, none⟩)]) := by
  have hq0 : 0 < qs.length := by omega
  have hset : setE es (bt 0) (some ⟨g', 0, none⟩) = es ++ [(bt 0, some ⟨g', 0, none⟩)] := set_end _ _ (fun e he => h.ord e he qs[0] (List.getElem_mem _) _ (hbt 0 _ (List.getElem?_eq_getElem hq0)))
  have hx : nSetKid ⟨false, o, part, val, has, es⟩ o (bt 0) (some ⟨g', 0, none⟩) = ⟨false, o, part, val, has, es ++ [(bt 0, some ⟨g', 0, none⟩)]⟩ := by
    unfold nSetKid
    rw [mine_yes (show o ≠ 0 by omega) rfl, hset]
    rfl
  rw [hx] at hp
  obtain ⟨b', Ap', n1, n2, n3, n4⟩ := hp
  have s0 := h.kept.size
  have s1 := k1.size
  have s2 := k2.size
  have hall : ∀ i, b'.all g i → b.all g i ∨ w2.heap.size ≤ i := fun i hi => by
    rcases hi with hi | hi
    · exact .inl (.inl hi)
    · rcases n2 i hi with q | q
      · exact .inl (.inr q)
      · exact .inr q
  refine ⟨b', Ap', ?_, n1, fun i hi => ?_, ?_, ?_, fun qd hq => ?_, ?_⟩
  · rw [h.eq, grp_rel hbt h0 hj hs hn, Fo.app_app]
    subst hT
    rfl
  · rcases hi with hi | hi
    · rcases hall i hi with q | q
      · exact h.new i (.inl q)
      · omega
    · rcases n3 i hi with q | q
      · exact h.new i (.inr q)
      · omega
  · have hall2 : ∀ i, b'.all g i ∨ Pb Ap' part i → (b.all g i ∨ Pb Ap part i) ∨ w2.heap.size ≤ i := fun i hi => by
      rcases hi with hi | hi
      · exact (hall i hi).imp .inl id
      · exact (n3 i hi).imp .inr id
    have hbl : ∀ i, b.all g i ∨ Pb Ap part i → i < wr.heap.size := fun i q => q.elim (fun z => h.nod.lt z) (fun z => h.nod.ltA z)
    have a1 := h.is.there
    have a2 := (a1.kept k1 (fun i q => q.elim) (fun i hi e => by have := hm i e; have := hi.1.1; omega)).kept k2 (fun i q => q.elim) (fun i hi e => by have := hm i e; have := hi.1.1; omega)
    have a3 := a2.kept n4 (fun i q => q.elim) (fun i hi q => hi.1.2 (.inl q))
    have hfar : ∀ i, w1.heap.size ≤ i ∧ i < w2.heap.size → ¬ b.all g i := fun i hi q => by have := h.nod.lt q; omega
    have t3 := ht.there.kept n4 (fun i q => q.elim) (fun i hi q => hfar i hi q)
    refine Fo.Ow.app (Fo.Ow.cons (D := fun i => w1.heap.size ≤ i ∧ i < w2.heap.size) (D2 := fun _ => False) (er := []) (r := .nil) t3 rfl (fun i q => q) (fun i q => q.elim) (fun i _ q => q)) a3 (fun i hi q => by have := hi.2; omega) (fun i hi => ⟨hi.1.1, fun q => ?_⟩) (fun i hi => ⟨by omega, fun q => ?_⟩)
    · rcases hall2 i q with z | z
      · exact hi.1.2 z
      · have := hi.2; omega
    · rcases hall2 i q with z | z
      · have := hbl i z; omega
      · omega
  · intro e he p hpq u hu
    simp only [List.mem_append, List.mem_singleton] at he
    rcases he with he | rfl
    · exact h.ord e he p (List.mem_of_mem_drop hpq) u hu
    · obtain ⟨i, hi⟩ := List.mem_iff_getElem?.1 hpq
      rw [List.getElem?_drop] at hi
      have hl := (List.getElem?_eq_some_iff.1 hi).1
      have e2 := hbt _ p hi
      rw [hu] at e2
      injection e2 with e2
      subst e2
      have h1 := rise_mono hbt hr 0 (j + i) (by omega) hl
      have h2 := hn (j + i) (by omega) hl
      have h3 : (bt 0).toNat ≠ (bt (j + i)).toNat := fun q => h2 (UInt8.toNat_inj.1 q.symm)
      dsimp only
      omega
  · have hlt := hm qd hq
    have := n4.blk (hc qd hq) (fun q => by have := h.new qd (.inl q); omega)
    rw [show cnt + ((d.app (.cons (bt 0) T.1 T.2 .nil)).tn : Nat) = cnt + (d.tn : Nat) + (tnT T : Nat) by rw [Fo.tn_app]; simp only [Fo.tn, tnT]; omega]
    exact this
  · exact ((h.kept.trans k1).trans k2).trans' n4 (fun i hi q => by have := h.new i (.inl q); omega)
set_option maxRecDepth 100000 in
theorem BNod.setkid (h : BNod o f W m rest cnt g part val has K e1 wr qs d b Ap es) (ho : 1 ≤ o) (hm : ∀ i, m = some i → i < W.heap.size) (c : UInt8) {z : Int} (hz : z = (c.toNat : Int)) {v1 : World} {g' : Nat} {S D : Nat → Prop} {x : Nn} {k : Fo} (hk : Kept (fun i => m = some i) wr v1) (ht : TOw v1 o S x k g' D) :
    Calls Tryz.prog 71 #[.pointer (some ⟨g, 0, none⟩), .int .u64 o, .int .u8 z, .pointer (some ⟨g', 0, none⟩)] v1 fun e w' => e = .returned (.int .i64 0) ∧ NdPost v1 w' g (nSetKid ⟨false, o, part, val, has, es⟩ o c (some ⟨g', 0, none⟩)) b Ap part := by
  obtain ⟨be, A', ek, t1, t2, t3⟩ := ht.tre
  obtain ⟨i, hi, hi0⟩ := isN_pos x.leaf
  have h1 := nsetkid_any (h.nod.kept hk (fun i hi e => by have := h.new i hi; have := hm i e; omega)) o c z hz (some ⟨g', 0, none⟩) (fun a e => ⟨i, hi0, hi ▸ what_any t1⟩)
  have h2 : setKN ⟨false, o, part, val, has, es⟩ o (some ⟨g', 0, none⟩) = 0 := by
    unfold setKN
    rw [mine_yes (show o ≠ 0 by omega) rfl]
    rfl
  rw [h2] at h1
  exact h1
/-- All kids are there. -/
theorem BNod.post (h : BNod o f W m rest cnt g part val has K e1 wr [] d b Ap es) (hm : ∀ i, m = some i → i < W.heap.size) {w1 : World} (hk : Kept (fun i => m = some i) wr w1) (hc : ∀ qd, m = some qd → Lst w1 qd (.int .i64 (cnt + (d.tn : Nat) + 1) :: rest)) :
    BPost o W m rest cnt (⟨false, o, part, val, has⟩, K) (.returned (.pointer (some ⟨g, 0, none⟩))) w1 := by
  have s0 := h.kept.size
  have hK : K = d := by rw [h.eq]; exact Fo.app_nil d
  subst hK
  refine ⟨g, rfl, .inl ⟨rfl, b, Ap, es, (fun i => b.all g i ∨ Pb Ap part i), (fun i => W.heap.size ≤ i ∧ ¬ (b.all g i ∨ Pb Ap part i)), h.nod.kept hk (fun i hi e => by have := h.new i hi; have := hm i e; omega), fun i hi => .inl hi, fun i hi => .inr (.inr hi), h.is.kept hk (fun i q => q.elim) (fun i hi e => by have := hi.1; have := hm i e; omega), h.new, fun i hi => hi.1, fun i hi q => q.2 hi⟩, h.kept.trans hk, fun qd hq => ?_⟩
  rw [show cnt + (tnT (⟨false, o, part, val, has⟩, K) : Nat) = cnt + (K.tn : Nat) + 1 by simp only [tnT]; omega]
  exact hc qd hq
end
theorem cT_one (o : Int) (f q : Nat) (p : PV) : cT o f (rel q [p]) = (⟨true, o, p.key.drop q, p.val, true⟩, .nil) := by
  cases f <;> rfl
theorem cT_more {o : Int} {f q : Nat} {ps : List PV} {p z : PV} (h1 : ps[0]? = some p) (h2 : ps[ps.length - 1]? = some z) (hl : 2 ≤ ps.length) {E : Nat} (hE : lcp (p.key.drop q) (z.key.drop q) = E) :
    cT o (f + 1) (rel q ps) = if p.key.length - q = E then (⟨false, o, (p.key.drop q).take E, p.val, true⟩, mkF (cT o f) (grp (rel (q + E) (ps.drop 1)))) else (⟨false, o, (p.key.drop q).take E, 0, false⟩, mkF (cT o f) (grp (rel (q + E) ps))) := by
  match ps, hl with
  | p' :: u :: r, _ =>
    simp only [List.getElem?_cons_zero, Option.some.injEq] at h1
    subst h1
    rw [← List.getLast?_eq_getElem?, List.getLast?_cons_cons, List.getLast?_eq_some_getLast (by simp)] at h2
    injection h2 with h2
    have hz : ((rel q (u :: r)).getLast (by simp [rel])).1 = z.key.drop q := by
      unfold rel
      rw [List.getLast_map, h2]
    have e1 : rel q (p' :: u :: r) = (p'.key.drop q, p'.val) :: (u.key.drop q, u.val) :: rel q r := rfl
    have e2 : rel q (u :: r) = (u.key.drop q, u.val) :: rel q r := rfl
    rw [e1]
    unfold cT
    dsimp only
    simp only [← e2]
    rw [hz, hE, List.length_drop]
    rw [show ((p'.key.drop q, p'.val) :: rel q (u :: r)) = rel q (p' :: u :: r) from rfl, cut_rel, cut_rel]
    rfl

theorem lcp_me : ∀ x : List UInt8, lcp x x = x.length
  | [] => rfl
  | a :: x => by rw [lcp_same, lcp_me x]; rfl
theorem ends_rel {q : Nat} {ps : List PV} {p z : PV} (h1 : ps[0]? = some p) (h2 : ps[ps.length - 1]? = some z) (hl : 2 ≤ ps.length) {E : Nat} (hE : lcp (p.key.drop q) (z.key.drop q) = E) (hr : Rise (rel q ps)) :
    (∀ u ∈ ps.drop 1, q + E < u.key.length) ∧ Rise (rel (q + E) ps) := by
  match ps, hl with
  | p' :: u :: r, _ =>
    simp only [List.getElem?_cons_zero, Option.some.injEq] at h1
    subst h1
    rw [← List.getLast?_eq_getElem?, List.getLast?_cons_cons, List.getLast?_eq_some_getLast (by simp)] at h2
    injection h2 with h2
    have hz : ((rel q (u :: r)).getLast (by simp [rel])).1 = z.key.drop q := by
      unfold rel
      rw [List.getLast_map, h2]
    have h3 := rise_ends (p := (p'.key.drop q, p'.val)) (q := (u.key.drop q, u.val)) (r := rel q r) hr
    have h4 : ∀ v ∈ rel q (u :: r), E ≤ lcp (p'.key.drop q) v.1 ∧ E < v.1.length := fun v hv => by
      have := h3 v hv
      rw [show (((u.key.drop q, u.val) :: rel q r).getLast (by simp)).1 = z.key.drop q from hz] at this
      rw [← hE]
      exact this
    refine ⟨fun v hv => ?_, ?_⟩
    · have := (h4 (v.key.drop q, v.val) (List.mem_map.2 ⟨v, hv, rfl⟩)).2
      rw [List.length_drop] at this
      omega
    · rw [← cut_rel]
      refine cut_rise (p'.key.drop q) hr (fun v hv => ?_)
      rcases List.mem_cons.1 hv with rfl | hv
      · have h5 := lcp_le_left (p'.key.drop q) (z.key.drop q)
        rw [hE] at h5
        rw [lcp_me]
        exact h5
      · exact (h4 v hv).1
/-- What is left of the pairs, where the kids are made. -/
structure BQ (f : Nat) (W : World) (m : Option Nat) (B : Nat) (e1 : Nat) (qs : List PV) (A : Option Addr) (c : Nat) : Prop where
  prs : PrM W m B A qs.length qs
  room : qs.length ≤ c
  few : qs.length ≤ 1000000
  rise : Rise (rel e1 qs)
  key : ∀ p ∈ qs, e1 < p.key.length ∧ p.key.length ≤ 1000000 ∧ p.key.length - (e1 + 1) < f
theorem BQ.drop {f : Nat} {W : World} {m : Option Nat} {B e1 c : Nat} {qs : List PV} {A : Option Addr} (h : BQ f W m B e1 qs A c) {j : Nat} (hj : j ≤ qs.length) : BQ f W m B e1 (qs.drop j) (cutA A j c 2) (c - j) := by
  have hl : (qs.drop j).length = qs.length - j := by simp
  refine ⟨by rw [hl]; exact h.prs.drop hj h.room, by rw [hl]; have := h.room; omega, by rw [hl]; have := h.few; omega, ?_, fun p hp => h.key p (List.mem_of_mem_drop hp)⟩
  have := h.rise
  unfold Rise rel at *
  rw [List.map_drop]
  exact this.sublist (List.drop_sublist _ _)
set_option maxRecDepth 100000 in
theorem size_pair : (Tryz.prog.info? 58).map (·.size) = some 2 := by kernel_rfl
theorem BNod.start {o : Int} {f : Nat} {W w2 : World} {m : Option Nat} {rest : List Value} {cnt : Int} {g : Nat} {part : List UInt8} {val : Int} {has : Bool} {e1 : Nat} {b : Be} {Ap : Option Addr} (qs : List PV) (hn : Nod w2 g ⟨false, o, part, val, has, []⟩ b Ap) (new : ∀ i, b.all g i ∨ Pb Ap part i → W.heap.size ≤ i)
    (hk : Kept (fun i => m = some i) W w2) (num : ∀ qd, m = some qd → Lst w2 qd (.int .i64 cnt :: rest)) : BNod o f W m rest cnt g part val has (mkF (cT o f) (grp (rel e1 qs))) e1 w2 qs .nil b Ap [] :=
  ⟨rfl, hn, new, rfl, fun e he => (by cases he), fun qd hq => by have := num qd hq; simpa [Fo.tn] using this, hk⟩

set_option maxRecDepth 100000 in
set_option maxHeartbeats 1000000 in
theorem build_step {o : Int} {f : Nat} (ho : 1 ≤ o) (ih : Builds o f) : Builds o (f + 1) := by
  intro q n c B A ps m rest cnt W hp hB hn hnc h0 hk hr hm hc
  have hp0 := hp.at_ W (Kept.refl _ _)
  obtain ⟨ad, p, rfl, _, e1, c1, c2, b1⟩ := hp0.at_ h0
  obtain ⟨ad', z, e, _, e2, c3, c4, b2⟩ := hp0.at_ (k := n - 1) (by omega)
  cases e
  have HP := Lib.hid hp
  have HK := Lib.hid hk
  have HR := Lib.hid hr
  have HM := Lib.hid hm
  have HC := Lib.hid hc
  have HE := Lib.hid (And.intro e1 e2)
  rw [Nat.zero_mul, show ad.add 0 = ad by simp [Addr.add]] at c1
  rw [Nat.zero_mul, Nat.zero_add] at c2
  have ew : IntKind.i64.wrap ((n : Int) - 1) = ((n - 1 : Nat) : Int) := by rw [IntKind.wrap_i64]; omega
  have hz1 : (0 : Int) ≤ ((n - 1 : Nat) : Int) := by omega
  have hz2 : (((n - 1 : Nat) : Int)).toNat = n - 1 := by omega
  have hz3 : n - 1 < n := by omega
  clear hp hk hr hm hc e1 e2 hp0
  generalize hq : mtr m = qm
  go_enter Tryz.func48, Tryz.ntmps48
  go_upto_region 1 with fail
  go_cut [9, 10] (fun v9 v10 wc => ∃ x y, v9 = .pointer (some ⟨x, 0, none⟩) ∧ v10 = .pointer (some ⟨y, 0, none⟩) ∧ Blk wc x #[.slice p.A p.n p.c, .int .u64 p.val] ∧ Blk wc y #[.slice z.A z.n z.c, .int .u64 z.val] ∧ Below W.heap.size W wc ∧ W.heap.size ≤ x ∧ W.heap.size ≤ y)
  case first =>
    have KP := Lib.hid (fun (w' : World) (hb : Below W.heap.size W w') => show ((w'.cell? ad = some (.slice p.A p.n p.c) ∧ w'.cell? ⟨ad.block, ad.off + 1, none⟩ = some (.int .u64 p.val)) ∧ (w'.cell? (ad.add ((n - 1) * 2)) = some (.slice z.A z.n z.c) ∧ w'.cell? ⟨(ad.add ((n - 1) * 2)).block, (ad.add ((n - 1) * 2)).off + 1, none⟩ = some (.int .u64 z.val))) from by
      obtain ⟨ad3, p3, z1, _, z2, z3, z4, _⟩ := (HP.out.at_ w' (Kept.of_below hb)).at_ h0
      cases z1
      rw [HE.out.1] at z2
      injection z2 with z2
      subst z2
      obtain ⟨ad4, p4, y1, _, y2, y3, y4, _⟩ := (HP.out.at_ w' (Kept.of_below hb)).at_ (k := n - 1) (by omega)
      cases y1
      rw [HE.out.2] at y2
      injection y2 with y2
      subst y2
      rw [Nat.zero_mul, show ad.add 0 = ad by simp [Addr.add]] at z3
      rw [Nat.zero_mul, Nat.zero_add] at z4
      rw [← add_of_add] at y4
      exact ⟨⟨z3, z4⟩, y3, y4⟩)
    go_region_held3 (fun w' => (w'.cell? ad = some (.slice p.A p.n p.c) ∧ w'.cell? ⟨ad.block, ad.off + 1, none⟩ = some (.int .u64 p.val)) ∧ (w'.cell? (ad.add ((n - 1) * 2)) = some (.slice z.A z.n z.c) ∧ w'.cell? ⟨(ad.add ((n - 1) * 2)).block, (ad.add ((n - 1) * 2)).off + 1, none⟩ = some (.int .u64 z.val)))
      (first
      | exact KP.out _ (Below.refl _ _).drew
      | exact KP.out _ (Below.refl _ _)
      | exact KP.out _ ((Below.refl _ _).alloc (Nat.le_refl _) _)
      | exact KP.out _ ((Below.refl _ _).alloc (Nat.le_refl _) _).drew
      | exact KP.out _ (((Below.refl _ _).alloc (Nat.le_refl _) _).alloc (by simp) _)
      | exact KP.out _ (((Below.refl _ _).alloc (Nat.le_refl _) _).alloc (by simp) _).drew)
      (first | (fail))
    all_goals
      go_wp2_with fail
      go_meet
      first
      | exact ⟨_, _, rfl, rfl, (two_new W _ _ _ _).1, (two_new W _ _ _ _).2.1, (two_new W _ _ _ _).2.2, by omega, by omega⟩
      | exact ⟨_, _, rfl, rfl, (two_new W _ _ _ _).2.1, (two_new W _ _ _ _).1, (two_new W _ _ _ _).2.2, by omega, by omega⟩
  case rest =>
    obtain ⟨x, y, rfl, rfl, bx, by', k1, lx, ly⟩ := hcut
    have K1 : Kept (fun i => m = some i) W wc := Kept.of_below k1
    have hmx : ∀ i, m = some i → i < W.heap.size := fun i hi => HM.out.lt hi
    have kx : ∀ W', Kept (fun i => m = some i) wc W' → W'.cell? ⟨x, 0, none⟩ = some (.slice p.A p.n p.c) ∧ W'.cell? ⟨x, 1, none⟩ = some (.int .u64 p.val) := fun W' hb => ⟨(hb.blk bx (fun e => by have := hmx _ e; omega)).cell 0, (hb.blk bx (fun e => by have := hmx _ e; omega)).cell 1⟩
    have cx0 := (kx wc (Kept.refl _ _)).1
    have cx1 := (kx wc (Kept.refl _ _)).2
    have cy0 : wc.cell? ⟨y, 0, none⟩ = some (.slice z.A z.n z.c) := by'.cell 0
    have KX := Lib.hid kx
    have BXlt := Lib.hid bx.lt
    have HMX := Lib.hid hmx
    have mp : p ∈ ps := List.mem_of_getElem? HE.out.1
    have mz : z ∈ ps := List.mem_of_getElem? HE.out.2
    have hpn : p.n = p.key.length := b1.1.symm
    have hzn : z.n = z.key.length := b2.1.symm
    have hqp : q ≤ p.n := by rw [hpn]; exact (HK.out p mp).1
    have hqz : q ≤ z.n := by rw [hzn]; exact (HK.out z mz).1
    have rp := HP.out.room p mp
    have rz := HP.out.room z mz
    have lp : p.key.length ≤ 1000000 := (HK.out p mp).2.1
    have lz : z.key.length ≤ 1000000 := (HK.out z mz).2.1
    obtain ⟨Ap, hAp⟩ : ∃ X, cutA p.A q p.c 1 = X := ⟨_, rfl⟩
    obtain ⟨Az, hAz⟩ : ∃ X, cutA z.A q z.c 1 = X := ⟨_, rfl⟩
    obtain ⟨np, hnp⟩ : ∃ X, p.n - q = X := ⟨_, rfl⟩
    obtain ⟨nz, hnz⟩ : ∃ X, z.n - q = X := ⟨_, rfl⟩
    obtain ⟨cp, hcp⟩ : ∃ X, p.c - q = X := ⟨_, rfl⟩
    obtain ⟨cz, hcz⟩ : ∃ X, z.c - q = X := ⟨_, rfl⟩
    have sp := fun W' => slc_from (P := Tryz.prog) Tryz.underlying23 size_u8 p.A p.n p.c q hqp W'
    have sz := fun W' => slc_from (P := Tryz.prog) Tryz.underlying23 size_u8 z.A z.n z.c q hqz W'
    have bp : ∀ W', Kept (fun i => m = some i) W W' → Byt W' B (cutA p.A q p.c 1) (p.n - q) (p.key.drop q) := fun W' hk => by
      have h1 := ((HP.out.at_ W' hk).2.2.1 0 p HE.out.1).cut_ q p.n hqp (Nat.le_refl _) rp
      rwa [List.take_of_length_le (by omega)] at h1
    have bz : ∀ W', Kept (fun i => m = some i) W W' → Byt W' B (cutA z.A q z.c 1) (z.n - q) (z.key.drop q) := fun W' hk => by
      have h1 := ((HP.out.at_ W' hk).2.2.1 (n - 1) z HE.out.2).cut_ q z.n hqz (Nat.le_refl _) rz
      rwa [List.take_of_length_le (by omega)] at h1
    have fp : ∀ i, Pb (cutA p.A q p.c 1) (p.key.drop q) i → m ≠ some i := fun i hi => HP.out.far p mp i ((show (p.key.drop q) = (p.key.take p.n).drop q by rw [List.take_of_length_le (by omega)]) ▸ hi : Pb (cutA p.A q p.c 1) ((p.key.take p.n).drop q) i).cut_
    rw [hAp, hnp, hcp] at sp
    rw [hAz, hnz, hcz] at sz
    rw [hAp, hnp] at bp
    rw [hAz, hnz] at bz
    rw [hAp] at fp
    have HBP := Lib.hid bp
    have HBZ := Lib.hid bz
    have HFP := Lib.hid fp
    have Kx1 := Lib.hid K1
    have BB := Lib.hid k1
    have hnpl : np = (p.key.drop q).length := by simp; omega
    have hnzl : nz = (z.key.drop q).length := by simp; omega
    clear kx bx by' b1 b2 c1 c2 c3 c4 ew hz1 hz2 hz3 bp bz K1 k1 hmx fp
    by_cases hn1 : n = 1
    · subst hn1
      have hps : ps = [p] := by
        have h1 := (HP.out.at_ W (Kept.refl _ _)).1
        have h2 := HE.out.1
        match ps, h1 with
        | [a], _ => simp at h2; rw [h2]
      have HL := Lib.hid (fun (W' : World) (hk : Below W.heap.size W W') => nleaf_any (rest := rest) m cnt o p.val np cp B (p.key.drop q) W' (HM.out.on hk) (HBP.out W' (Kept.of_below hk)) (Nat.le_trans hB hk.size) (by omega) HFP.out)
      rw [hq] at HL
      have HF := Lib.hid (show ∀ e w', BPost o W m rest cnt (⟨true, o, p.key.drop q, p.val, true⟩, .nil) e w' → BPost o W m rest cnt (cT o (f + 1) (rel q ps)) e w' from fun e w' h => by rw [hps, cT_one]; exact h)
      have HD := Lib.hid (show Below W.heap.size W wc.drew from BB.out.drew)
      clear mp mz hpn hzn hqp hqz rp rz lp lz hps cy0 hAp hAz hnp hnz hcp hcz hnpl hnzl
      go_wp2_with fail
      go_region_held3 (fun w' => w'.cell? ⟨x, 0, none⟩ = some (.slice p.A p.n p.c) ∧ w'.cell? ⟨x, 1, none⟩ = some (.int .u64 p.val))
        (first
        | exact KX.out _ q5
        | exact KX.out _ (Kept.refl _ _).drew
        | exact KX.out _ (Kept.refl _ _))
        (first
        | (go_at_call 20; (with_reducible refine (HL.out _ HD.out).mono ?_); intro e v1 q1; have q5 := (Kept.refl _ wc).drew.trans q1.kept; obtain ⟨g1, rfl, q2⟩ := leaf_post (Kept.of_below HD.out) q1; clear q1)
        | (go_at_call 20; (with_reducible refine (HL.out _ BB.out).mono ?_); intro e v1 q1; have q5 := q1.kept; obtain ⟨g1, rfl, q2⟩ := leaf_post (Kept.of_below BB.out) q1; clear q1))
      all_goals
        have HX := Lib.hid (HF.out _ _ ⟨g1, rfl, q2⟩)
        clear q2 HF q5
        go_wp2
        go_ret
        exact HX.out
    · have hl : ps.length = n := (HP.out.at_ W (Kept.refl _ _)).1
      obtain ⟨E, hE⟩ : ∃ E, lcp (p.key.drop q) (z.key.drop q) = E := ⟨_, rfl⟩
      have hT := cT_more (o := o) (f := f) HE.out.1 (by rw [hl]; exact HE.out.2) (by omega) hE
      obtain ⟨hends, hrE⟩ := ends_rel HE.out.1 (by rw [hl]; exact HE.out.2) (by omega) hE HR.out
      obtain ⟨e1, he1⟩ : ∃ e, q + E = e := ⟨_, rfl⟩
      rw [he1] at hends hrE hT
      have hEp : e1 ≤ p.key.length := by
        have h1 := lcp_le_left (p.key.drop q) (z.key.drop q)
        rw [hE] at h1
        omega
      have HQ := Lib.hid (fun (W' : World) (hb : Below wc.heap.size wc W') => And.intro ((HBP.out W' (Kept.of_below (BB.out.trans (hb.mono BB.out.size)))).more (Nat.le_trans hB (Nat.le_trans BB.out.size hb.size))) ((HBZ.out W' (Kept.of_below (BB.out.trans (hb.mono BB.out.size)))).more (Nat.le_trans hB (Nat.le_trans BB.out.size hb.size))))
      have H45 := Lib.hid (fun (k : Nat) => common_any Ap Az np nz cp cz _ _ _ (wc.drewN k) (HQ.out _ (below_drewN (Below.refl _ _) k)).1 (HQ.out _ (below_drewN (Below.refl _ _) k)).2)
      rw [hE] at H45
      have ewE : IntKind.i64.wrap ((q : Int) + (E : Int)) = (e1 : Int) := by rw [IntKind.wrap_i64]; omega
      have HPK := Lib.hid (And.intro hpn (And.intro hEp he1))
      have sm : ∀ W', (Instr.slice 23 (.slice p.A p.n p.c) (some (.int .i64 (q : Int))) (some (.int .i64 (e1 : Int))) none).run Tryz.prog W' = .ok (.slice Ap E cp) W' := fun W' => by
        have := slc_mid (P := Tryz.prog) Tryz.underlying23 size_u8 p.A p.n p.c q e1 (by omega) (by omega) W'
        rwa [hAp, hcp, show e1 - q = E by omega] at this
      have bm : ∀ W', Kept (fun i => m = some i) W W' → Byt W' B Ap E ((p.key.drop q).take E) := fun W' hk => (HBP.out W' hk).take (by omega)
      have HBM := Lib.hid bm
      obtain ⟨part, hpart⟩ : ∃ l, (p.key.drop q).take E = l := ⟨_, rfl⟩
      rw [hpart] at HBM hT
      have hE1 : E ≤ 1000000 := by omega
      have hqE : e1 ≤ 1000000 := by omega
      have HEN := Lib.hid hends
      have HRE := Lib.hid hrE
      have HT := Lib.hid hT
      have HL := Lib.hid hl
      have hpc : p.n ≤ 1000000 := by omega
      clear mp mz hpn hzn hqp hqz rp rz lp lz hAp hAz hnp hnz hcp hcz hnpl hnzl bm hends hrE hT hpart hl he1
      go_upto_region 4 with fail
      go_quiet ((go_at_call 67; exact quiet_st1 (H45.out _)))
      have S1 : Still wc (wc.drewN nq) := ⟨nq, rfl⟩
      generalize wc.drewN nq = w1 at S1 ⊢
      have HW1 := Lib.hid (show Kept (fun i => m = some i) wc w1 from Kept.still S1)
      have HS1 := Lib.hid (show Kept (fun _ => False) wc w1 from Kept.still S1)
      have HI := Lib.hid (show Calls Tryz.prog 68 #[.pointer none, .int .u64 o, .slice Ap E cp] w1 (MkPost w1 none [] 0 ⟨false, o, part, 0, false, []⟩ none []) from ninner_any (rest := []) none 0 o E cp B part w1 (fun g q => (by cases q)) (HBM.out _ (Kx1.out.trans HW1.out)) (Nat.le_trans hB (Nat.le_trans BB.out.size HW1.out.size)) (by omega) (fun i _ q => (by cases q)))
      have cx0 := (KX.out w1 HW1.out).1
      have cx1 := (KX.out w1 HW1.out).2
      clear S1 cy0 sz sp H45 HQ ewE
      go_wp2_with fail
      try rw [show max o 1 = o by omega]
      (with_reducible refine HI.out.mono ?_)
      rintro e w2 ⟨g, rfl, ⟨b, Aq, n1, n2, n3, n4⟩, _⟩
      have HN := Lib.hid n1
      have HW2 := Lib.hid (show Kept (fun i => m = some i) W w2 from (Kx1.out.trans HW1.out).trans (n4.mono (fun i q => by cases q)))
      have HNW := Lib.hid (show ∀ i, b.all g i ∨ Pb Aq part i → W.heap.size ≤ i from fun i hi => by
        have h1 := (Kx1.out.trans HW1.out).size
        rcases hi with hi | hi
        · have := n2 i hi; omega
        · rcases n3 i hi with q | q
          · exact absurd rfl q.1
          · omega)
      have HNM := Lib.hid (show ∀ qd, m = some qd → Lst w2 qd (.int .i64 cnt :: rest) from fun qd hq => (n4.mono (D' := fun _ => False) (fun i q => by cases q)).blk (HS1.out.blk (Blk.below (HM.out qd hq).1 BB.out (HM.out.lt hq)) (fun q => q)) (fun q => q))
      have cx0 := (KX.out w2 (HW1.out.trans (n4.mono (fun i q => by cases q)))).1
      have cx1 := (KX.out w2 (HW1.out.trans (n4.mono (fun i q => by cases q)))).2
      clear n1 n2 n3 n4 HI
      have epn : ((p.n : Int) == (e1 : Int)) = decide (p.n = e1) := by
        by_cases h : p.n = e1
        · rw [decide_eq_true h]; simp; omega
        · rw [decide_eq_false h]; simp; omega
      have HEPN := Lib.hid epn
      have HB0 := Lib.hid (show p.n ≠ e1 → BQ f W m B e1 ps (some ad) c from fun hne => by
        refine ⟨by rw [HL.out]; exact HP.out, by rw [HL.out]; exact hnc, by rw [HL.out]; exact hn, HRE.out, fun u hu => ?_⟩
        obtain ⟨k1, k2, k3⟩ := HK.out u hu
        have h1 : e1 < u.key.length := by
          obtain ⟨i, hi⟩ := List.mem_iff_getElem?.1 hu
          rcases Nat.eq_zero_or_pos i with e | e
          · subst e
            rw [HE.out.1] at hi
            injection hi with hi
            subst hi
            have h2 := HPK.out
            omega
          · refine HEN.out u (List.mem_iff_getElem?.2 ⟨i - 1, ?_⟩)
            rw [List.getElem?_drop, show 1 + (i - 1) = i by omega]
            exact hi
        exact ⟨h1, k2, by have := HPK.out.2.2; omega⟩)
      have HB1 := Lib.hid (show BQ f W m B e1 (ps.drop 1) (cutA (some ad) 1 c 2) (c - 1) from by
        have hl1 : (ps.drop 1).length = n - 1 := by rw [List.length_drop, HL.out]
        refine ⟨by rw [hl1]; exact HP.out.drop (by omega) hnc, by rw [hl1]; omega, by rw [hl1]; omega, ?_, fun u hu => ?_⟩
        · have := HRE.out
          unfold Rise rel at *
          rw [List.map_drop]
          exact this.sublist (List.drop_sublist _ _)
        · obtain ⟨k1, k2, k3⟩ := HK.out u (List.mem_of_mem_drop hu)
          have := HEN.out u hu
          exact ⟨this, k2, by have := HPK.out.2.2; omega⟩)
      have HSV := Lib.hid (nsetval_any HN.out o p.val)
      clear epn
      go_upto_if 60 with fail
      go_cut [2] (fun s2 wd => ∃ (A' : Option Addr) (c' : Nat) (qs : List PV) (val : Int) (has : Bool) (b : Be) (Aq : Option Addr) (K : Fo), s2 = .slice A' qs.length c' ∧ Hid (BQ f W m B e1 qs A' c') ∧ Hid (BNod o f W m rest cnt g part val has K e1 wd qs .nil b Aq []) ∧ Hid (cT o (f + 1) (rel q ps) = (⟨false, o, part, val, has⟩, K)))
      case first =>
        by_cases hpe : p.n = e1
        · have ht : decide (p.n = e1) = true := decide_eq_true hpe
          rw [ht] at HEPN
          have epn := HEPN.out
          have s1 : ∀ W', (Instr.slice 57 (.slice (some ad) n c) (some (.int .i64 1)) none none).run Tryz.prog W' = .ok (.slice (cutA (some ad) 1 c 2) (n - 1) (c - 1)) W' := fun W' => slc_from (P := Tryz.prog) Tryz.underlying57 size_pair (some ad) n c 1 (by omega) W'
          obtain ⟨Ac, hAc⟩ : ∃ X, cutA (some ad) 1 c 2 = X := ⟨_, rfl⟩
          obtain ⟨nc, hncc⟩ : ∃ X, n - 1 = X := ⟨_, rfl⟩
          obtain ⟨cc, hcc⟩ : ∃ X, c - 1 = X := ⟨_, rfl⟩
          rw [hAc, hncc, hcc] at s1
          rw [hAc, hcc] at HB1
          have HZ := Lib.hid (show (ps.drop 1).length = nc by rw [List.length_drop, HL.out, hncc])
          clear ht hAc hncc hcc HB0
          go_wp2_with fail
          (with_reducible refine HSV.out.mono ?_)
          rintro e w3 ⟨rfl, b2, A2, m1, m2, m3, m4⟩
          have hx : nSetVal ⟨false, o, part, 0, false, []⟩ o p.val = ⟨false, o, part, p.val, true, []⟩ := by
            unfold nSetVal
            rw [mine_yes (show o ≠ 0 by omega) rfl]
            rfl
          rw [hx] at m1 m3
          have hs2 := HW2.out.size
          have HBN := Lib.hid (BNod.start (o := o) (f := f) (e1 := e1) (cnt := cnt) (rest := rest) (m := m) (W := W) (ps.drop 1) m1 (fun i hi => by
              rcases hi with hi | hi
              · rcases hi with rfl | hi
                · exact HNW.out _ (.inl (.inl rfl))
                · rcases m2 i hi with q1 | q1
                  · exact HNW.out _ (.inl (.inr q1))
                  · omega
              · rcases m3 i hi with q1 | q1
                · exact HNW.out _ (.inr q1)
                · omega) (HW2.out.trans' m4 (fun i hi q1 => by have := HNW.out i (.inl q1); omega)) (fun qd hq => m4.blk (HNM.out qd hq) (fun q1 => by have := HNW.out qd (.inl q1); have := HMX.out qd hq; omega)))
          have HTT := Lib.hid (show cT o (f + 1) (rel q ps) = (⟨false, o, part, p.val, true⟩, mkF (cT o f) (grp (rel e1 (ps.drop 1)))) from by
            rw [HT.out, if_pos (by have := HPK.out; omega)])
          have eH : ((Value.slice Ac nc cc) : Value) = .slice Ac (ps.drop 1).length cc := by rw [HZ.out]
          have HEH := Lib.hid eH
          clear hx m1 m2 m3 m4 hs2 eH
          go_wp2_with fail
          go_meet
          exact ⟨Ac, cc, ps.drop 1, p.val, true, b2, A2, _, HEH.out, HB1, HBN, HTT⟩
        · have ht : decide (p.n = e1) = false := decide_eq_false hpe
          rw [ht] at HEPN
          have epn := HEPN.out
          have HBN := Lib.hid (BNod.start (o := o) (f := f) (e1 := e1) (cnt := cnt) (rest := rest) (m := m) (W := W) ps HN.out HNW.out HW2.out HNM.out)
          have HTT := Lib.hid (show cT o (f + 1) (rel q ps) = (⟨false, o, part, 0, false⟩, mkF (cT o f) (grp (rel e1 ps))) from by
            rw [HT.out, if_neg (by have := HPK.out; omega)])
          have HEH := Lib.hid (show ((Value.slice (some ad) n c) : Value) = .slice (some ad) ps.length c from by rw [HL.out])
          have HB2 := Lib.hid (HB0.out hpe)
          go_wp2_with fail
          go_meet
          exact ⟨some ad, c, ps, 0, false, b, Aq, _, HEH.out, HB2, HBN, HTT⟩
      case rest =>
        clear HSV HB0 HB1 HN HNW HNM HW2 cx0 cx1 sm HW1 HS1 HT HEPN
        obtain ⟨A', c', qs0, val, has, b', Aq', K, rfl, hbq, hbn, HTT⟩ := hcut
        go_wp2_with fail
        go_loopg [2] qs0.length (fun k s2 wr => ∃ (A2 : Option Addr) (c2 : Nat) (qs : List PV) (d : Fo) (b2 : Be) (Aq2 : Option Addr) (es : List Ent), s2 = .slice A2 qs.length c2 ∧ qs.length = k ∧ Hid (BQ f W m B e1 qs A2 c2) ∧ Hid (BNod o f W m rest cnt g part val has K e1 wr qs d b2 Aq2 es))
        case atStart => exact ⟨A', c', qs0, .nil, b', Aq', [], rfl, rfl, hbq, hbn⟩
        case round =>
          obtain ⟨A2, c2, qs, d, b2, Aq2, es, rfl, hk, BQ1, BN1⟩ := hrel
          subst hk
          have hmx : ∀ i, m = some i → i < W.heap.size := fun i hi => HM.out.lt hi
          have hBr : B ≤ wr.heap.size := Nat.le_trans hB BN1.out.kept.size
          have hfew := BQ1.out.few
          have hroom := BQ1.out.room
          by_cases hz : 0 < qs.length
          · have hp1 := BQ1.out.prs.at_ wr BN1.out.kept
            obtain ⟨bt, hbt⟩ : ∃ bt : Nat → UInt8, ∀ i p, qs[i]? = some p → p.key[e1]? = some (bt i) := by
              refine ⟨fun i => match qs[i]? with | some p => p.key[e1]?.getD 0 | none => 0, fun i p hi => ?_⟩
              simp only [hi]
              rw [List.getElem?_eq_getElem (BQ1.out.key p (List.mem_of_getElem? hi)).1]
              rfl
            have HAL := Lib.hid (alike_any A2 qs.length c2 B e1 qs bt wr hp1 hBr hz hfew hbt (rise_mono hbt BQ1.out.rise))
            have HBT := Lib.hid hbt
            obtain ⟨ad2, p2, rfl, _, x1, x2, _, x3⟩ := hp1.at_ hz
            rw [Nat.zero_mul, show ad2.add 0 = ad2 by simp [Addr.add]] at x2
            have hk2 := hbt 0 p2 x1
            have l2 : e1 < p2.n := by have := (List.getElem?_eq_some_iff.1 hk2).1; have := x3.1; omega
            have HZ := Lib.hid hz
            have HX3 := Lib.hid (fun (h : e1 < p2.n) => x3.at_ h)
            clear hp1 hbt x3
            go_wp2_with fail
            (with_reducible refine HAL.out.mono ?_)
            rintro e w5 ⟨j, rfl, j0, j1, j2, j3, j4⟩
            obtain ⟨kad, u, ek, _, g2, h2⟩ := HX3.out l2
            rw [hk2] at g2
            injection g2 with g2
            subst g2
            obtain ⟨zb, hzb⟩ : ∃ z : Int, ((bt 0).toNat : Int) = z := ⟨_, rfl⟩
            rw [hzb] at h2
            rw [ek] at x2
            obtain ⟨T, hT⟩ : ∃ T, cT o f (rel (e1 + 1) (qs.take j)) = T := ⟨_, rfl⟩
            have hKt : cnt + (d.tn : Nat) + (tnT T : Nat) + 1 ≤ 9223372036854775807 := by
              have h1 := HC.out
              rw [HTT.out] at h1
              simp only [tnT] at h1 ⊢
              rw [BN1.out.eq, grp_rel HBT.out j0 j1 j2 j3, Fo.tn_app] at h1
              simp only [mkF, Fo.tn] at h1
              rw [hT] at h1
              omega
            have BN5 := Lib.hid (BN1.out.on hmx j4)
            have HB := Lib.hid (fun (W' : World) (hb : Below w5.heap.size w5 W') => show Calls Tryz.prog 48 #[mtr m, .int .u64 o, .slice (some ad2) j c2, .int .i64 ((e1 : Int) + 1)] W' (BPost o W' m rest (cnt + (d.tn : Nat)) T) from by
              have BN6 := BN5.out.on hmx hb
              have := ih (e1 + 1) j c2 B (some ad2) (qs.take j) m rest (cnt + (d.tn : Nat)) W' ((BQ1.out.prs.on BN6.kept).take j1) (Nat.le_trans hB BN6.kept.size) (by omega) (by omega) j0
                (fun u hu => by obtain ⟨y1, y2, y3⟩ := BQ1.out.key u (List.mem_of_mem_take hu); exact ⟨by omega, y2, y3⟩) (rise_same HBT.out BQ1.out.rise j2)
                (fun gm hgm => ⟨BN6.num gm hgm, by have := (HM.out gm hgm).2.1; omega, by omega⟩) (by rw [hT]; omega)
              rw [hT] at this
              exact this)
            rw [hq] at HB
            have HS := Lib.hid (fun (v1 : World) (g1 : Nat) (hk : Kept (fun i => m = some i) w5 v1) (ht : TOw v1 o (fun _ => False) T.1 T.2 g1 (fun i => w5.heap.size ≤ i)) => BN5.out.setkid ho hmx (bt 0) hzb.symm hk ht)
            have HST := Lib.hid (fun (w1 v1 v2 : World) (g1 : Nat) (hs : Kept (fun _ => False) w5 w1) (hk : Kept (fun i => m = some i) w1 v1) (ht : TOw v1 o (fun _ => False) T.1 T.2 g1 (fun i => w1.heap.size ≤ i)) (hc : ∀ qd, m = some qd → Lst v1 qd (.int .i64 (cnt + (d.tn : Nat) + (tnT T : Nat)) :: rest)) (hp : NdPost v1 v2 g (nSetKid ⟨false, o, part, val, has, es⟩ o (bt 0) (some ⟨g1, 0, none⟩)) b2 Aq2 part) =>
              BN5.out.step ho hmx (hs.mono (fun _ q => q.elim)) HBT.out BQ1.out.rise j0 j1 j2 j3 hT.symm ht hk hc hp)
            have KS := Lib.hid (fun (W' : World) (hk : Kept (fun i => m = some i) W W') => show W'.cell? ad2 = some (.slice (some kad) p2.n p2.c) ∧ W'.cell? (kad.add e1) = some (.int .u8 zb) from by
              obtain ⟨ad3, p3, z1, _, z2, z3, _, z4⟩ := (BQ1.out.prs.at_ W' hk).at_ HZ.out
              cases z1
              rw [x1] at z2
              injection z2 with z2
              subst z2
              rw [Nat.zero_mul, show ad2.add 0 = ad2 by simp [Addr.add], ek] at z3
              obtain ⟨kad', u', z5, _, z6, z7⟩ := z4.at_ l2
              rw [ek] at z5
              injection z5 with z5
              subst z5
              rw [hk2] at z6
              injection z6 with z6
              subst z6
              rw [hzb] at z7
              exact ⟨z3, z7⟩)
            have K5 := Lib.hid BN5.out.kept
            have HBQ2 := Lib.hid (BQ1.out.drop j1)
            have su := fun W' => slc_upto (P := Tryz.prog) Tryz.underlying57 size_pair (some ad2) qs.length c2 j (by omega) W'
            have sf := fun W' => slc_from (P := Tryz.prog) Tryz.underlying57 size_pair (some ad2) qs.length c2 j j1 W'
            have ew1 : IntKind.i64.wrap ((e1 : Int) + 1) = (e1 : Int) + 1 := by rw [IntKind.wrap_i64]; omega
            have cS := (KS.out w5 K5.out).1
            have cT' := (KS.out w5 K5.out).2
            have hjc : j ≤ c2 := by omega
            obtain ⟨A9, hA9⟩ : ∃ X, cutA (some ad2) j c2 2 = X := ⟨_, rfl⟩
            obtain ⟨c9, hc9⟩ : ∃ X, c2 - j = X := ⟨_, rfl⟩
            obtain ⟨n9, hn9⟩ : ∃ X, qs.length - j = X := ⟨_, rfl⟩
            rw [hA9, hc9, hn9] at sf
            rw [hA9, hc9] at HBQ2
            have HN9 := Lib.hid (show (qs.drop j).length = n9 by rw [List.length_drop, hn9])
            have HN8 := Lib.hid (show n9 < qs.length by omega)
            have HD5 := Lib.hid (show Below w5.heap.size w5 w5.drew from (Below.refl _ _).drew)
            have HKT := Lib.hid hKt
            clear x1 x2 hk2 h2 ek hzb hT j0 j1 j2 j3 j4 BN1 BQ1 HAL hA9 hc9 hn9 hKt
            go_wp2_with fail
            go_region_held3 (fun w' => w'.cell? ad2 = some (.slice (some kad) p2.n p2.c) ∧ w'.cell? (kad.add e1) = some (.int .u8 zb))
              (first
              | exact KS.out _ t5.kept
              | exact KS.out _ d2
              | exact KS.out _ K5.out.drew
              | exact KS.out _ K5.out)
              (first
              | (go_at_call 48; (with_reducible refine (HB.out _ HD5.out).mono ?_); rintro e v1 ⟨g1, rfl, t1, t2, t3⟩; have t1' : TOw v1 o (fun _ => False) T.1 T.2 g1 (fun i => w5.heap.size ≤ i) := t1; have d1 : Kept (fun i => m = some i) w5 v1 := (Kept.refl _ w5).drew.trans t2; have d2 := K5.out.trans d1)
              | (go_at_call 48; (with_reducible refine (HB.out _ (Below.refl _ _)).mono ?_); rintro e v1 ⟨g1, rfl, t1, t2, t3⟩; have t1' : TOw v1 o (fun _ => False) T.1 T.2 g1 (fun i => w5.heap.size ≤ i) := t1; have d1 : Kept (fun i => m = some i) w5 v1 := t2; have d2 := K5.out.trans d1)
              | (go_at_call 71; (with_reducible refine (HS.out v1 g1 d1 t1').mono ?_); rintro e v2 ⟨rfl, t4⟩; obtain ⟨b3, A3, t5⟩ := HST.out _ v1 v2 g1 (Kept.refl _ w5) d1 t1' t3 t4))
            all_goals
              have T5 := Lib.hid t5
              have HEH := Lib.hid (show ((Value.slice A9 n9 c9) : Value) = .slice A9 (qs.drop j).length c9 from by rw [HN9.out])
              clear t1 t2 t3 t1' t4 t5 d1 d2 cS cT'
              go_wp2_with fail
              go_roundg n9
              case measure => exact HN8.out
              case rel => exact ⟨A9, c9, qs.drop j, _, b3, A3, _, HEH.out, HN9.out, HBQ2, T5⟩
          · have h0' : qs = [] := List.eq_nil_of_length_eq_zero (by omega)
            subst h0'
            have hnum := HC.out
            rw [HTT.out] at hnum
            have hKd : K = d := by rw [BN1.out.eq]; exact Fo.app_nil d
            have HMD := Lib.hid (made_one (rest := rest) m (cnt + (d.tn : Nat)) wr (fun gm hgm => ⟨BN1.out.num gm hgm, by have := (HM.out gm hgm).2.1; omega, by rw [hKd] at hnum; simp only [tnT] at hnum; omega⟩))
            rw [hq] at HMD
            have HBN1 := Lib.hid BN1.out
            clear hnum hKd hroom hfew hBr BQ1 BN1
            go_wp2_with fail
            (with_reducible refine HMD.out.mono ?_)
            rintro e w5 ⟨rfl, m1, m2⟩
            have HO := Lib.hid (nown_yes ((HBN1.out.nod).kept m2 (fun i hi e => by have := HBN1.out.new i hi; have := hmx i e; omega)) (.pointer none) o (mine_yes (show o ≠ 0 by omega) rfl))
            have HPO := Lib.hid (show BPost o W m rest cnt (cT o (f + 1) (rel q ps)) (.returned (.pointer (some ⟨g, 0, none⟩))) w5 from by
              rw [HTT.out]
              exact HBN1.out.post hmx m2 m1)
            clear m1 m2 HBN1
            go_wp2_with fail
            (with_reducible refine HO.out.mono ?_)
            rintro e w6 ⟨rfl, rfl⟩
            go_wp2
            go_ret
            exact HPO.out
theorem builds_all {o : Int} (ho : 1 ≤ o) : ∀ f, Builds o f
  | 0 => fun q n c B A ps m rest cnt W hp hB hn hnc h0 hk => by
    obtain ⟨ad, p, _, _, e1, _⟩ := (hp.at_ W (Kept.refl _ _)).at_ h0
    have := hk p (List.mem_of_getElem? e1)
    omega
  | f + 1 => build_step ho (builds_all ho f)
end Go.Proofs.YtajpipaooaemdaaGreatDoor

namespace Go.Proofs.YtajpipaooaemdaaGreatDoor
open Go.RowKit Go.Shelf

theorem riseB_pair : ∀ {ks : List (List UInt8)}, riseB ks = true → ks.Pairwise fun a b => cmpL a b < 0
  | [], _ => List.Pairwise.nil
  | [a], _ => List.pairwise_singleton _ _
  | a :: b :: r, h => by
    simp only [riseB, Bool.and_eq_true, decide_eq_true_eq] at h
    obtain ⟨h1, h2⟩ := h
    have ih := riseB_pair h2
    refine List.pairwise_cons.2 ⟨fun c hc => ?_, ih⟩
    rcases List.mem_cons.1 hc with rfl | hc
    · exact h1
    · exact lt_trans h1 ((List.pairwise_cons.1 ih).1 c hc)
theorem riseB_of : ∀ {ks : List (List UInt8)}, ks.Pairwise (fun a b => cmpL a b < 0) → riseB ks = true
  | [], _ => rfl
  | [a], _ => rfl
  | a :: b :: r, h => by
    obtain ⟨h1, h2⟩ := List.pairwise_cons.1 h
    simp only [riseB, Bool.and_eq_true, decide_eq_true_eq]
    exact ⟨h1 b (by simp), riseB_of h2⟩
def bigB (ks : List (List UInt8)) : Bool := ks.any fun k => decide (65535 < k.length)
/-- What Build says of pairs' keys. -/
def chkV (ks : List (List UInt8)) : Int := if bigB ks then 8 else if riseB ks then 0 else 12
def bTr (o : Int) (f : Nat) (l : List KV) : Option (Nn × Fo) := if l = [] then none else some (cT o f l)
def otn : Option (Nn × Fo) → Nat
  | none => 0
  | some t => tnT t
def CbPost (W : World) (m : Option Nat) (rest : List Value) (cnt : Int) (t : Option (Nn × Fo)) (e : Ending) (w' : World) : Prop :=
  ∃ p, e = .returned (.tuple #[.pointer p, .int .i64 0]) ∧ OTre w' (fun i => W.heap.size ≤ i) t p ∧ Kept (fun i => m = some i) W w' ∧ ∀ qd, m = some qd → Lst w' qd (.int .i64 (cnt + (otn t : Nat)) :: rest)
/-- The same, and that the owner's nodes lie apart. -/
def OTow (w : World) (o : Int) (S : Nat → Prop) : Option (Nn × Fo) → Option Addr → (Nat → Prop) → Prop
  | none, p, _ => p = none
  | some T, p, D => ∃ g, p = some ⟨g, 0, none⟩ ∧ TOw w o S T.1 T.2 g D
def CoPost (o : Int) (W : World) (m : Option Nat) (rest : List Value) (cnt : Int) (t : Option (Nn × Fo)) (e : Ending) (w' : World) : Prop :=
  ∃ p, e = .returned (.tuple #[.pointer p, .int .i64 0]) ∧ OTow w' o (fun _ => False) t p (fun i => W.heap.size ≤ i) ∧ Kept (fun i => m = some i) W w' ∧ ∀ qd, m = some qd → Lst w' qd (.int .i64 (cnt + (otn t : Nat)) :: rest)
theorem OTow.otre {w : World} {o : Int} {S D : Nat → Prop} {t : Option (Nn × Fo)} {p : Option Addr} (h : OTow w o S t p D) : OTre w (fun i => S i ∨ D i) t p := by
  cases t with
  | none => exact h
  | some T =>
    obtain ⟨g, e, h⟩ := h
    exact ⟨g, e, h.tre⟩
theorem CoPost.cb {o : Int} {W : World} {m : Option Nat} {rest : List Value} {cnt : Int} {t : Option (Nn × Fo)} {e : Ending} {w' : World} (h : CoPost o W m rest cnt t e w') : CbPost W m rest cnt t e w' := by
  obtain ⟨p, e1, h1, h2, h3⟩ := h
  refine ⟨p, e1, ?_, h2, h3⟩
  have h4 := h1.otre
  cases t with
  | none => exact h4
  | some T =>
    obtain ⟨g, e, h5⟩ := h4
    exact ⟨g, e, h5.mono (fun i q => q.elim (fun z => z.elim) id)⟩
theorem rel_zero (ps : List PV) : rel 0 ps = ps.map fun p => (p.key, p.val) := by simp [rel]
theorem rise_rel {ps : List PV} (h : riseB (ps.map PV.key) = true) : Rise (rel 0 ps) := by
  have := riseB_pair h
  rw [List.pairwise_map] at this
  rw [rel_zero]
  unfold Rise
  rw [List.pairwise_map]
  exact this

set_option maxRecDepth 100000 in
set_option maxHeartbeats 1000000 in
theorem cbuildo_any {o : Int} (ho : 1 ≤ o) (f n c B : Nat) (A : Option Addr) (ps : List PV) (m : Option Nat) (rest : List Value) (cnt : Int) (W : World) (hp : PrM W m B A n ps) (hB : B ≤ W.heap.size) (hn : n ≤ 1000) (hnc : n ≤ c)
    (hk : ∀ p ∈ ps, p.key.length ≤ 1000000 ∧ p.key.length < f) (hm : Mt W m rest cnt) (hc : cnt + (otn (bTr o f (rel 0 ps)) : Nat) ≤ 9223372036854775807) :
    Calls Tryz.prog 24 #[mtr m, .int .u64 o, .slice A n c] W fun e w' =>
      (chkV (ps.map PV.key) = 0 → CoPost o W m rest cnt (bTr o f (rel 0 ps)) e w') ∧ (chkV (ps.map PV.key) ≠ 0 → e = .returned (.tuple #[.pointer none, .int .i64 (chkV (ps.map PV.key))]) ∧ Below W.heap.size W w') := by
  have hp0 := hp.at_ W (Kept.refl _ _)
  have HP := Lib.hid hp
  have HP0 := Lib.hid hp0
  have HK := Lib.hid hk
  have HM := Lib.hid hm
  have HC := Lib.hid hc
  have hl : ps.length = n := hp0.1
  have HL := Lib.hid hl
  clear hp hp0 hk hm hc hl
  generalize hq : mtr m = qm
  go_enter Tryz.func24, Tryz.ntmps24
  go_wp2
  go_loopw [13] (fun i wr => ∃ k : Nat, k ≤ n ∧ i = .int .i64 k ∧ Hid (∀ j p, j < k → ps[j]? = some p → p.key.length ≤ 65535) ∧ Hid (Below W.heap.size W wr)) (fun i _ => n - (intOf i).toNat)
  case atStart => exact ⟨0, Nat.zero_le _, rfl, Lib.hid (fun j p hj => by omega), Lib.hid (Below.refl _ _)⟩
  case round =>
    obtain ⟨k, hk, rfl, HS, HB⟩ := hrel
    by_cases h1 : k < n
    · obtain ⟨ad, p, rfl, hlt, e1, c1, c2, b1⟩ := (HP0.out.below (HB.out.mono hB)).at_ h1
      have hkey := HK.out p (List.mem_of_getElem? e1)
      have hpn : p.n = p.key.length := b1.1.symm
      have HMY := Lib.hid (fun (W' : World) => may_any p.A p.n p.c W' (by omega))
      have HE1 := Lib.hid e1
      have HPN := Lib.hid hpn
      rw [← add_of_add] at c2
      have c2' : wr.cell? ⟨(ad.add (k * 2)).block, (ad.add (k * 2)).off + 1, none⟩ = some (.int .u64 p.val) := c2
      clear b1 e1 hpn
      by_cases hb : p.n ≤ 65535
      · rw [if_pos hb] at HMY
        go_wp2_with fail
        (with_reducible refine (HMY.out _).mono ?_)
        rintro e w1 ⟨rfl, rfl⟩
        have HS1 := Lib.hid (show ∀ j p', j < k + 1 → ps[j]? = some p' → p'.key.length ≤ 65535 from fun j p' hj hp' => by
          rcases Nat.lt_or_ge j k with h | h
          · exact HS.out j p' h hp'
          · have : j = k := by omega
            subst this
            rw [HE1.out] at hp'
            injection hp' with hp'
            subst hp'
            have := HPN.out
            omega)
        go_wp2_with fail
        exact ⟨⟨k + 1, by omega, by go_num, HS1, Lib.hid (HB.out.alloc HB.out.size _)⟩, by simp [intOf]; omega⟩
      · rw [if_neg hb] at HMY
        go_wp2_with fail
        (with_reducible refine (HMY.out _).mono ?_)
        rintro e w1 ⟨rfl, rfl⟩
        have HCK := Lib.hid (show chkV (ps.map PV.key) = 8 from by
          unfold chkV
          rw [if_pos]
          unfold bigB
          rw [List.any_map, List.any_eq_true]
          exact ⟨p, List.mem_of_getElem? HE1.out, by have := HPN.out; simp only [Function.comp, decide_eq_true_eq]; omega⟩)
        have HB2 := Lib.hid (HB.out.alloc HB.out.size (.cells #[.slice p.A p.n p.c, .int .u64 p.val] 58))
        go_wp2_with fail
        go_ret2
        rw [HCK.out]
        exact ⟨fun h => absurd h (by decide), fun _ => ⟨rfl, HB2.out⟩⟩
    · have hkn : k = n := by omega
      subst hkn
      have hbig : bigB (ps.map PV.key) = false := by
        unfold bigB
        rw [List.any_map, Bool.eq_false_iff]
        intro h
        obtain ⟨p, hp, h2⟩ := List.any_eq_true.1 h
        obtain ⟨j, hj⟩ := List.mem_iff_getElem?.1 hp
        have h3 := HS.out j p (by have := (List.getElem?_eq_some_iff.1 hj).1; have := HL.out; omega) hj
        simp only [Function.comp, decide_eq_true_eq] at h2
        omega
      have HSO := Lib.hid (sorted_any A k c B ps wr (HP0.out.below (HB.out.mono hB)) hn)
      have HBG := Lib.hid hbig
      clear hbig
      go_wp2_with fail
      (with_reducible refine HSO.out.mono ?_)
      rintro e w1 ⟨rfl, hs1⟩
      have HB1 := Lib.hid (HB.out.trans (hs1.below _))
      clear hs1
      obtain ⟨rb, hrb⟩ : ∃ b, riseB (ps.map PV.key) = b := ⟨_, rfl⟩
      rw [hrb]
      have HRB := Lib.hid hrb
      clear hrb HSO
      cases rb with
      | false =>
        have HCK := Lib.hid (show chkV (ps.map PV.key) = 12 from by unfold chkV; rw [HBG.out, HRB.out]; rfl)
        go_wp2_with fail
        go_ret2
        rw [HCK.out]
        exact ⟨fun h => absurd h (by decide), fun _ => ⟨rfl, HB1.out⟩⟩
      | true =>
        have HCK := Lib.hid (show chkV (ps.map PV.key) = 0 from by unfold chkV; rw [HBG.out, HRB.out]; rfl)
        have hkW : Kept (fun i => m = some i) W w1 := Kept.of_below HB1.out
        by_cases hk0 : k = 0
        · subst hk0
          have hps : ps = [] := List.eq_nil_of_length_eq_zero HL.out
          have HQ := Lib.hid (show CoPost o W m rest cnt (bTr o f (rel 0 ps)) (.returned (.tuple #[.pointer none, .int .i64 0])) w1 from by
            subst hps
            refine ⟨none, rfl, rfl, hkW, fun qd hq => ?_⟩
            have := (HM.out.on HB1.out qd hq).1
            simpa [bTr, otn, rel] using this)
          clear hkW
          go_wp2_with fail
          go_ret2
          rw [HCK.out]
          exact ⟨fun _ => HQ.out, fun h => absurd rfl h⟩
        · have hT : bTr o f (rel 0 ps) = some (cT o f (rel 0 ps)) := by
            unfold bTr
            rw [if_neg]
            intro h
            have := congrArg List.length h
            rw [rel_len, HL.out] at this
            exact hk0 this
          have hcn := HC.out
          rw [hT] at hcn
          have HBL := Lib.hid (builds_all ho f 0 k c B A ps m rest cnt w1 (HP.out.on hkW) (Nat.le_trans hB HB1.out.size) (by omega) hnc (by omega) (fun p hp => ⟨Nat.zero_le _, (HK.out p hp).1, by have := (HK.out p hp).2; omega⟩) (rise_rel HRB.out) (HM.out.on HB1.out) hcn)
          rw [hq, show ((0 : Nat) : Int) = 0 from rfl] at HBL
          have HKW := Lib.hid hkW
          have HT := Lib.hid hT
          clear hkW hT hcn
          go_wp2_with fail
          (with_reducible refine HBL.out.mono ?_)
          rintro e w2 ⟨g, rfl, q1, q2, q3⟩
          have HQ := Lib.hid (show CoPost o W m rest cnt (bTr o f (rel 0 ps)) (.returned (.tuple #[.pointer (some ⟨g, 0, none⟩), .int .i64 0])) w2 from by
            rw [HT.out]
            have := HKW.out.size
            exact ⟨_, rfl, ⟨g, rfl, q1.mono (fun i hi => by omega)⟩, HKW.out.trans q2, q3⟩)
          clear q1 q2 q3
          go_wp2_with fail
          go_ret2
          rw [HCK.out]
          exact ⟨fun _ => HQ.out, fun h => absurd rfl h⟩
end Go.Proofs.YtajpipaooaemdaaGreatDoor

namespace Go.Proofs.YtajpipaooaemdaaGreatDoor
open Go.RowKit

theorem gput_meas (b : UInt8) (p : KV) (gs : List (UInt8 × List KV)) : (gput b p gs).length ≤ gs.length + 1 ∧ ((gput b p gs).map (·.2.length)).sum = (gs.map (·.2.length)).sum + 1 := by
  cases gs with
  | nil => simp [gput]
  | cons g gs =>
    obtain ⟨b', g⟩ := g
    by_cases h : b = b'
    · subst h
      exact ⟨by simp [gput], by simp only [gput, if_true, List.map_cons, List.sum_cons, List.length_cons]; omega⟩
    · exact ⟨by simp [gput, h], by simp only [gput, if_neg h, List.map_cons, List.sum_cons, List.length_cons, List.length_nil]; omega⟩
theorem grp_meas : ∀ L : List KV, (grp L).length ≤ L.length ∧ ((grp L).map (·.2.length)).sum ≤ L.length
  | [] => ⟨Nat.le_refl _, Nat.le_refl _⟩
  | ([], _) :: r => by
    have := grp_meas r
    show (grp r).length ≤ r.length + 1 ∧ _ ≤ r.length + 1
    exact ⟨by omega, by show ((grp r).map (·.2.length)).sum ≤ _; omega⟩
  | (b :: k, v) :: r => by
    have h1 := grp_meas r
    have h2 := gput_meas b (k, v) (grp r)
    show (gput b (k, v) (grp r)).length ≤ r.length + 1 ∧ ((gput b (k, v) (grp r)).map (·.2.length)).sum ≤ r.length + 1
    omega
theorem mkF_tn {c : List KV → Nn × Fo} {f : Nat} : ∀ {gs : List (UInt8 × List KV)}, (∀ x ∈ gs, tnT (c x.2) ≤ 1 + f * x.2.length) → (mkF c gs).tn ≤ gs.length + f * (gs.map (·.2.length)).sum
  | [], _ => Nat.zero_le _
  | (b, g) :: gs, h => by
    have h1 := h (b, g) (List.mem_cons_self ..)
    have h2 := mkF_tn fun x hx => h x (List.mem_cons_of_mem _ hx)
    simp only [List.length_cons, List.map_cons, List.sum_cons, Nat.mul_add]
    show 1 + (c g).2.tn + (mkF c gs).tn ≤ _
    unfold tnT at h1
    dsimp only at h1
    omega
theorem cT_tn (o : Int) : ∀ (f : Nat) (L : List KV), tnT (cT o f L) ≤ 1 + f * L.length
  | 0, L => by
    cases L <;> simp [cT, tnT, Fo.tn]
  | f + 1, [] => by simp [cT, tnT, Fo.tn]
  | f + 1, [p] => by simp [cT, tnT, Fo.tn]
  | f + 1, p :: q :: r => by
    have key : ∀ M : List KV, M.length ≤ (p :: q :: r).length → (mkF (cT o f) (grp M)).tn ≤ (f + 1) * (p :: q :: r).length := fun M hM => by
      have h1 := mkF_tn (c := cT o f) (f := f) (gs := grp M) (fun x _ => cT_tn o f x.2)
      have h2 := grp_meas M
      have h3 : f * ((grp M).map (·.2.length)).sum ≤ f * (p :: q :: r).length := Nat.mul_le_mul_left _ (by omega)
      rw [Nat.add_mul, Nat.one_mul]
      omega
    unfold cT
    dsimp only
    split
    · show 1 + (mkF _ _).tn ≤ _
      have := key (cut (lcp p.1 ((q :: r).getLast (by simp)).1) (q :: r)) (by unfold cut; rw [List.length_map]; simp)
      omega
    · show 1 + (mkF _ _).tn ≤ _
      have := key (cut (lcp p.1 ((q :: r).getLast (by simp)).1) (p :: q :: r)) (by unfold cut; rw [List.length_map]; exact Nat.le_refl _)
      omega
theorem bTr_tn (o : Int) (f : Nat) (L : List KV) : otn (bTr o f L) ≤ 1 + f * L.length := by
  unfold bTr
  split
  · exact Nat.zero_le _
  · exact cT_tn o f L
end Go.Proofs.YtajpipaooaemdaaGreatDoor
