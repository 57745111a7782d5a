/-
  What an owner does to a tree: a node is made his own, a value is set, a kid is taken out to be written to and is put back.
  Nodes that an owner makes, and where the kid by a byte lies: what a walk with one owner needs at each node.
-/
import Derived.Test.YtikmcmoegigfhaaGreatDoorCanon
import Derived.Test.YtikmcmoegigfhaaGreatDoorNdWrite
import Derived.Test.YtikmcmoegigfhaaGreatDoorFnP
import Derived.Test.YtikmcmoegigfhaaGreatDoorBuild
namespace Go.Proofs.YtikmcmoegigfhaaGreatDoor
open Go.RowKit

/-- A kid set in a forest, by its byte. -/
def Fo.set : Fo → UInt8 → Nn → Fo → Fo
  | .nil, c, y, l => .cons c y l .nil
  | .cons b x k r, c, y, l => if c = b then .cons c y l r else if c.toNat < b.toNat then .cons c y l (.cons b x k r) else .cons b x k (r.set c y l)
section
variable {w w' : World} {o : Int} {S S' D D' : Nat → Prop}
theorem Fo.Ow.of_is : ∀ {f : Fo} {es : List Ent} {D : Nat → Prop}, f.no o → f.Is w S es → f.Ow w o S es D
  | .nil, _, _, _, h => h
  | .cons _ _ _ _, _, _, ⟨n1, n2, n3⟩, ⟨g, be, A, ek, er, e, h1, h2, h3, h4⟩ =>
    ⟨g, er, (fun _ => False), (fun _ => False), e, .inr ⟨n1, n2, be, A, ek, h1, h2, h3⟩, Fo.Ow.of_is n3 h4, fun _ q => q.elim, fun _ q => q.elim, fun _ q => q.elim⟩
set_option maxRecDepth 100000 in
/-- A node that is the owner's already. -/
theorem TOw.own_yes {x : Nn} {k : Fo} {g : Nat} (h : TOw w o S x k g D) (hx : x.ow = o) (ho : o ≠ 0) (v : Value) :
    Calls Tryz.prog 49 #[.pointer (some ⟨g, 0, none⟩), v, .int .u64 o] w fun e w' => e = .returned (.pointer (some ⟨g, 0, none⟩)) ∧ w' = w := by
  rcases h with ⟨_, be, A, ek, De, Dk, n, _⟩ | ⟨q, _⟩
  · exact nown_yes n v o (mine_yes ho hx.symm)
  · exact absurd hx q
set_option maxRecDepth 100000 in
/-- A copy of one that is another one's. -/
theorem TOw.own_no {x : Nn} {k : Fo} {g : Nat} (h : TOw w o S x k g D) (hx : x.ow ≠ o) {rest : List Value} (m : Option Nat) (cnt : Int) (hm : Mt w m rest cnt) (hmS : ∀ i, m = some i → ¬ S i) :
    Calls Tryz.prog 49 #[.pointer (some ⟨g, 0, none⟩), mtr m, .int .u64 o] w fun e w' => ∃ u, e = .returned (.pointer (some ⟨u, 0, none⟩)) ∧ TOw w' o S ⟨x.leaf, o, x.part, x.val, x.has⟩ k u (fun i => w.heap.size ≤ i) ∧ Kept (fun i => m = some i) w w' ∧ ∀ q, m = some q → Lst w' q (.int .i64 (cnt + 1) :: rest) := by
  rcases h with ⟨q, _⟩ | ⟨_, hn, be, A, ek, n, hS, hk⟩
  · exact absurd q hx
  · have hmine : mineB (x.nd ek).ow o = false := mine_no (fun e => hx e.symm)
    refine (nown_no (rest := rest) n m cnt o hmine hm (fun i hi e => hmS i e (hS i hi))).mono ?_
    rintro e w' ⟨u, rfl, ⟨b', A', n', c1, c2, c3⟩, c4⟩
    refine ⟨u, rfl, .inl ⟨rfl, b', A', ek, (fun i => w.heap.size ≤ i), (fun _ => False), n', c1, fun i hi => ?_, Fo.Ow.of_is hn (hk.kept c3 (fun i hi q => hmS i q hi)), fun _ q => q, fun _ q => q.elim, fun _ _ q => q⟩, c3, c4⟩
    rcases c2 i hi with q | q
    · exact .inl (hS i (.inr q))
    · exact .inr q
set_option maxRecDepth 100000 in
/-- What a write to the owner's node leaves, whose kids stay. -/
theorem TOw.wrote {x x' : Nn} {k : Fo} {g : Nat} (hx : x.ow = o) (hx' : x'.ow = o) (h : TOw w o S x k g D) (hSD : ∀ i, S i → ¬ D i) {f : FuncId} {args : Array Value} {r : Ending}
    (hc : ∀ be A ek, Nod w g (x.nd ek) be A → Calls Tryz.prog f args w fun e w' => e = r ∧ NdPost w w' g (x'.nd ek) be A x.part) :
    Calls Tryz.prog f args w fun e w' => e = r ∧ TOw w' o S x' k g (fun i => D i ∨ w.heap.size ≤ i) ∧ Kept D w w' := by
  rcases h.there with ⟨_, be, A, ek, De, Dk, n, a1, a2, a3, a4, a5, a6⟩ | ⟨q, _⟩
  · refine (hc be A ek n).mono ?_
    rintro e w' ⟨rfl, b', A', n', c1, c2, c3⟩
    refine ⟨rfl, .inl ⟨hx', b', A', ek, (fun i => (De i ∧ D i) ∨ w.heap.size ≤ i), Dk, n', fun i hi => ?_, fun i hi => ?_, a3.kept c3 (fun i hi q => hSD i hi (a4 i (a1 i q)).1) (fun i hi q => a6 i (a1 i q) hi), fun i hi => hi.imp (fun z => z.2) id, fun i hi => .inl (a5 i hi).1, fun i hi q => ?_⟩, c3.mono (fun i hi => (a4 i (a1 i hi)).1)⟩
    · rcases hi with hi | hi
      · exact .inl ⟨a1 i (.inl hi), (a4 i (a1 i (.inl hi))).1⟩
      · rcases c1 i hi with z | z
        · exact .inl ⟨a1 i (.inr z), (a4 i (a1 i (.inr z))).1⟩
        · exact .inr z
    · rcases c2 i hi with z | z
      · exact (a2 i z).imp id (fun y => .inl ⟨y, (a4 i y).1⟩)
      · exact .inr (.inr z)
    · rcases hi with z | z
      · exact a6 i z.1 q
      · have := (a5 i q).2
        omega
  · exact absurd hx q
set_option maxRecDepth 100000 in
theorem TOw.setval {x : Nn} {k : Fo} {g : Nat} (h : TOw w o S x k g D) (hx : x.ow = o) (ho : o ≠ 0) (hSD : ∀ i, S i → ¬ D i) (v : Int) :
    Calls Tryz.prog 50 #[.pointer (some ⟨g, 0, none⟩), .int .u64 o, .int .u64 v] w fun e w' => e = .returned (.int .i64 0) ∧ TOw w' o S ⟨x.leaf, o, x.part, v, true⟩ k g (fun i => D i ∨ w.heap.size ≤ i) ∧ Kept D w w' := by
  refine TOw.wrote hx rfl h hSD fun be A ek n => ?_
  have h1 := nsetval_any n o v
  have hm : mineB (x.nd ek).ow o = true := mine_yes ho hx.symm
  have e1 : closN (x.nd ek) o = 0 := by unfold closN; rw [hm]; rfl
  have e2 : nSetVal (x.nd ek) o v = (⟨x.leaf, o, x.part, v, true⟩ : Nn).nd ek := by
    unfold nSetVal
    rw [hm]
    show ({ x.nd ek with has := true, val := v } : Nd) = _
    rw [← hx]
  rw [e1, e2] at h1
  exact h1
/-- A forest without the kid by a byte. -/
def Fo.Hole (w : World) (o : Int) (S : Nat → Prop) (c : UInt8) : Fo → List Ent → (Nat → Prop) → Prop
  | .nil, es, _ => es = []
  | .cons b x k r, es, D => (b = c ∧ ∃ (g : Nat) (er : List Ent), es = (b, some ⟨g, 0, none⟩) :: er ∧ r.Ow w o S er D) ∨
      (b ≠ c ∧ ∃ (g : Nat) (er : List Ent) (D1 D2 : Nat → Prop), es = (b, some ⟨g, 0, none⟩) :: er ∧ TOw w o S x k g D1 ∧ Fo.Hole w o S c r er D2 ∧ (∀ i, D1 i → D i) ∧ (∀ i, D2 i → D i) ∧ (∀ i, D1 i → ¬ D2 i))
theorem Fo.Hole.mono {c : UInt8} : ∀ {f : Fo} {es : List Ent} {D D' : Nat → Prop}, (∀ i, D i → D' i) → f.Hole w o S c es D → f.Hole w o S c es D'
  | .nil, _, _, _, _, h => h
  | .cons _ _ _ _, _, _, _, hD, h => by
    rcases h with ⟨e, g, er, e2, h⟩ | ⟨e, g, er, D1, D2, e2, h, hr, h1, h2, h3⟩
    · exact .inl ⟨e, g, er, e2, h.mono hD⟩
    · exact .inr ⟨e, g, er, D1, D2, e2, h, hr, fun i q => hD i (h1 i q), fun i q => hD i (h2 i q), h3⟩
theorem Fo.Hole.kept {N : Nat → Prop} {c : UInt8} (hk : Kept N w w') (hS : ∀ i, S i → ¬ N i) : ∀ {f : Fo} {es : List Ent} {D : Nat → Prop}, (∀ i, D i → ¬ N i) → f.Hole w o S c es D → f.Hole w' o S c es D
  | .nil, _, _, _, h => h
  | .cons _ _ _ _, _, _, hD, h => by
    rcases h with ⟨e, g, er, e2, h⟩ | ⟨e, g, er, D1, D2, e2, h, hr, h1, h2, h3⟩
    · exact .inl ⟨e, g, er, e2, h.kept hk hS hD⟩
    · exact .inr ⟨e, g, er, D1, D2, e2, h.kept hk hS (fun i q => hD i (h1 i q)), Fo.Hole.kept hk hS (fun i q => hD i (h2 i q)) hr, h1, h2, h3⟩
/-- There is no such kid. -/
theorem Fo.Ow.hole_none {c : UInt8} : ∀ {f : Fo} {es : List Ent} {D : Nat → Prop}, f.Ow w o S es D → f.kid c = none → f.Hole w o S c es D
  | .nil, _, _, h, _ => h
  | .cons b _ _ _, _, _, ⟨g, er, D1, D2, e, h, hr, h1, h2, h3⟩, hk => by
    rw [Fo.kid] at hk
    split at hk
    · cases hk
    · rename_i hb
      exact .inr ⟨hb, g, er, D1, D2, e, h, Fo.Ow.hole_none hr hk, h1, h2, h3⟩
/-- The kid, and the others. -/
theorem Fo.Ow.hole {c : UInt8} {T : Nn × Fo} : ∀ {f : Fo} {es : List Ent} {D : Nat → Prop}, f.Ow w o S es D → f.kid c = some T → Up es → ∃ g Dk Dh, getE es c.toNat = some ⟨g, 0, none⟩ ∧ TOw w o S T.1 T.2 g Dk ∧ f.Hole w o S c es Dh ∧ (∀ i, Dk i → D i) ∧ (∀ i, Dh i → D i) ∧ ∀ i, Dk i → ¬ Dh i
  | .nil, _, _, _, hk, _ => by cases hk
  | .cons b x k r, _, D, ⟨g, er, D1, D2, e, h, hr, h1, h2, h3⟩, hk, hu => by
    subst e
    obtain ⟨u1, u2⟩ := List.pairwise_cons.1 hu
    rw [Fo.kid] at hk
    by_cases hb : b = c
    · subst hb
      rw [if_pos rfl] at hk
      injection hk with hk
      subst hk
      have : look ((b, some ⟨g, 0, none⟩) :: er) b.toNat = some (some ⟨g, 0, none⟩) := (look_some hu).2 ⟨_, List.mem_cons_self .., rfl, rfl⟩
      exact ⟨g, D1, D2, by unfold getE; rw [this]; rfl, h, .inl ⟨rfl, g, er, rfl, hr⟩, h1, h2, h3⟩
    · rw [if_neg hb] at hk
      obtain ⟨g2, Dk, Dh, q1, q2, q3, q4, q5, q6⟩ := Fo.Ow.hole hr hk u2
      have hne : b.toNat ≠ c.toNat := fun q => hb (UInt8.toNat_inj.1 q)
      have hl : look ((b, some ⟨g, 0, none⟩) :: er) c.toNat = look er c.toNat := by
        rcases hx : look er c.toNat with _ | t
        · rw [look_none u2] at hx
          refine (look_none hu).2 fun e he q => ?_
          rcases List.mem_cons.1 he with rfl | he
          · exact hne q
          · exact hx e he q
        · obtain ⟨e, he, q1, q2⟩ := (look_some u2).1 hx
          exact (look_some hu).2 ⟨e, List.mem_cons_of_mem _ he, q1, q2⟩
      refine ⟨g2, Dk, (fun i => D1 i ∨ Dh i), by unfold getE at q1 ⊢; rw [hl]; exact q1, q2, .inr ⟨hb, g, er, D1, Dh, rfl, h, q3, fun i q => .inl q, fun i q => .inr q, fun i z y => h3 i z (q5 i y)⟩, fun i z => h2 i (q4 i z), fun i z => z.elim (h1 i) (fun y => h2 i (q5 i y)), fun i z y => ?_⟩
      rcases y with y | y
      · exact h3 i y (q4 i z)
      · exact q6 i z y
theorem pos_cons (b : UInt8) (t : Th) (er : List Ent) (n : Nat) : pos ((b, t) :: er) n = (if b.toNat < n then 1 else 0) + pos er n := by
  unfold pos
  rw [List.countP_cons]
  by_cases h : b.toNat < n <;> simp [h] <;> omega
theorem pos_low {er : List Ent} {n : Nat} (h : ∀ e ∈ er, n ≤ e.1.toNat) : pos er n = 0 := by
  unfold pos
  rw [List.countP_eq_zero]
  intro e he
  have := h e he
  simp
  omega
theorem set_same {b : UInt8} {t : Th} {er : List Ent} (hu : Up ((b, t) :: er)) (s : Th) : setE ((b, t) :: er) b s = (b, s) :: er := by
  obtain ⟨u1, u2⟩ := List.pairwise_cons.1 hu
  have hp : pos ((b, t) :: er) b.toNat = 0 := by
    rw [pos_cons, if_neg (Nat.lt_irrefl _), pos_low (fun e he => Nat.le_of_lt (u1 e he))]
  unfold setE hasE look
  rw [hp]
  simp
theorem set_lower {b c : UInt8} {t : Th} {er : List Ent} (hu : Up ((b, t) :: er)) (h : c.toNat < b.toNat) (s : Th) : setE ((b, t) :: er) c s = (c, s) :: (b, t) :: er := by
  obtain ⟨u1, u2⟩ := List.pairwise_cons.1 hu
  have hp : pos ((b, t) :: er) c.toNat = 0 := by
    rw [pos_cons, if_neg (by omega), pos_low (fun e he => Nat.le_of_lt (Nat.lt_trans h (u1 e he)))]
  have hn : ¬ b.toNat = c.toNat := by omega
  unfold setE hasE look
  rw [hp]
  simp [hn]
theorem set_higher {b c : UInt8} {t : Th} {er : List Ent} (h : b.toNat < c.toNat) (s : Th) : setE ((b, t) :: er) c s = (b, t) :: setE er c s := by
  have hp : pos ((b, t) :: er) c.toNat = pos er c.toNat + 1 := by
    rw [pos_cons, if_pos h, Nat.add_comm]
  unfold setE hasE look
  rw [hp, List.getElem?_cons_succ]
  split
  · simp only [List.set_cons_succ, List.take_succ_cons, List.drop_succ_cons, List.cons_append]
    split <;> rfl
  · simp
/-- A kid comes back, or a new one comes. -/
theorem Fo.Hole.fill {c : UInt8} {y : Nn} {l : Fo} {g' : Nat} {Dy : Nat → Prop} (hT : TOw w o S y l g' Dy) : ∀ {f : Fo} {es : List Ent} {Dh D : Nat → Prop}, f.Hole w o S c es Dh → Up es → (∀ i, Dy i → D i) → (∀ i, Dh i → D i) → (∀ i, Dy i → ¬ Dh i) → (f.set c y l).Ow w o S (setE es c (some ⟨g', 0, none⟩)) D
  | .nil, _, _, _, h, _, d1, _, _ => by
    obtain rfl : _ = [] := h
    rw [set_end c _ (fun e he => by cases he)]
    exact Fo.Ow.cons (D2 := fun _ => False) (r := .nil) hT rfl d1 (fun i q => q.elim) (fun i _ q => q)
  | .cons b x k r, es, Dh, D, h, hu, d1, d2, d3 => by
    rw [Fo.set]
    rcases h with ⟨e, g, er, rfl, hr⟩ | ⟨e, g, er, D1, D2, rfl, h, hr, h1, h2, h3⟩
    · subst e
      rw [if_pos rfl, set_same hu]
      exact Fo.Ow.cons hT hr d1 d2 d3
    · rw [if_neg (fun q => e q.symm)]
      obtain ⟨u1, u2⟩ := List.pairwise_cons.1 hu
      have hne : b.toNat ≠ c.toNat := fun q => e (UInt8.toNat_inj.1 q)
      by_cases hlt : c.toNat < b.toNat
      · rw [if_pos hlt, set_lower hu hlt]
        have hro : r.Ow w o S er D2 := hole_low hr (fun e he => by have := u1 e he; show c.toNat < e.1.toNat; exact Nat.lt_trans hlt this)
        exact Fo.Ow.cons hT (Fo.Ow.cons h hro h1 h2 h3) d1 d2 d3
      · rw [if_neg hlt, set_higher (by omega)]
        have ih := Fo.Hole.fill hT (D := fun i => Dy i ∨ D2 i) hr u2 (fun i q => .inl q) (fun i q => .inr q) (fun i q z => d3 i q (h2 i z))
        exact Fo.Ow.cons h ih (fun i q => d2 i (h1 i q)) (fun i q => q.elim (d1 i) (fun z => d2 i (h2 i z))) (fun i q z => z.elim (fun y => d3 i y (h1 i q)) (h3 i q))
where
  hole_low {c : UInt8} : ∀ {f : Fo} {es : List Ent} {D : Nat → Prop}, f.Hole w o S c es D → (∀ e ∈ es, c.toNat < e.1.toNat) → f.Ow w o S es D
    | .nil, _, _, h, _ => h
    | .cons b _ _ _, _, _, h, hl => by
      rcases h with ⟨e, g, er, rfl, hr⟩ | ⟨e, g, er, D1, D2, rfl, h, hr, h1, h2, h3⟩
      · subst e
        have := hl _ (List.mem_cons_self ..)
        exact absurd this (Nat.lt_irrefl _)
      · exact ⟨g, er, D1, D2, rfl, h, hole_low hr (fun e he => hl e (List.mem_cons_of_mem _ he)), h1, h2, h3⟩
set_option maxRecDepth 100000 in
/-- An owner's inner node, with a kid of his set. -/
theorem TOw.setkid {x : Nn} {k : Fo} {g g' : Nat} {be : Be} {A : Option Addr} {ek : List Ent} {De Dh Dy : Nat → Prop} {c : UInt8} {y : Nn} {l : Fo} (hx : x.ow = o) (ho : o ≠ 0) (hl : x.leaf = false) (n : Nod w g (x.nd ek) be A) (a1 : ∀ i, be.all g i → De i) (a2 : ∀ i, Pb A x.part i → S i ∨ De i)
    (hh : k.Hole w o S c ek Dh) (ht : TOw w o S y l g' Dy) (d1 : ∀ i, De i → ¬ Dh i ∧ ¬ Dy i ∧ i < w.heap.size) (d2 : ∀ i, Dy i → ¬ Dh i) (dS : ∀ i, S i → ¬ De i) (dl : ∀ i, Dh i ∨ Dy i → i < w.heap.size) (z : Int) (hz : z = (c.toNat : Int)) :
    Calls Tryz.prog 52 #[.pointer (some ⟨g, 0, none⟩), .int .u64 o, .int .u8 z, .pointer (some ⟨g', 0, none⟩)] w fun e w' => e = .returned (.int .i64 0) ∧ TOw w' o S x (k.set c y l) g (fun i => (De i ∨ Dh i ∨ Dy i) ∨ w.heap.size ≤ i) ∧ Kept De w w' := by
  obtain ⟨be2, A2, ek2, n2, _, _⟩ := ht.tre
  have hm : mineB (x.nd ek).ow o = true := mine_yes ho hx.symm
  have h1 := nsetkid_any n o c z hz (some ⟨g', 0, none⟩) (fun a ha => by
    injection ha with ha
    subst ha
    exact ⟨isN y.leaf, by unfold isN; split <;> omega, what_any n2⟩)
  have e1 : setKN (x.nd ek) o (some ⟨g', 0, none⟩) = 0 := by
    unfold setKN
    rw [hm]
    show (if true = true then (if x.leaf = true then _ else _) else _) = _
    rw [hl]
    rfl
  have e2 : nSetKid (x.nd ek) o c (some ⟨g', 0, none⟩) = x.nd (setE ek c (some ⟨g', 0, none⟩)) := by
    unfold nSetKid
    rw [hm]
    show (if (true && !x.leaf && true) = true then _ else _) = _
    rw [hl]
    rfl
  rw [e1, e2] at h1
  have hup : Up ek := n.up
  refine h1.mono ?_
  rintro e w' ⟨rfl, b', A', n', c1, c2, c3⟩
  have hS : ∀ i, S i → ¬ be.all g i := fun i q z => dS i q (a1 i z)
  have hf := Fo.Hole.fill (ht.kept c3 hS (fun i q z => (d1 i (a1 i z)).2.1 q)) (D := fun i => Dy i ∨ Dh i) (hh.kept c3 hS (fun i q z => (d1 i (a1 i z)).1 q)) hup (fun i q => .inl q) (fun i q => .inr q) d2
  refine ⟨rfl, .inl ⟨hx, b', A', _, (fun i => De i ∨ w.heap.size ≤ i), (fun i => Dy i ∨ Dh i), n', fun i hi => ?_, fun i hi => ?_, hf, fun i q => q.imp (fun z => .inl z) id, fun i q => .inl (q.elim (fun z => .inr (.inr z)) (fun z => .inr (.inl z))), fun i q z => ?_⟩, c3.mono a1⟩
  · rcases hi with hi | hi
    · exact .inl (a1 i (.inl hi))
    · exact (c1 i hi).imp (fun z => a1 i (.inr z)) id
  · rcases c2 i hi with q | q
    · exact (a2 i q).imp id .inl
    · exact .inr (.inr q)
  · rcases q with q | q
    · exact z.elim (d1 i q).2.1 (d1 i q).1
    · have := dl i z.symm
      omega
end
end Go.Proofs.YtikmcmoegigfhaaGreatDoor

namespace Go.Proofs.YtikmcmoegigfhaaGreatDoor
open Go.RowKit

section
variable {w w' : World} {o : Int} {S S' D D' : Nat → Prop} {rest : List Value}
/-- A node that is made: its owner's, at new blocks. -/
def NewTow (o : Int) (S : Nat → Prop) (w : World) (m : Option Nat) (rest : List Value) (cnt : Int) (x : Nn) (e : Ending) (w' : World) : Prop :=
  ∃ u, e = .returned (.pointer (some ⟨u, 0, none⟩)) ∧ TOw w' o S x .nil u (fun i => w.heap.size ≤ i) ∧ Kept (fun i => m = some i) w w' ∧ ∀ q, m = some q → Lst w' q (.int .i64 (cnt + 1) :: rest)
theorem MkPost.tow {m : Option Nat} {cnt : Int} {x : Nn} {e : Ending} (hx : x.ow = o) (h : MkPost w m rest cnt (x.nd []) none [] e w') : NewTow o S w m rest cnt x e w' := by
  obtain ⟨u, rfl, ⟨b, A, n1, n2, n3, n4⟩, h2⟩ := h
  refine ⟨u, rfl, TOw.leaf hx n1 n2 (fun i hi => ?_), n4, h2⟩
  rcases n3 i hi with q | q
  · exact absurd rfl q.1
  · exact .inr q
set_option maxRecDepth 100000 in
theorem leaf_tow (m : Option Nat) (cnt v : Int) (n c B : Nat) {A : Option Addr} (l : List UInt8) (hm : Mt w m rest cnt) (ha : Byt w B A n l) (hB : B ≤ w.heap.size) (hn : n ≤ 140737488355328) (hd : ∀ i, Pb A l i → m ≠ some i) :
    Calls Tryz.prog 46 #[mtr m, .int .u64 o, .slice A n c, .int .u64 v] w (NewTow o S w m rest cnt ⟨true, o, l, v, true⟩) :=
  (nleaf_any m cnt o v n c B l w hm ha hB hn hd).mono fun _ _ h => MkPost.tow (x := ⟨true, o, l, v, true⟩) rfl h
set_option maxRecDepth 100000 in
theorem inner_tow (m : Option Nat) (cnt : Int) (n c B : Nat) {A : Option Addr} (l : List UInt8) (hm : Mt w m rest cnt) (ha : Byt w B A n l) (hB : B ≤ w.heap.size) (hn : n ≤ 140737488355328) (hd : ∀ i, Pb A l i → m ≠ some i) :
    Calls Tryz.prog 71 #[mtr m, .int .u64 o, .slice A n c] w (NewTow o S w m rest cnt ⟨false, o, l, 0, false⟩) :=
  (ninner_any m cnt o n c B l w hm ha hB hn hd).mono fun _ _ h => MkPost.tow (x := ⟨false, o, l, 0, false⟩) rfl h
set_option maxRecDepth 100000 in
/-- A node made the owner's own: itself, or a copy. -/
theorem TOw.own {x : Nn} {k : Fo} {g : Nat} (h : TOw w o S x k g D) (ho : o ≠ 0) (m : Option Nat) (cnt : Int) (hm : Mt w m rest cnt) (hmS : ∀ i, m = some i → ¬ S i) :
    Calls Tryz.prog 49 #[.pointer (some ⟨g, 0, none⟩), mtr m, .int .u64 o] w fun e w' => ∃ (u : Nat) (Du : Nat → Prop), e = .returned (.pointer (some ⟨u, 0, none⟩)) ∧ TOw w' o S ⟨x.leaf, o, x.part, x.val, x.has⟩ k u Du ∧ (∀ i, Du i → D i ∨ w.heap.size ≤ i) ∧ Kept (fun i => m = some i) w w' ∧ (∀ q, m = some q → Lst w' q (.int .i64 (cnt + (if x.ow = o then 0 else 1)) :: rest)) ∧ (x.ow = o → u = g ∧ w' = w) := by
  by_cases hx : x.ow = o
  · refine (h.own_yes hx ho (mtr m)).mono ?_
    rintro e w' ⟨rfl, rfl⟩
    refine ⟨g, D, rfl, ?_, fun i q => .inl q, Kept.refl _ _, fun q hq => ?_, fun _ => ⟨rfl, rfl⟩⟩
    · have : (⟨x.leaf, o, x.part, x.val, x.has⟩ : Nn) = x := by rw [← hx]
      rw [this]
      exact h
    · rw [if_pos hx, Int.add_zero]
      exact (hm q hq).1
  · refine (h.own_no hx m cnt hm hmS).mono ?_
    rintro e w' ⟨u, rfl, h1, h2, h3⟩
    refine ⟨u, _, rfl, h1, fun i q => .inr q, h2, fun q hq => ?_, fun e => absurd e hx⟩
    rw [if_neg hx]
    exact h3 q hq
theorem Fo.no_kid : ∀ {f : Fo} {c : UInt8} {T : Nn × Fo}, f.no o → f.kid c = some T → T.1.ow ≠ o ∧ T.2.no o
  | .nil, _, _, _, h => by cases h
  | .cons b x k r, c, T, ⟨h1, h2, h3⟩, h => by
    rw [Fo.kid] at h
    split at h
    · injection h with h
      subst h
      exact ⟨h1, h2⟩
    · exact Fo.no_kid h3 h
/-- The kid by a byte, below a node that is not the owner's. -/
theorem TOw.kid_no {x : Nn} {k : Fo} {g : Nat} (h : TOw w o S x k g D) (hx : x.ow ≠ o) (c : UInt8) :
    ∃ (be : Be) (A : Option Addr) (ek : List Ent), Nod w g (x.nd ek) be A ∧ (∀ i, be.all g i ∨ Pb A x.part i → S i) ∧ OTow w o S (k.kid c) (getE ek c.toNat) (fun _ => False) := by
  rcases h with ⟨q, _⟩ | ⟨_, hn, be, A, ek, n, hS, hk⟩
  · exact absurd q hx
  · refine ⟨be, A, ek, n, hS, ?_⟩
    have h1 := hk.kid_ c n.up
    rcases hc : k.kid c with _ | T
    · rw [hc] at h1
      exact h1
    · rw [hc] at h1
      obtain ⟨q1, q2⟩ := Fo.no_kid hn hc
      obtain ⟨gk, e, ht⟩ := h1
      exact ⟨gk, e, TOw.of_no q1 q2 ht⟩
/-- The kid by a byte, below a node of the owner's: it lies apart from the node and from the other kids. -/
theorem TOw.kid_yes {x : Nn} {k : Fo} {g : Nat} (h : TOw w o S x k g D) (hx : x.ow = o) (c : UInt8) :
    ∃ (be : Be) (A : Option Addr) (ek : List Ent) (De Dh Dy : Nat → Prop), Nod w g (x.nd ek) be A ∧ (∀ i, be.all g i → De i) ∧ (∀ i, Pb A x.part i → S i ∨ De i) ∧ k.Hole w o S c ek Dh ∧ OTow w o S (k.kid c) (getE ek c.toNat) Dy ∧
      (∀ i, De i → D i ∧ i < w.heap.size) ∧ (∀ i, Dh i → D i ∧ i < w.heap.size) ∧ (∀ i, Dy i → D i ∧ i < w.heap.size) ∧ (∀ i, De i → ¬ Dh i ∧ ¬ Dy i) ∧ ∀ i, Dy i → ¬ Dh i := by
  rcases h.there with ⟨_, be, A, ek, De, Dk, n, a1, a2, a3, a4, a5, a6⟩ | ⟨q, _⟩
  · rcases hc : k.kid c with _ | T
    · have h1 := (Fo.Ow.is a3).kid_ c n.up
      rw [hc] at h1
      exact ⟨be, A, ek, De, Dk, fun _ => False, n, a1, a2, Fo.Ow.hole_none a3 hc, h1, a4, a5, fun i q => q.elim, fun i q => ⟨a6 i q, fun z => z⟩, fun i q => q.elim⟩
    · obtain ⟨gk, Dy, Dh, e, h1, h2, h3, h4, h5⟩ := Fo.Ow.hole (c := c) a3 hc n.up
      exact ⟨be, A, ek, De, Dh, Dy, n, a1, a2, h2, ⟨gk, e, h1⟩, a4, fun i q => a5 i (h4 i q), fun i q => a5 i (h3 i q), fun i q => ⟨fun z => a6 i q (h4 i z), fun z => a6 i q (h3 i z)⟩, h5⟩
  · exact absurd hx q
set_option maxRecDepth 100000 in
/-- A kid set in an owner's node, which lies apart from it. -/
theorem TOw.setnew {x y : Nn} {k l : Fo} {g g' : Nat} {c : UInt8} {Dy : Nat → Prop} (h : TOw w o S x k g D) (hx : x.ow = o) (ho : o ≠ 0) (hl : x.leaf = false) (ht : TOw w o S y l g' Dy) (hD : ∀ i, D i → ¬ Dy i) (dS : ∀ i, S i → ¬ D i) (z : Int) (hz : z = (c.toNat : Int)) :
    Calls Tryz.prog 52 #[.pointer (some ⟨g, 0, none⟩), .int .u64 o, .int .u8 z, .pointer (some ⟨g', 0, none⟩)] w fun e w' => e = .returned (.int .i64 0) ∧ TOw w' o S x (k.set c y l) g (fun i => (D i ∨ Dy i) ∨ w.heap.size ≤ i) ∧ Kept D w w' := by
  obtain ⟨be, A, ek, De, Dh, _, n, a1, a2, hh, _, b1, b2, _, b4, _⟩ := h.kid_yes hx c
  refine (TOw.setkid hx ho hl n a1 a2 hh ht.there (fun i q => ⟨(b4 i q).1, fun z => hD i (b1 i q).1 z.1, (b1 i q).2⟩) (fun i q z => hD i (b2 i z).1 q.1) (fun i q z => dS i q (b1 i z).1) (fun i q => q.elim (fun z => (b2 i z).2) (fun z => z.2)) z hz).mono ?_
  rintro e w' ⟨rfl, h1, h2⟩
  refine ⟨rfl, h1.mono fun i q => ?_, h2.mono fun i q => (b1 i q).1⟩
  rcases q with (q | q | q) | q
  · exact .inl (.inl (b1 i q).1)
  · exact .inl (.inl (b2 i q).1)
  · exact .inl (.inr q.1)
  · exact .inr q
/-- An owner's node whose kid by a byte is away: below B all of it, and apart from Dy. -/
def Opn (w : World) (o : Int) (S D : Nat → Prop) (B : Nat) (x : Nn) (k : Fo) (g : Nat) (c : UInt8) (ek : List Ent) (Dy : Nat → Prop) : Prop :=
  ∃ (be : Be) (A : Option Addr) (De Dh : Nat → Prop), Nod w g (x.nd ek) be A ∧ (∀ i, be.all g i → De i) ∧ (∀ i, Pb A x.part i → S i ∨ De i) ∧ k.Hole w o S c ek Dh ∧ (∀ i, De i → D i ∧ i < B) ∧ (∀ i, Dh i → D i ∧ i < B) ∧ (∀ i, De i → ¬ Dh i ∧ ¬ Dy i) ∧ ∀ i, Dy i → ¬ Dh i
theorem TOw.opn {x : Nn} {k : Fo} {g : Nat} (h : TOw w o S x k g D) (hx : x.ow = o) (c : UInt8) : ∃ ek Dy, Opn w o S D w.heap.size x k g c ek Dy ∧ OTow w o S (k.kid c) (getE ek c.toNat) Dy ∧ ∀ i, Dy i → D i ∧ i < w.heap.size := by
  obtain ⟨be, A, ek, De, Dh, Dy, n, a1, a2, hh, ht, b1, b2, b3, b4, b5⟩ := h.kid_yes hx c
  exact ⟨ek, Dy, ⟨be, A, De, Dh, n, a1, a2, hh, b1, b2, b4, b5⟩, ht, b3⟩
theorem Opn.nod {B : Nat} {x : Nn} {k : Fo} {g : Nat} {c : UInt8} {ek : List Ent} {Dy : Nat → Prop} (h : Opn w o S D B x k g c ek Dy) : ∃ be A, Nod w g (x.nd ek) be A := by
  obtain ⟨be, A, _, _, n, _⟩ := h
  exact ⟨be, A, n⟩
theorem Opn.kept {B : Nat} {x : Nn} {k : Fo} {g : Nat} {c : UInt8} {ek : List Ent} {Dy N : Nat → Prop} (h : Opn w o S D B x k g c ek Dy) (hk : Kept N w w') (hS : ∀ i, S i → ¬ N i) (hN : ∀ i, N i → Dy i ∨ ¬ D i) : Opn w' o S D B x k g c ek Dy := by
  obtain ⟨be, A, De, Dh, n, a1, a2, hh, b1, b2, b4, b5⟩ := h
  have hDe : ∀ i, De i → ¬ N i := fun i q z => (hN i z).elim (b4 i q).2 (fun t => t (b1 i q).1)
  have hDh : ∀ i, Dh i → ¬ N i := fun i q z => (hN i z).elim (fun t => b5 i t q) (fun t => t (b2 i q).1)
  exact ⟨be, A, De, Dh, n.kept hk fun i q => q.elim (fun z => hDe i (a1 i z)) (fun z => (a2 i z).elim (hS i) (hDe i)), a1, a2, hh.kept hk hS hDh, b1, b2, b4, b5⟩
set_option maxRecDepth 100000 in
/-- The kid comes back, or another one in its place. -/
theorem Opn.close {B : Nat} {x y : Nn} {k l : Fo} {g g' : Nat} {c : UInt8} {ek : List Ent} {Dy Dn : Nat → Prop} (h : Opn w o S D B x k g c ek Dy) (hx : x.ow = o) (ho : o ≠ 0) (hl : x.leaf = false) (hB : B ≤ w.heap.size) (ht : TOw w o S y l g' Dn) (hn : ∀ i, Dn i → Dy i ∨ B ≤ i) (hd : ∀ i, Dy i → D i) (dS : ∀ i, S i → ¬ D i) (z : Int) (hz : z = (c.toNat : Int)) :
    Calls Tryz.prog 52 #[.pointer (some ⟨g, 0, none⟩), .int .u64 o, .int .u8 z, .pointer (some ⟨g', 0, none⟩)] w fun e w' => e = .returned (.int .i64 0) ∧ TOw w' o S x (k.set c y l) g (fun i => D i ∨ B ≤ i) ∧ Kept D w w' := by
  obtain ⟨be, A, De, Dh, n, a1, a2, hh, b1, b2, b4, b5⟩ := h
  refine (TOw.setkid hx ho hl n a1 a2 hh ht.there (fun i q => ⟨(b4 i q).1, fun z => ?_, by have := (b1 i q).2; omega⟩) (fun i q z => ?_) (fun i q z => dS i q (b1 i z).1) (fun i q => q.elim (fun z => by have := (b2 i z).2; omega) (fun z => z.2)) z hz).mono ?_
  · rcases hn i z.1 with t | t
    · exact (b4 i q).2 t
    · have := (b1 i q).2
      omega
  · rcases hn i q.1 with t | t
    · exact b5 i t z
    · have := (b2 i z).2
      omega
  rintro e w' ⟨rfl, h1, h2⟩
  refine ⟨rfl, h1.mono fun i q => ?_, h2.mono fun i q => (b1 i q).1⟩
  rcases q with (q | q | q) | q
  · exact .inl (b1 i q).1
  · exact .inl (b2 i q).1
  · exact (hn i q.1).imp (hd i) id
  · exact .inr (by omega)
set_option maxRecDepth 100000 in
/-- What a part set leaves (the owner's own node). -/
theorem TOw.setpart {x : Nn} {k : Fo} {g : Nat} (h : TOw w o S x k g D) (hx : x.ow = o) (ho : o ≠ 0) (hSD : ∀ i, S i → ¬ D i) (A' : Option Addr) (n c B : Nat) (l : List UInt8) (ha : Byt w B A' n l) (hB : B ≤ w.heap.size) (hn : n ≤ 140737488355328) :
    Calls Tryz.prog 74 #[.pointer (some ⟨g, 0, none⟩), .int .u64 o, .slice A' n c] w fun e w' => e = .returned (.int .i64 0) ∧ TOw w' o S ⟨x.leaf, o, l, x.val, x.has⟩ k g (fun i => D i ∨ w.heap.size ≤ i) ∧ Kept D w w' := by
  refine TOw.wrote (x' := ⟨x.leaf, o, l, x.val, x.has⟩) hx rfl h hSD fun be A ek nd => ?_
  have h1 := nsetpart_any nd o A' n c B l ha hB hn
  have hm : mineB (x.nd ek).ow o = true := mine_yes ho hx.symm
  have e1 : closN (x.nd ek) o = 0 := by unfold closN; rw [hm]; rfl
  have e2 : nSetPart (x.nd ek) o l = (⟨x.leaf, o, l, x.val, x.has⟩ : Nn).nd ek := by
    unfold nSetPart
    rw [hm]
    show ({ x.nd ek with part := l } : Nd) = _
    rw [← hx]
  rw [e1, e2] at h1
  exact h1
end
end Go.Proofs.YtikmcmoegigfhaaGreatDoor
