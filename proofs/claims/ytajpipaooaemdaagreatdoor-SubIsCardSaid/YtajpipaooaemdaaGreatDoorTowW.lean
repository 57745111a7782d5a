/-
  Where bytes are looked for in a tree: the nodes that are gone into, and what each of them tells. No program is run.
  The value of the first pair by a key. No program is run.
  What an owner does to a tree: a node is made his own, a value is set, a kid is taken out to be written to and is put back.
  Nodes that an owner makes, and where the kid by a byte lies: what a walk with one owner needs at each node.
-/
import Derived.Test.YtajpipaooaemdaaGreatDoorCanonPt
import Derived.Test.YtajpipaooaemdaaGreatDoorDtShape
import Derived.Test.YtajpipaooaemdaaGreatDoorCanon
import Derived.Test.YtajpipaooaemdaaGreatDoorNdWrite
import Derived.Test.YtajpipaooaemdaaGreatDoorBuild
namespace Go.Proofs.YtajpipaooaemdaaGreatDoor
open Go.RowKit

/-- What a node tells with whose part the bytes begin, a bytes being taken off ahead of it. -/
def Nn.tell (x : Nn) (a : Nat) : Option (Nat × Int) := if x.has then some (a + x.part.length, x.val) else none
/-- The nodes that are gone into, from the kid by c on. -/
def Fo.goes : Fo → UInt8 → List UInt8 → Nat → List (Option (Nat × Int))
  | .nil, _, _, _ => []
  | .cons b x k r, c, l, a =>
    if b = c then
      (if begB l x.part = true then x.tell a :: (match l.drop x.part.length with
        | [] => []
        | c' :: l' => k.goes c' l' (a + x.part.length + 1))
      else [none])
    else r.goes c l a
/-- The nodes that are gone into, from the top one on. -/
def tgo (x : Nn) (k : Fo) (l : List UInt8) (a : Nat) : List (Option (Nat × Int)) :=
  if begB l x.part = true then x.tell a :: (match l.drop x.part.length with
    | [] => []
    | c' :: l' => k.goes c' l' (a + x.part.length + 1))
  else [none]
def ogo : Option (Nn × Fo) → List UInt8 → Nat → List (Option (Nat × Int))
  | none, _, _ => []
  | some t, l, a => tgo t.1 t.2 l a
def Fo.kid : Fo → UInt8 → Option (Nn × Fo)
  | .nil, _ => none
  | .cons b x k r, c => if b = c then some (x, k) else r.kid c
theorem Fo.goes_cons (b : UInt8) (x : Nn) (k r : Fo) (c : UInt8) (l : List UInt8) (a : Nat) : (Fo.cons b x k r).goes c l a = if b = c then tgo x k l a else r.goes c l a := by
  rw [Fo.goes]
  rfl
theorem Fo.goes_kid : ∀ (f : Fo) (c : UInt8) (l : List UInt8) (a : Nat), f.goes c l a = ogo (f.kid c) l a
  | .nil, _, _, _ => rfl
  | .cons b x k r, c, l, a => by
    rw [Fo.goes_cons, Fo.kid]
    split
    · rfl
    · exact Fo.goes_kid r c l a
theorem tgo_no {x : Nn} {k : Fo} {l : List UInt8} {a : Nat} (h : begB l x.part = false) : tgo x k l a = [none] := by
  unfold tgo
  rw [h]
  rfl
theorem tgo_end {x : Nn} {k : Fo} {l : List UInt8} {a : Nat} (h : begB l x.part = true) (hl : l.length = x.part.length) : tgo x k l a = [x.tell a] := by
  unfold tgo
  rw [if_pos h, List.drop_of_length_le (by omega)]
theorem tgo_on {x : Nn} {k : Fo} {l l' : List UInt8} {c : UInt8} {a : Nat} (h : begB l x.part = true) (hl : l.drop x.part.length = c :: l') : tgo x k l a = x.tell a :: ogo (k.kid c) l' (a + x.part.length + 1) := by
  unfold tgo
  rw [if_pos h, hl, ← Fo.goes_kid]
/-- The kid, in memory. -/
theorem Fo.Is.kid_ {w : World} {S : Nat → Prop} (c : UInt8) : ∀ {f : Fo} {es : List Ent}, f.Is w S es → Up es → OTre w S (f.kid c) (getE es c.toNat)
  | .nil, _, h, _ => by
    obtain rfl : _ = [] := h
    rfl
  | .cons b x k r, _, ⟨g, be, A, ek, er, e, h1, h2, h3, h4⟩, hu => by
    subst e
    obtain ⟨u1, u2⟩ := List.pairwise_cons.1 hu
    rw [Fo.kid]
    by_cases hb : b = c
    · subst hb
      rw [if_pos rfl]
      have : look ((b, some ⟨g, 0, none⟩) :: er) b.toNat = some (some ⟨g, 0, none⟩) := (look_some hu).2 ⟨_, List.mem_cons_self .., rfl, rfl⟩
      exact ⟨g, by unfold getE; rw [this]; rfl, be, A, ek, h1, h2, h3⟩
    · rw [if_neg hb]
      have hne : b.toNat ≠ c.toNat := fun q => hb (UInt8.toNat_inj.1 q)
      have : look ((b, some ⟨g, 0, none⟩) :: er) c.toNat = look er c.toNat := by
        rcases hx : look er c.toNat with _ | t
        · rw [look_none u2] at hx
          refine (look_none hu).2 fun e he q => ?_
          rcases List.mem_cons.1 he with rfl | he
          · exact hne q
          · exact hx e he q
        · obtain ⟨e, he, q1, q2⟩ := (look_some u2).1 hx
          exact (look_some hu).2 ⟨e, List.mem_cons_of_mem _ he, q1, q2⟩
      have ih := Fo.Is.kid_ c h4 u2
      unfold getE at ih ⊢
      rw [this]
      exact ih

/-- What bytes begin with: a part, and what stands behind it. -/
theorem beg_app {l p q : List UInt8} : begB l (p ++ q) = (begB l p && begB (l.drop p.length) q) := by
  induction p generalizing l with
  | nil => simp [begB, lcp]
  | cons u p ih =>
    cases l with
    | nil => simp [begB, lcp]
    | cons v l =>
      by_cases h : v = u
      · subst h
        have : ∀ m : List UInt8, begB (v :: l) (v :: m) = begB l m := fun m => by
          unfold begB
          rw [lcp_same, List.length_cons]
          exact decide_eq_decide.2 ⟨fun q => by omega, fun q => by omega⟩
        rw [List.cons_append, this, this, ih]
        rfl
      · have : ∀ m : List UInt8, begB (v :: l) (u :: m) = false := fun m => by
          unfold begB
          rw [lcp_ne h]
          exact decide_eq_false (by simp)
        rw [List.cons_append, this, this]
        rfl
theorem beg_nil (l : List UInt8) : begB l [] = true := by simp [begB, lcp]
theorem beg_cons {c b : UInt8} {l m : List UInt8} : begB (c :: l) (b :: m) = (decide (c = b) && begB l m) := by
  have := beg_app (l := c :: l) (p := [b]) (q := m)
  rw [List.singleton_append] at this
  rw [this]
  congr 1
  unfold begB
  by_cases h : c = b
  · subst h; rw [lcp_same]; simp [lcp]
  · rw [lcp_ne h, decide_eq_false h]; simp
theorem beg_short {b : UInt8} {m : List UInt8} : begB [] (b :: m) = false := by simp [begB, lcp]
theorem beg_whole {l m : List UInt8} (h : begB l m = true) (hl : l.length = m.length) : l = m := by
  unfold begB at h
  have h := of_decide_eq_true h
  have := lcp_take (p := l) (u := m) (e := m.length) (by omega)
  rw [List.drop_length, List.append_nil, List.take_of_length_le (by omega)] at this
  exact this.symm
theorem beg_len {l m : List UInt8} (h : begB l m = true) : m.length ≤ l.length := by
  have := lcp_le_left l m
  have h := of_decide_eq_true (h : decide _ = true)
  omega
theorem beg_self (l : List UInt8) : begB l l = true := decide_eq_true (lcp_same2 l)

/-- The pairs with whose keys the bytes begin, as they are told: how many bytes, the value. -/
def begsL (L : List KV) (l : List UInt8) (a : Nat) : List (Nat × Int) := (L.filter fun p => begB l p.1).map fun p => (a + p.1.length, p.2)
theorem begs_app (L M : List KV) (l : List UInt8) (a : Nat) : begsL (L ++ M) l a = begsL L l a ++ begsL M l a := by
  unfold begsL
  rw [List.filter_append, List.map_append]
theorem begs_none {L : List KV} {l : List UInt8} {a : Nat} (h : ∀ p ∈ L, begB l p.1 = false) : begsL L l a = [] := by
  unfold begsL
  rw [List.filter_eq_nil_iff.2 (fun p hp => by rw [h p hp]; simp)]
  rfl
/-- Behind a part with which the bytes begin. -/
theorem begs_part {L : List KV} {u l : List UInt8} {a : Nat} (h : begB l u = true) : begsL (L.map fun p => (u ++ p.1, p.2)) l a = begsL L (l.drop u.length) (a + u.length) := by
  unfold begsL
  rw [List.filter_map, List.map_map]
  have : ((fun p : KV => begB l p.1) ∘ fun p : KV => (u ++ p.1, p.2)) = fun p : KV => begB (l.drop u.length) p.1 := by
    funext p
    show begB l (u ++ p.1) = _
    rw [beg_app, h, Bool.true_and]
  rw [this]
  refine List.map_congr_left fun p _ => ?_
  show (a + (u ++ p.1).length, p.2) = _
  rw [List.length_append, Nat.add_assoc]
theorem begs_part_no {L : List KV} {u l : List UInt8} {a : Nat} (h : begB l u = false) : begsL (L.map fun p => (u ++ p.1, p.2)) l a = [] := begs_none fun p hp => by
  obtain ⟨q, _, rfl⟩ := List.mem_map.1 hp
  show begB l (u ++ q.1) = false
  rw [beg_app, h]
  rfl
theorem Fo.heads_nil {o : Int} {f : Fo} (h : f.wf o) : ∀ p ∈ f.list [], ∃ c t, p.1 = c :: t := by
  cases f with
  | nil => intro p hp; cases hp
  | cons b y k' r =>
    obtain ⟨g1, g2, g3, g4⟩ := h
    intro p hp
    rw [Fo.list_nil_cons] at hp
    rcases List.mem_append.1 hp with q | q
    · obtain ⟨u, _, rfl⟩ := List.mem_map.1 q
      exact ⟨b, u.1, rfl⟩
    · obtain ⟨c, t, e, _⟩ := Fo.heads g4 g1 p q
      exact ⟨c, t, e⟩
/-- The step at a node. -/
theorem tgo_step {o : Int} {x : Nn} {k : Fo} (hk : k.wf o) (ih' : ∀ c l a, (k.goes c l (a + 1)).filterMap id = begsL (k.list []) (c :: l) a) (l : List UInt8) (a : Nat) :
    (tgo x k l a).filterMap id = begsL (tlist x k []) l a := by
  rw [tlist_part, begs_app]
  have h0 : begsL (if x.has then [(x.part, x.val)] else []) l a = if begB l x.part = true then (x.tell a).toList else [] := by
    unfold begsL Nn.tell
    cases hh : x.has with
    | false => simp
    | true =>
      cases hb : begB l x.part with
      | true => simp [hb]
      | false => simp [hb]
  rw [h0]
  cases hb : begB l x.part with
  | false => rw [tgo_no hb, begs_part_no hb]; rfl
  | true =>
    rw [begs_part hb, if_pos rfl]
    rcases hd : l.drop x.part.length with _ | ⟨c, l'⟩
    · have hl := beg_len hb
      have : l.length ≤ x.part.length := by have := congrArg List.length hd; simp at this; omega
      rw [tgo_end hb (by omega), begs_none (fun p hp => by obtain ⟨c, t, e⟩ := Fo.heads_nil hk p hp; rw [e]; exact beg_short), List.append_nil]
      cases x.tell a <;> rfl
    · rw [tgo_on hb hd, ← Fo.goes_kid, ← ih']
      cases x.tell a <;> simp
theorem Fo.goes_begs {o : Int} : ∀ {f : Fo}, f.wf o → ∀ (c : UInt8) (l : List UInt8) (a : Nat), (f.goes c l (a + 1)).filterMap id = begsL (f.list []) (c :: l) a
  | .nil, _, _, _, _ => rfl
  | .cons b x k r, ⟨h1, _, h3, h4⟩, c, l, a => by
    rw [Fo.goes_cons, Fo.list_nil_cons, begs_app]
    by_cases hb : b = c
    · subst hb
      have e1 : begsL (r.list []) (b :: l) a = [] := begs_none fun p hp => by
        obtain ⟨c, t, e, hc⟩ := Fo.heads h4 h1 p hp
        rw [e, beg_cons, decide_eq_false (fun q => by subst q; omega)]
        rfl
      have hs : begB (b :: l) [b] = true := by rw [beg_cons, decide_eq_true rfl, beg_nil]; rfl
      have e2 := begs_part (L := tlist x k []) (a := a) hs
      rw [if_pos rfl, e1, List.append_nil, tgo_step h3 (Fo.goes_begs h3)]
      exact e2.symm
    · have hs : begB (c :: l) [b] = false := by rw [beg_cons, decide_eq_false (fun q => hb q.symm)]; rfl
      have e2 := begs_part_no (L := tlist x k []) (a := a) hs
      rw [if_neg hb, Fo.goes_begs h4]
      have e3 : begsL ((tlist x k []).map fun p => (b :: p.1, p.2)) (c :: l) a = [] := e2
      rw [e3, List.nil_append]
/-- P14.3, in full: what is told is what the tree's pairs say. -/
theorem tgo_begs {o : Int} {x : Nn} {k : Fo} (hk : k.wf o) (l : List UInt8) (a : Nat) : (tgo x k l a).filterMap id = begsL (tlist x k []) l a := tgo_step hk (Fo.goes_begs hk) l a

/-- A tree's pairs, or nothing's. -/
def olist : Option (Nn × Fo) → List KV
  | none => []
  | some t => tlist t.1 t.2 []
def owf : Option (Nn × Fo) → Prop
  | none => True
  | some t => t.2.wf 1
theorem ogo_begs {t : Option (Nn × Fo)} (h : owf t) (l : List UInt8) (a : Nat) : (ogo t l a).filterMap id = begsL (olist t) l a := by
  cases t with
  | none => rfl
  | some t => exact tgo_begs h l a
theorem olist_rise {t : Option (Nn × Fo)} (h : owf t) : Rise (olist t) := by
  cases t with
  | none => exact List.Pairwise.nil
  | some t => exact tree_rise h (Fo.rise h)
/-- What Get tells, of what is told of the beginnings: that of as many bytes as there are. -/
def getF (L : List (Nat × Int)) (n : Nat) : Int × Bool := L.foldl (fun s p => if p.1 = n then (p.2, true) else s) (0, false)
def getK (L : List KV) (l : List UInt8) : Int × Bool := L.foldl (fun s p => if p.1 = l then (p.2, true) else s) (0, false)
theorem getK_begs (L : List KV) (l : List UInt8) : getF (begsL L l 0) l.length = getK L l := by
  unfold getF getK begsL
  generalize ((0, false) : Int × Bool) = s
  induction L generalizing s with
  | nil => rfl
  | cons p L ih =>
    rw [List.filter_cons]
    by_cases hb : begB l p.1 = true
    · rw [if_pos hb, List.map_cons, List.foldl_cons, List.foldl_cons, ← ih]
      congr 1
      by_cases hl : p.1 = l
      · rw [if_pos hl, if_pos (by rw [hl]; simp)]
      · rw [if_neg hl, if_neg (fun q => hl (beg_whole hb (by simp at q; omega)).symm)]
    · rw [if_neg hb, List.foldl_cons, ← ih, if_neg (fun q => hb (by rw [q]; exact beg_self l))]
theorem getK_none {L : List KV} {l : List UInt8} (h : ∀ p ∈ L, p.1 ≠ l) : getK L l = (0, false) := by
  unfold getK
  generalize ((0, false) : Int × Bool) = s
  induction L generalizing s with
  | nil => rfl
  | cons p L ih =>
    rw [List.foldl_cons, if_neg (h p (List.mem_cons_self ..))]
    exact ih (fun q hq => h q (List.mem_cons_of_mem _ hq)) s
theorem getK_app (L M : List KV) (l : List UInt8) (h : ∀ p ∈ M, p.1 ≠ l) : getK (L ++ M) l = getK L l := by
  unfold getK
  rw [List.foldl_append]
  generalize L.foldl _ _ = s
  induction M generalizing s with
  | nil => rfl
  | cons p M ih =>
    rw [List.foldl_cons, if_neg (h p (List.mem_cons_self ..))]
    exact ih (fun q hq => h q (List.mem_cons_of_mem _ hq)) s
theorem lt_irr (l : List UInt8) : ¬ cmpL l l < 0 := fun h => by
  induction l with
  | nil => exact lt_nil h
  | cons u l ih =>
    rw [lt_cons] at h
    rcases h with h | ⟨_, h⟩
    · omega
    · exact ih h
/-- Where keys rise, the one that is there is told. -/
theorem getK_at {L : List KV} (h : Rise L) {i : Nat} {p : KV} (hi : L[i]? = some p) : getK L p.1 = (p.2, true) := by
  obtain ⟨hl, hp⟩ := List.getElem?_eq_some_iff.1 hi
  have e : L = L.take i ++ [p] ++ L.drop (i + 1) := by
    rw [List.append_assoc, List.singleton_append, ← hp, List.getElem_cons_drop]
    exact (List.take_append_drop i L).symm
  have h2 : ∀ q ∈ L.drop (i + 1), q.1 ≠ p.1 := fun q hq hqe => by
    obtain ⟨j, hj⟩ := List.mem_iff_getElem?.1 hq
    rw [List.getElem?_drop] at hj
    obtain ⟨hl2, e2⟩ := List.getElem?_eq_some_iff.1 hj
    have := List.pairwise_iff_getElem.1 h i (i + 1 + j) hl hl2 (by omega)
    rw [e2, hqe, hp] at this
    exact lt_irr _ this
  rw [e, getK_app _ _ _ h2]
  unfold getK
  rw [List.foldl_append]
  simp
theorem getK_mem {L : List KV} (h : Rise L) {p : KV} (hp : p ∈ L) : getK L p.1 = (p.2, true) := by
  obtain ⟨i, hi⟩ := List.mem_iff_getElem?.1 hp
  exact getK_at h hi
/-- What Longest tells: the last one of all. -/
def lastF (L : List (Nat × Int)) : Nat × Int × Bool := L.foldl (fun _ p => (p.1, p.2, true)) (0, 0, false)
end Go.Proofs.YtajpipaooaemdaaGreatDoor

namespace Go.Proofs.YtajpipaooaemdaaGreatDoor
open Go.RowKit

def firstK : List KV → List UInt8 → Int × Bool
  | [], _ => (0, false)
  | p :: L, l => if p.1 = l then (p.2, true) else firstK L l
theorem firstK_cases (L : List KV) (l : List UInt8) : ((∀ p ∈ L, p.1 ≠ l) ∧ firstK L l = (0, false)) ∨ ∃ p ∈ L, p.1 = l ∧ firstK L l = (p.2, true) := by
  induction L with
  | nil => exact .inl ⟨fun _ h => (by cases h), rfl⟩
  | cons p L ih =>
    by_cases h : p.1 = l
    · exact .inr ⟨p, List.mem_cons_self .., h, by rw [firstK, if_pos h]⟩
    · rcases ih with ⟨h1, h2⟩ | ⟨q, h1, h2, h3⟩
      · refine .inl ⟨fun q hq => ?_, by rw [firstK, if_neg h]; exact h2⟩
        rcases List.mem_cons.1 hq with rfl | hq
        · exact h
        · exact h1 q hq
      · exact .inr ⟨q, List.mem_cons_of_mem _ h1, h2, by rw [firstK, if_neg h]; exact h3⟩
theorem first_get {L : List KV} (h : Rise L) (l : List UInt8) : firstK L l = getK L l := by
  rcases firstK_cases L l with ⟨h1, h2⟩ | ⟨p, h1, rfl, h3⟩
  · rw [h2, getK_none h1]
  · rw [h3, getK_mem h h1]
end Go.Proofs.YtajpipaooaemdaaGreatDoor

namespace Go.Proofs.YtajpipaooaemdaaGreatDoor
open Go.RowKit

/-- A kid set in a forest, by its byte. -/
def Fo.set : Fo → UInt8 → Nn → Fo → Fo
  | .nil, c, y, l => .cons c y l .nil
  | .cons b x k r, c, y, l => if c = b then .cons c y l r else if c.toNat < b.toNat then .cons c y l (.cons b x k r) else .cons b x k (r.set c y l)
section
variable {w w' : World} {o : Int} {S S' D D' : Nat → Prop}
theorem Fo.Ow.of_is : ∀ {f : Fo} {es : List Ent} {D : Nat → Prop}, f.no o → f.Is w S es → f.Ow w o S es D
  | .nil, _, _, _, h => h
  | .cons _ _ _ _, _, _, ⟨n1, n2, n3⟩, ⟨g, be, A, ek, er, e, h1, h2, h3, h4⟩ =>
    ⟨g, er, (fun _ => False), (fun _ => False), e, .inr ⟨n1, n2, be, A, ek, h1, h2, h3⟩, Fo.Ow.of_is n3 h4, fun _ q => q.elim, fun _ q => q.elim, fun _ q => q.elim⟩
set_option maxRecDepth 100000 in
/-- A node that is the owner's already. -/
theorem TOw.own_yes {x : Nn} {k : Fo} {g : Nat} (h : TOw w o S x k g D) (hx : x.ow = o) (ho : o ≠ 0) (v : Value) :
    Calls Tryz.prog 72 #[.pointer (some ⟨g, 0, none⟩), v, .int .u64 o] w fun e w' => e = .returned (.pointer (some ⟨g, 0, none⟩)) ∧ w' = w := by
  rcases h with ⟨_, be, A, ek, De, Dk, n, _⟩ | ⟨q, _⟩
  · exact nown_yes n v o (mine_yes ho hx.symm)
  · exact absurd hx q
set_option maxRecDepth 100000 in
/-- A copy of one that is another one's. -/
theorem TOw.own_no {x : Nn} {k : Fo} {g : Nat} (h : TOw w o S x k g D) (hx : x.ow ≠ o) {rest : List Value} (m : Option Nat) (cnt : Int) (hm : Mt w m rest cnt) (hmS : ∀ i, m = some i → ¬ S i) :
    Calls Tryz.prog 72 #[.pointer (some ⟨g, 0, none⟩), mtr m, .int .u64 o] w fun e w' => ∃ u, e = .returned (.pointer (some ⟨u, 0, none⟩)) ∧ TOw w' o S ⟨x.leaf, o, x.part, x.val, x.has⟩ k u (fun i => w.heap.size ≤ i) ∧ Kept (fun i => m = some i) w w' ∧ ∀ q, m = some q → Lst w' q (.int .i64 (cnt + 1) :: rest) := by
  rcases h with ⟨q, _⟩ | ⟨_, hn, be, A, ek, n, hS, hk⟩
  · exact absurd q hx
  · have hmine : mineB (x.nd ek).ow o = false := mine_no (fun e => hx e.symm)
    refine (nown_no (rest := rest) n m cnt o hmine hm (fun i hi e => hmS i e (hS i hi))).mono ?_
    rintro e w' ⟨u, rfl, ⟨b', A', n', c1, c2, c3⟩, c4⟩
    refine ⟨u, rfl, .inl ⟨rfl, b', A', ek, (fun i => w.heap.size ≤ i), (fun _ => False), n', c1, fun i hi => ?_, Fo.Ow.of_is hn (hk.kept c3 (fun i hi q => hmS i q hi)), fun _ q => q, fun _ q => q.elim, fun _ _ q => q⟩, c3, c4⟩
    rcases c2 i hi with q | q
    · exact .inl (hS i (.inr q))
    · exact .inr q
set_option maxRecDepth 100000 in
/-- What a write to the owner's node leaves, whose kids stay. -/
theorem TOw.wrote {x x' : Nn} {k : Fo} {g : Nat} (hx : x.ow = o) (hx' : x'.ow = o) (h : TOw w o S x k g D) (hSD : ∀ i, S i → ¬ D i) {f : FuncId} {args : Array Value} {r : Ending}
    (hc : ∀ be A ek, Nod w g (x.nd ek) be A → Calls Tryz.prog f args w fun e w' => e = r ∧ NdPost w w' g (x'.nd ek) be A x.part) :
    Calls Tryz.prog f args w fun e w' => e = r ∧ TOw w' o S x' k g (fun i => D i ∨ w.heap.size ≤ i) ∧ Kept D w w' := by
  rcases h.there with ⟨_, be, A, ek, De, Dk, n, a1, a2, a3, a4, a5, a6⟩ | ⟨q, _⟩
  · refine (hc be A ek n).mono ?_
    rintro e w' ⟨rfl, b', A', n', c1, c2, c3⟩
    refine ⟨rfl, .inl ⟨hx', b', A', ek, (fun i => (De i ∧ D i) ∨ w.heap.size ≤ i), Dk, n', fun i hi => ?_, fun i hi => ?_, a3.kept c3 (fun i hi q => hSD i hi (a4 i (a1 i q)).1) (fun i hi q => a6 i (a1 i q) hi), fun i hi => hi.imp (fun z => z.2) id, fun i hi => .inl (a5 i hi).1, fun i hi q => ?_⟩, c3.mono (fun i hi => (a4 i (a1 i hi)).1)⟩
    · rcases hi with hi | hi
      · exact .inl ⟨a1 i (.inl hi), (a4 i (a1 i (.inl hi))).1⟩
      · rcases c1 i hi with z | z
        · exact .inl ⟨a1 i (.inr z), (a4 i (a1 i (.inr z))).1⟩
        · exact .inr z
    · rcases c2 i hi with z | z
      · exact (a2 i z).imp id (fun y => .inl ⟨y, (a4 i y).1⟩)
      · exact .inr (.inr z)
    · rcases hi with z | z
      · exact a6 i z.1 q
      · have := (a5 i q).2
        omega
  · exact absurd hx q
/-- A forest without the kid by a byte. -/
def Fo.Hole (w : World) (o : Int) (S : Nat → Prop) (c : UInt8) : Fo → List Ent → (Nat → Prop) → Prop
  | .nil, es, _ => es = []
  | .cons b x k r, es, D => (b = c ∧ ∃ (g : Nat) (er : List Ent), es = (b, some ⟨g, 0, none⟩) :: er ∧ r.Ow w o S er D) ∨
      (b ≠ c ∧ ∃ (g : Nat) (er : List Ent) (D1 D2 : Nat → Prop), es = (b, some ⟨g, 0, none⟩) :: er ∧ TOw w o S x k g D1 ∧ Fo.Hole w o S c r er D2 ∧ (∀ i, D1 i → D i) ∧ (∀ i, D2 i → D i) ∧ (∀ i, D1 i → ¬ D2 i))
theorem Fo.Hole.mono {c : UInt8} : ∀ {f : Fo} {es : List Ent} {D D' : Nat → Prop}, (∀ i, D i → D' i) → f.Hole w o S c es D → f.Hole w o S c es D'
  | .nil, _, _, _, _, h => h
  | .cons _ _ _ _, _, _, _, hD, h => by
    rcases h with ⟨e, g, er, e2, h⟩ | ⟨e, g, er, D1, D2, e2, h, hr, h1, h2, h3⟩
    · exact .inl ⟨e, g, er, e2, h.mono hD⟩
    · exact .inr ⟨e, g, er, D1, D2, e2, h, hr, fun i q => hD i (h1 i q), fun i q => hD i (h2 i q), h3⟩
theorem Fo.Hole.kept {N : Nat → Prop} {c : UInt8} (hk : Kept N w w') (hS : ∀ i, S i → ¬ N i) : ∀ {f : Fo} {es : List Ent} {D : Nat → Prop}, (∀ i, D i → ¬ N i) → f.Hole w o S c es D → f.Hole w' o S c es D
  | .nil, _, _, _, h => h
  | .cons _ _ _ _, _, _, hD, h => by
    rcases h with ⟨e, g, er, e2, h⟩ | ⟨e, g, er, D1, D2, e2, h, hr, h1, h2, h3⟩
    · exact .inl ⟨e, g, er, e2, h.kept hk hS hD⟩
    · exact .inr ⟨e, g, er, D1, D2, e2, h.kept hk hS (fun i q => hD i (h1 i q)), Fo.Hole.kept hk hS (fun i q => hD i (h2 i q)) hr, h1, h2, h3⟩
theorem pos_cons (b : UInt8) (t : Th) (er : List Ent) (n : Nat) : pos ((b, t) :: er) n = (if b.toNat < n then 1 else 0) + pos er n := by
  unfold pos
  rw [List.countP_cons]
  by_cases h : b.toNat < n <;> simp [h] <;> omega
theorem pos_low {er : List Ent} {n : Nat} (h : ∀ e ∈ er, n ≤ e.1.toNat) : pos er n = 0 := by
  unfold pos
  rw [List.countP_eq_zero]
  intro e he
  have := h e he
  simp
  omega
theorem set_same {b : UInt8} {t : Th} {er : List Ent} (hu : Up ((b, t) :: er)) (s : Th) : setE ((b, t) :: er) b s = (b, s) :: er := by
  obtain ⟨u1, u2⟩ := List.pairwise_cons.1 hu
  have hp : pos ((b, t) :: er) b.toNat = 0 := by
    rw [pos_cons, if_neg (Nat.lt_irrefl _), pos_low (fun e he => Nat.le_of_lt (u1 e he))]
  unfold setE hasE look
  rw [hp]
  simp
theorem set_lower {b c : UInt8} {t : Th} {er : List Ent} (hu : Up ((b, t) :: er)) (h : c.toNat < b.toNat) (s : Th) : setE ((b, t) :: er) c s = (c, s) :: (b, t) :: er := by
  obtain ⟨u1, u2⟩ := List.pairwise_cons.1 hu
  have hp : pos ((b, t) :: er) c.toNat = 0 := by
    rw [pos_cons, if_neg (by omega), pos_low (fun e he => Nat.le_of_lt (Nat.lt_trans h (u1 e he)))]
  have hn : ¬ b.toNat = c.toNat := by omega
  unfold setE hasE look
  rw [hp]
  simp [hn]
theorem set_higher {b c : UInt8} {t : Th} {er : List Ent} (h : b.toNat < c.toNat) (s : Th) : setE ((b, t) :: er) c s = (b, t) :: setE er c s := by
  have hp : pos ((b, t) :: er) c.toNat = pos er c.toNat + 1 := by
    rw [pos_cons, if_pos h, Nat.add_comm]
  unfold setE hasE look
  rw [hp, List.getElem?_cons_succ]
  split
  · simp only [List.set_cons_succ, List.take_succ_cons, List.drop_succ_cons, List.cons_append]
    split <;> rfl
  · simp
/-- A kid comes back, or a new one comes. -/
theorem Fo.Hole.fill {c : UInt8} {y : Nn} {l : Fo} {g' : Nat} {Dy : Nat → Prop} (hT : TOw w o S y l g' Dy) : ∀ {f : Fo} {es : List Ent} {Dh D : Nat → Prop}, f.Hole w o S c es Dh → Up es → (∀ i, Dy i → D i) → (∀ i, Dh i → D i) → (∀ i, Dy i → ¬ Dh i) → (f.set c y l).Ow w o S (setE es c (some ⟨g', 0, none⟩)) D
  | .nil, _, _, _, h, _, d1, _, _ => by
    obtain rfl : _ = [] := h
    rw [set_end c _ (fun e he => by cases he)]
    exact Fo.Ow.cons (D2 := fun _ => False) (r := .nil) hT rfl d1 (fun i q => q.elim) (fun i _ q => q)
  | .cons b x k r, es, Dh, D, h, hu, d1, d2, d3 => by
    rw [Fo.set]
    rcases h with ⟨e, g, er, rfl, hr⟩ | ⟨e, g, er, D1, D2, rfl, h, hr, h1, h2, h3⟩
    · subst e
      rw [if_pos rfl, set_same hu]
      exact Fo.Ow.cons hT hr d1 d2 d3
    · rw [if_neg (fun q => e q.symm)]
      obtain ⟨u1, u2⟩ := List.pairwise_cons.1 hu
      have hne : b.toNat ≠ c.toNat := fun q => e (UInt8.toNat_inj.1 q)
      by_cases hlt : c.toNat < b.toNat
      · rw [if_pos hlt, set_lower hu hlt]
        have hro : r.Ow w o S er D2 := hole_low hr (fun e he => by have := u1 e he; show c.toNat < e.1.toNat; exact Nat.lt_trans hlt this)
        exact Fo.Ow.cons hT (Fo.Ow.cons h hro h1 h2 h3) d1 d2 d3
      · rw [if_neg hlt, set_higher (by omega)]
        have ih := Fo.Hole.fill hT (D := fun i => Dy i ∨ D2 i) hr u2 (fun i q => .inl q) (fun i q => .inr q) (fun i q z => d3 i q (h2 i z))
        exact Fo.Ow.cons h ih (fun i q => d2 i (h1 i q)) (fun i q => q.elim (d1 i) (fun z => d2 i (h2 i z))) (fun i q z => z.elim (fun y => d3 i y (h1 i q)) (h3 i q))
where
  hole_low {c : UInt8} : ∀ {f : Fo} {es : List Ent} {D : Nat → Prop}, f.Hole w o S c es D → (∀ e ∈ es, c.toNat < e.1.toNat) → f.Ow w o S es D
    | .nil, _, _, h, _ => h
    | .cons b _ _ _, _, _, h, hl => by
      rcases h with ⟨e, g, er, rfl, hr⟩ | ⟨e, g, er, D1, D2, rfl, h, hr, h1, h2, h3⟩
      · subst e
        have := hl _ (List.mem_cons_self ..)
        exact absurd this (Nat.lt_irrefl _)
      · exact ⟨g, er, D1, D2, rfl, h, hole_low hr (fun e he => hl e (List.mem_cons_of_mem _ he)), h1, h2, h3⟩
set_option maxRecDepth 100000 in
/-- An owner's inner node, with a kid of his set. -/
theorem TOw.setkid {x : Nn} {k : Fo} {g g' : Nat} {be : Be} {A : Option Addr} {ek : List Ent} {De Dh Dy : Nat → Prop} {c : UInt8} {y : Nn} {l : Fo} (hx : x.ow = o) (ho : o ≠ 0) (hl : x.leaf = false) (n : Nod w g (x.nd ek) be A) (a1 : ∀ i, be.all g i → De i) (a2 : ∀ i, Pb A x.part i → S i ∨ De i)
    (hh : k.Hole w o S c ek Dh) (ht : TOw w o S y l g' Dy) (d1 : ∀ i, De i → ¬ Dh i ∧ ¬ Dy i ∧ i < w.heap.size) (d2 : ∀ i, Dy i → ¬ Dh i) (dS : ∀ i, S i → ¬ De i) (dl : ∀ i, Dh i ∨ Dy i → i < w.heap.size) (z : Int) (hz : z = (c.toNat : Int)) :
    Calls Tryz.prog 71 #[.pointer (some ⟨g, 0, none⟩), .int .u64 o, .int .u8 z, .pointer (some ⟨g', 0, none⟩)] w fun e w' => e = .returned (.int .i64 0) ∧ TOw w' o S x (k.set c y l) g (fun i => (De i ∨ Dh i ∨ Dy i) ∨ w.heap.size ≤ i) ∧ Kept De w w' := by
  obtain ⟨be2, A2, ek2, n2, _, _⟩ := ht.tre
  have hm : mineB (x.nd ek).ow o = true := mine_yes ho hx.symm
  have h1 := nsetkid_any n o c z hz (some ⟨g', 0, none⟩) (fun a ha => by
    injection ha with ha
    subst ha
    exact ⟨isN y.leaf, by unfold isN; split <;> omega, what_any n2⟩)
  have e1 : setKN (x.nd ek) o (some ⟨g', 0, none⟩) = 0 := by
    unfold setKN
    rw [hm]
    show (if true = true then (if x.leaf = true then _ else _) else _) = _
    rw [hl]
    rfl
  have e2 : nSetKid (x.nd ek) o c (some ⟨g', 0, none⟩) = x.nd (setE ek c (some ⟨g', 0, none⟩)) := by
    unfold nSetKid
    rw [hm]
    show (if (true && !x.leaf && true) = true then _ else _) = _
    rw [hl]
    rfl
  rw [e1, e2] at h1
  have hup : Up ek := n.up
  refine h1.mono ?_
  rintro e w' ⟨rfl, b', A', n', c1, c2, c3⟩
  have hS : ∀ i, S i → ¬ be.all g i := fun i q z => dS i q (a1 i z)
  have hf := Fo.Hole.fill (ht.kept c3 hS (fun i q z => (d1 i (a1 i z)).2.1 q)) (D := fun i => Dy i ∨ Dh i) (hh.kept c3 hS (fun i q z => (d1 i (a1 i z)).1 q)) hup (fun i q => .inl q) (fun i q => .inr q) d2
  refine ⟨rfl, .inl ⟨hx, b', A', _, (fun i => De i ∨ w.heap.size ≤ i), (fun i => Dy i ∨ Dh i), n', fun i hi => ?_, fun i hi => ?_, hf, fun i q => q.imp (fun z => .inl z) id, fun i q => .inl (q.elim (fun z => .inr (.inr z)) (fun z => .inr (.inl z))), fun i q z => ?_⟩, c3.mono a1⟩
  · rcases hi with hi | hi
    · exact .inl (a1 i (.inl hi))
    · exact (c1 i hi).imp (fun z => a1 i (.inr z)) id
  · rcases c2 i hi with q | q
    · exact (a2 i q).imp id .inl
    · exact .inr (.inr q)
  · rcases q with q | q
    · exact z.elim (d1 i q).2.1 (d1 i q).1
    · have := dl i z.symm
      omega
end
end Go.Proofs.YtajpipaooaemdaaGreatDoor

namespace Go.Proofs.YtajpipaooaemdaaGreatDoor
open Go.RowKit

section
variable {w w' : World} {o : Int} {S S' D D' : Nat → Prop} {rest : List Value}
/-- A node that is made: its owner's, at new blocks. -/
def NewTow (o : Int) (S : Nat → Prop) (w : World) (m : Option Nat) (rest : List Value) (cnt : Int) (x : Nn) (e : Ending) (w' : World) : Prop :=
  ∃ u, e = .returned (.pointer (some ⟨u, 0, none⟩)) ∧ TOw w' o S x .nil u (fun i => w.heap.size ≤ i) ∧ Kept (fun i => m = some i) w w' ∧ ∀ q, m = some q → Lst w' q (.int .i64 (cnt + 1) :: rest)
theorem MkPost.tow {m : Option Nat} {cnt : Int} {x : Nn} {e : Ending} (hx : x.ow = o) (h : MkPost w m rest cnt (x.nd []) none [] e w') : NewTow o S w m rest cnt x e w' := by
  obtain ⟨u, rfl, ⟨b, A, n1, n2, n3, n4⟩, h2⟩ := h
  refine ⟨u, rfl, TOw.leaf hx n1 n2 (fun i hi => ?_), n4, h2⟩
  rcases n3 i hi with q | q
  · exact absurd rfl q.1
  · exact .inr q
set_option maxRecDepth 100000 in
theorem leaf_tow (m : Option Nat) (cnt v : Int) (n c B : Nat) {A : Option Addr} (l : List UInt8) (hm : Mt w m rest cnt) (ha : Byt w B A n l) (hB : B ≤ w.heap.size) (hn : n ≤ 140737488355328) (hd : ∀ i, Pb A l i → m ≠ some i) :
    Calls Tryz.prog 20 #[mtr m, .int .u64 o, .slice A n c, .int .u64 v] w (NewTow o S w m rest cnt ⟨true, o, l, v, true⟩) :=
  (nleaf_any m cnt o v n c B l w hm ha hB hn hd).mono fun _ _ h => MkPost.tow (x := ⟨true, o, l, v, true⟩) rfl h
set_option maxRecDepth 100000 in
/-- A node made the owner's own: itself, or a copy. -/
theorem TOw.own {x : Nn} {k : Fo} {g : Nat} (h : TOw w o S x k g D) (ho : o ≠ 0) (m : Option Nat) (cnt : Int) (hm : Mt w m rest cnt) (hmS : ∀ i, m = some i → ¬ S i) :
    Calls Tryz.prog 72 #[.pointer (some ⟨g, 0, none⟩), mtr m, .int .u64 o] w fun e w' => ∃ (u : Nat) (Du : Nat → Prop), e = .returned (.pointer (some ⟨u, 0, none⟩)) ∧ TOw w' o S ⟨x.leaf, o, x.part, x.val, x.has⟩ k u Du ∧ (∀ i, Du i → D i ∨ w.heap.size ≤ i) ∧ Kept (fun i => m = some i) w w' ∧ (∀ q, m = some q → Lst w' q (.int .i64 (cnt + (if x.ow = o then 0 else 1)) :: rest)) ∧ (x.ow = o → u = g ∧ w' = w) := by
  by_cases hx : x.ow = o
  · refine (h.own_yes hx ho (mtr m)).mono ?_
    rintro e w' ⟨rfl, rfl⟩
    refine ⟨g, D, rfl, ?_, fun i q => .inl q, Kept.refl _ _, fun q hq => ?_, fun _ => ⟨rfl, rfl⟩⟩
    · have : (⟨x.leaf, o, x.part, x.val, x.has⟩ : Nn) = x := by rw [← hx]
      rw [this]
      exact h
    · rw [if_pos hx, Int.add_zero]
      exact (hm q hq).1
  · refine (h.own_no hx m cnt hm hmS).mono ?_
    rintro e w' ⟨u, rfl, h1, h2, h3⟩
    refine ⟨u, _, rfl, h1, fun i q => .inr q, h2, fun q hq => ?_, fun e => absurd e hx⟩
    rw [if_neg hx]
    exact h3 q hq
/-- An owner's node whose kid by a byte is away: below B all of it, and apart from Dy. -/
def Opn (w : World) (o : Int) (S D : Nat → Prop) (B : Nat) (x : Nn) (k : Fo) (g : Nat) (c : UInt8) (ek : List Ent) (Dy : Nat → Prop) : Prop :=
  ∃ (be : Be) (A : Option Addr) (De Dh : Nat → Prop), Nod w g (x.nd ek) be A ∧ (∀ i, be.all g i → De i) ∧ (∀ i, Pb A x.part i → S i ∨ De i) ∧ k.Hole w o S c ek Dh ∧ (∀ i, De i → D i ∧ i < B) ∧ (∀ i, Dh i → D i ∧ i < B) ∧ (∀ i, De i → ¬ Dh i ∧ ¬ Dy i) ∧ ∀ i, Dy i → ¬ Dh i
theorem Opn.nod {B : Nat} {x : Nn} {k : Fo} {g : Nat} {c : UInt8} {ek : List Ent} {Dy : Nat → Prop} (h : Opn w o S D B x k g c ek Dy) : ∃ be A, Nod w g (x.nd ek) be A := by
  obtain ⟨be, A, _, _, n, _⟩ := h
  exact ⟨be, A, n⟩
theorem Opn.kept {B : Nat} {x : Nn} {k : Fo} {g : Nat} {c : UInt8} {ek : List Ent} {Dy N : Nat → Prop} (h : Opn w o S D B x k g c ek Dy) (hk : Kept N w w') (hS : ∀ i, S i → ¬ N i) (hN : ∀ i, N i → Dy i ∨ ¬ D i) : Opn w' o S D B x k g c ek Dy := by
  obtain ⟨be, A, De, Dh, n, a1, a2, hh, b1, b2, b4, b5⟩ := h
  have hDe : ∀ i, De i → ¬ N i := fun i q z => (hN i z).elim (b4 i q).2 (fun t => t (b1 i q).1)
  have hDh : ∀ i, Dh i → ¬ N i := fun i q z => (hN i z).elim (fun t => b5 i t q) (fun t => t (b2 i q).1)
  exact ⟨be, A, De, Dh, n.kept hk fun i q => q.elim (fun z => hDe i (a1 i z)) (fun z => (a2 i z).elim (hS i) (hDe i)), a1, a2, hh.kept hk hS hDh, b1, b2, b4, b5⟩
set_option maxRecDepth 100000 in
/-- What a part set leaves (the owner's own node). -/
theorem TOw.setpart {x : Nn} {k : Fo} {g : Nat} (h : TOw w o S x k g D) (hx : x.ow = o) (ho : o ≠ 0) (hSD : ∀ i, S i → ¬ D i) (A' : Option Addr) (n c B : Nat) (l : List UInt8) (ha : Byt w B A' n l) (hB : B ≤ w.heap.size) (hn : n ≤ 140737488355328) :
    Calls Tryz.prog 52 #[.pointer (some ⟨g, 0, none⟩), .int .u64 o, .slice A' n c] w fun e w' => e = .returned (.int .i64 0) ∧ TOw w' o S ⟨x.leaf, o, l, x.val, x.has⟩ k g (fun i => D i ∨ w.heap.size ≤ i) ∧ Kept D w w' := by
  refine TOw.wrote (x' := ⟨x.leaf, o, l, x.val, x.has⟩) hx rfl h hSD fun be A ek nd => ?_
  have h1 := nsetpart_any nd o A' n c B l ha hB hn
  have hm : mineB (x.nd ek).ow o = true := mine_yes ho hx.symm
  have e1 : closN (x.nd ek) o = 0 := by unfold closN; rw [hm]; rfl
  have e2 : nSetPart (x.nd ek) o l = (⟨x.leaf, o, l, x.val, x.has⟩ : Nn).nd ek := by
    unfold nSetPart
    rw [hm]
    show ({ x.nd ek with part := l } : Nd) = _
    rw [← hx]
  rw [e1, e2] at h1
  exact h1
end
end Go.Proofs.YtajpipaooaemdaaGreatDoor
