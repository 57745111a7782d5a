/-
  What stands beside a key in a tree: the nodes that the key goes on behind, what stands to each side of them, where the way down ends. No program is run.
-/
import Derived.Test.YtidiinededalmaaGreatFnP
namespace Go.Proofs.YtidiinededalmaaGreat
open Go.RowKit

/-- Kids by greater bytes, and by lesser ones. -/
def Fo.hi : Fo → UInt8 → Fo
  | .nil, _ => .nil
  | .cons b x k r, c => if b.toNat ≤ c.toNat then r.hi c else .cons b x k r
def Fo.lo : Fo → UInt8 → Fo
  | .nil, _ => .nil
  | .cons b x k r, c => if b.toNat < c.toNat then .cons b x k (r.lo c) else .nil
/-- A tree's pairs, or nothing's, behind some bytes. -/
def olb : Option (Nn × Fo) → List UInt8 → List KV
  | none, _ => []
  | some t, pw => tlist t.1 t.2 pw
theorem olb_nil (t : Option (Nn × Fo)) : olb t [] = olist t := by cases t <;> rfl
theorem Fo.hi_all : ∀ {f : Fo} {b : UInt8}, f.above b → f.hi b = f
  | .nil, _, _ => rfl
  | .cons b' x k r, b, h => by
    have h' : b.toNat < b'.toNat := h
    rw [Fo.hi, if_neg (by omega)]
theorem Fo.kid_not {o : Int} : ∀ {f : Fo} {b c : UInt8}, f.wf o → f.above b → c.toNat ≤ b.toNat → f.kid c = none
  | .nil, _, _, _, _, _ => rfl
  | .cons b' x k r, b, c, ⟨h1, _, _, h4⟩, ha, hc => by
    have h' : b.toNat < b'.toNat := ha
    rw [Fo.kid, if_neg (fun e => by subst e; omega)]
    exact Fo.kid_not h4 h1 (by omega)
/-- Kids stand by a lesser byte, by this one, by a greater one. -/
theorem Fo.list_split {o : Int} : ∀ {f : Fo}, f.wf o → ∀ (c : UInt8) (pw : List UInt8), f.list pw = (f.lo c).list pw ++ (olb (f.kid c) (pw ++ [c]) ++ (f.hi c).list pw)
  | .nil, _, _, _ => rfl
  | .cons b x k r, ⟨h1, _, h3, h4⟩, c, pw => by
    rw [Fo.list_cons]
    by_cases hlt : b.toNat < c.toNat
    · have hne : ¬ b = c := fun e => by subst e; omega
      rw [Fo.lo, if_pos hlt, Fo.list_cons, Fo.hi, if_pos (Nat.le_of_lt hlt), Fo.kid, if_neg hne, Fo.list_split h4 c pw]
      simp
    · rw [Fo.lo, if_neg hlt]
      by_cases hb : b = c
      · subst hb
        rw [Fo.kid, if_pos rfl, Fo.hi, if_pos (Nat.le_refl _), Fo.hi_all h1]
        rfl
      · have hgt : ¬ b.toNat ≤ c.toNat := fun q => hb (UInt8.toNat_inj.1 (by omega))
        rw [Fo.kid, if_neg hb, Fo.kid_not h4 h1 (by omega), Fo.hi, if_neg hgt, Fo.list_cons]
        rfl
theorem tlist_at (x : Nn) (k : Fo) (pw : List UInt8) : tlist x k pw = (tlist x k []).map fun p => (pw ++ p.1, p.2) := by
  have := tlist_app pw x k []
  rwa [List.append_nil] at this
theorem Fo.list_at (f : Fo) (pw : List UInt8) : f.list pw = (f.list []).map fun p => (pw ++ p.1, p.2) := by
  have := Fo.list_app pw f []
  rwa [List.append_nil] at this
theorem Fo.lo_lt : ∀ {f : Fo} {c : UInt8} {pw : List UInt8}, ∀ p ∈ (f.lo c).list pw, ∃ b l, p.1 = pw ++ b :: l ∧ b.toNat < c.toNat
  | .nil, _, _, p, hp => by cases hp
  | .cons b x k r, c, pw, p, hp => by
    rw [Fo.lo] at hp
    by_cases hlt : b.toNat < c.toNat
    · rw [if_pos hlt, Fo.list_cons, tlist_at] at hp
      rcases List.mem_append.1 hp with q | q
      · obtain ⟨u, _, rfl⟩ := List.mem_map.1 q
        exact ⟨b, u.1, by simp, hlt⟩
      · exact Fo.lo_lt p q
    · rw [if_neg hlt] at hp; cases hp
theorem Fo.hi_wf {o : Int} : ∀ {f : Fo} {c : UInt8}, f.wf o → (f.hi c).wf o ∧ (f.hi c).above c
  | .nil, _, _ => ⟨trivial, trivial⟩
  | .cons b x k r, c, ⟨h1, h2, h3, h4⟩ => by
    rw [Fo.hi]
    by_cases hb : b.toNat ≤ c.toNat
    · rw [if_pos hb]
      exact Fo.hi_wf h4
    · rw [if_neg hb]
      exact ⟨⟨h1, h2, h3, h4⟩, show c.toNat < b.toNat by omega⟩
theorem Fo.hi_gt {o : Int} {f : Fo} {c : UInt8} {pw : List UInt8} (h : f.wf o) : ∀ p ∈ (f.hi c).list pw, ∃ b l, p.1 = pw ++ b :: l ∧ c.toNat < b.toNat := fun p hp => by
  obtain ⟨h1, h2⟩ := Fo.hi_wf (c := c) h
  rw [Fo.list_at] at hp
  obtain ⟨u, hu, rfl⟩ := List.mem_map.1 hp
  obtain ⟨b, l, e, hb⟩ := Fo.heads h1 h2 u hu
  exact ⟨b, l, by rw [← e], hb⟩

/-- The pairs that do not stand ahead of a key, and those that do. -/
def geL (L : List KV) (key : List UInt8) : List KV := L.filter fun p => !decide (cmpL p.1 key < 0)
def ltL (L : List KV) (key : List UInt8) : List KV := L.filter fun p => decide (cmpL p.1 key < 0)
theorem geL_app (L M : List KV) (key : List UInt8) : geL (L ++ M) key = geL L key ++ geL M key := List.filter_append ..
theorem ltL_app (L M : List KV) (key : List UInt8) : ltL (L ++ M) key = ltL L key ++ ltL M key := List.filter_append ..
theorem ge_all {L : List KV} {key : List UInt8} (h : ∀ p ∈ L, ¬ cmpL p.1 key < 0) : geL L key = L ∧ ltL L key = [] :=
  ⟨List.filter_eq_self.2 fun p hp => by simp [h p hp], List.filter_eq_nil_iff.2 fun p hp => by simp [h p hp]⟩
theorem lt_all {L : List KV} {key : List UInt8} (h : ∀ p ∈ L, cmpL p.1 key < 0) : geL L key = [] ∧ ltL L key = L :=
  ⟨List.filter_eq_nil_iff.2 fun p hp => by simp [h p hp], List.filter_eq_self.2 fun p hp => by simp [h p hp]⟩
theorem at_lo {b c : UInt8} {pw l m : List UInt8} (h : b.toNat < c.toNat) : cmpL (pw ++ b :: l) (pw ++ c :: m) < 0 := (cmp_pre pw _ _).2 (lt_cons.2 (.inl h))
theorem at_hi {b c : UInt8} {pw l m : List UInt8} (h : c.toNat < b.toNat) : ¬ cmpL (pw ++ b :: l) (pw ++ c :: m) < 0 := fun q => by
  rcases lt_cons.1 ((cmp_pre pw _ _).1 q) with q | ⟨e, _⟩
  · omega
  · subst e; omega
/-- A node's own pair, behind some bytes. -/
def ownL (x : Nn) (way : List UInt8) : List KV := if x.has then [(way, x.val)] else []
theorem tlist_own (x : Nn) (k : Fo) (pw : List UInt8) : tlist x k pw = ownL x (pw ++ x.part) ++ k.list (pw ++ x.part) := rfl

/-- A node that a key goes on behind. -/
structure Fk where
  x : Nn
  k : Fo
  way : List UInt8
  on : UInt8
def Fk.up (f : Fk) : List KV := (f.k.hi f.on).list f.way
def Fk.dn (f : Fk) : List KV := ownL f.x f.way ++ (f.k.lo f.on).list f.way
theorem beg_is {l m : List UInt8} (h : begB l m = true) : l = m ++ l.drop m.length := by
  have h := of_decide_eq_true (h : decide _ = true)
  have := lcp_take (p := l) (u := m) (e := m.length) (by omega)
  rw [List.drop_length, List.append_nil] at this
  conv => lhs; rw [← List.take_append_drop m.length l]
  rw [← this]
/-- A step down. -/
theorem nr_down {o : Int} {x : Nn} {k : Fo} (hk : k.wf o) {pw rest l' : List UInt8} {c : UInt8} (hb : begB rest x.part = true) (hd : rest.drop x.part.length = c :: l') :
    geL (tlist x k pw) (pw ++ rest) = geL (olb (k.kid c) ((pw ++ x.part) ++ [c])) (pw ++ rest) ++ (Fk.mk x k (pw ++ x.part) c).up ∧
    ltL (tlist x k pw) (pw ++ rest) = (Fk.mk x k (pw ++ x.part) c).dn ++ ltL (olb (k.kid c) ((pw ++ x.part) ++ [c])) (pw ++ rest) := by
  have hr : rest = x.part ++ c :: l' := by rw [← hd]; exact beg_is hb
  have hkey : pw ++ rest = (pw ++ x.part) ++ c :: l' := by rw [hr, List.append_assoc]
  rw [hkey, tlist_own, Fo.list_split hk c]
  have h1 := lt_all (L := ownL x (pw ++ x.part)) (key := (pw ++ x.part) ++ c :: l') (fun p hp => by
    unfold ownL at hp
    split at hp
    · obtain rfl := List.mem_singleton.1 hp
      exact cmp_longer _ _ _
    · cases hp)
  have h2 := lt_all (L := (k.lo c).list (pw ++ x.part)) (key := (pw ++ x.part) ++ c :: l') (fun p hp => by
    obtain ⟨b, l, e, hlt⟩ := Fo.lo_lt p hp
    rw [e]; exact at_lo hlt)
  have h3 := ge_all (L := (k.hi c).list (pw ++ x.part)) (key := (pw ++ x.part) ++ c :: l') (fun p hp => by
    obtain ⟨b, l, e, hlt⟩ := Fo.hi_gt hk p hp
    rw [e]; exact at_hi hlt)
  rw [geL_app, geL_app, geL_app, ltL_app, ltL_app, ltL_app, h1.1, h1.2, h2.1, h2.2, h3.1, h3.2]
  unfold Fk.up Fk.dn
  simp
/-- Where bytes do not go on behind a part: all that begins with the part stands ahead, or nothing of it does. -/
theorem end_cmp : ∀ {p r s : List UInt8}, (p.length = r.length ∨ begB r p = false) → (cmpL (p ++ s) r < 0 ↔ cmpL p r < 0)
  | [], r, s, h => by
    have : r = [] := by
      rcases h with h | h
      · exact List.eq_nil_of_length_eq_zero h.symm
      · rw [beg_nil] at h; cases h
    subst this
    exact ⟨fun q => (lt_nil q).elim, fun q => (lt_nil q).elim⟩
  | u :: p, [], s, _ => ⟨fun q => (lt_nil q).elim, fun q => (lt_nil q).elim⟩
  | u :: p, v :: r, s, h => by
    rw [List.cons_append, lt_cons, lt_cons]
    by_cases e : u = v
    · subst e
      have := end_cmp (p := p) (r := r) (s := s) (by
        rcases h with h | h
        · exact .inl (by simpa using h)
        · rw [beg_cons, decide_eq_true rfl, Bool.true_and] at h
          exact .inr h)
      rw [this]
    · simp [e]
theorem end_all {x : Nn} {k : Fo} {pw rest : List UInt8} (h : x.part.length = rest.length ∨ begB rest x.part = false) : ∀ p ∈ tlist x k pw, (cmpL p.1 (pw ++ rest) < 0 ↔ cmpL x.part rest < 0) := fun p hp => by
  have : ∃ s, p.1 = pw ++ (x.part ++ s) := by
    rw [tlist_own] at hp
    rcases List.mem_append.1 hp with q | q
    · unfold ownL at q
      split at q
      · obtain rfl := List.mem_singleton.1 q
        exact ⟨[], by simp⟩
      · cases q
    · rw [Fo.list_at] at q
      obtain ⟨u, _, rfl⟩ := List.mem_map.1 q
      exact ⟨u.1, by simp⟩
  obtain ⟨s, e⟩ := this
  rw [e, cmp_pre]
  exact end_cmp h
theorem end_ge {x : Nn} {k : Fo} {pw rest : List UInt8} (h : x.part.length = rest.length ∨ begB rest x.part = false) (hc : ¬ cmpL x.part rest < 0) : geL (tlist x k pw) (pw ++ rest) = tlist x k pw ∧ ltL (tlist x k pw) (pw ++ rest) = [] :=
  ge_all fun p hp q => hc ((end_all h p hp).1 q)
theorem end_lt {x : Nn} {k : Fo} {pw rest : List UInt8} (h : x.part.length = rest.length ∨ begB rest x.part = false) (hc : cmpL x.part rest < 0) : geL (tlist x k pw) (pw ++ rest) = [] ∧ ltL (tlist x k pw) (pw ++ rest) = tlist x k pw :=
  lt_all fun p hp => (end_all h p hp).2 hc

/-- How far a key has been gone along: the nodes that it goes on behind, and what is reached, a bytes being taken off. -/
structure Alg (L : List KV) (key : List UInt8) (fs : List Fk) (t : Option (Nn × Fo)) (a : Nat) : Prop where
  ge : geL L key = geL (olb t (key.take a)) key ++ (fs.reverse.map Fk.up).flatten
  lt : ltL L key = (fs.map Fk.dn).flatten ++ ltL (olb t (key.take a)) key
theorem Alg.start (t : Option (Nn × Fo)) (key : List UInt8) : Alg (olist t) key [] t 0 := by
  constructor <;> simp [olb_nil]
theorem Alg.step {o : Int} {L : List KV} {key l' : List UInt8} {fs : List Fk} {x : Nn} {k : Fo} {a : Nat} {c : UInt8} (h : Alg L key fs (some (x, k)) a) (hk : k.wf o) (hb : begB (key.drop a) x.part = true) (hd : (key.drop a).drop x.part.length = c :: l') {m : Nat} (hm : a + x.part.length = m) :
    key.take m = key.take a ++ x.part ∧ key[m]? = some c ∧ Alg L key (fs ++ [⟨x, k, key.take m, c⟩]) (k.kid c) (m + 1) := by
  subst hm
  have hr := beg_is hb
  have e1 : key = key.take a ++ (x.part ++ c :: l') := by
    rw [← hd, ← hr, List.take_append_drop]
  have hdd : key.drop (a + x.part.length) = c :: l' := by rw [← List.drop_drop]; exact hd
  have e2 : key.take (a + x.part.length) = key.take a ++ x.part := by
    rw [List.take_add]
    congr 1
    rw [hr, List.take_left']
    rfl
  have e3 : key[a + x.part.length]? = some c := by
    have := congrArg (fun l : List UInt8 => l[0]?) hdd
    simpa using this
  have e4 : key.take (a + x.part.length + 1) = (key.take a ++ x.part) ++ [c] := by
    rw [List.take_add_one, e2, e3]; rfl
  obtain ⟨s1, s2⟩ := nr_down (x := x) (k := k) hk (pw := key.take a) (rest := key.drop a) hb hd
  rw [List.take_append_drop] at s1 s2
  have g := h.ge
  have l := h.lt
  rw [show olb (some (x, k)) (key.take a) = tlist x k (key.take a) from rfl] at g l
  refine ⟨e2, e3, ?_, ?_⟩
  · rw [g, s1, e4, e2]
    simp
  · rw [l, s2, e4, e2]
    simp
end Go.Proofs.YtidiinededalmaaGreat
