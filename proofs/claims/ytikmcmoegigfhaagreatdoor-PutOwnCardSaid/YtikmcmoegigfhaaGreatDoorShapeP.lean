/-
  Trees are told by their shapes; a tree that is fine is the canonical one of its pairs. No program is run.
  A fine tree is the canonical one of its pairs; a tree's pairs rise. No program is run.
-/
import Derived.Test.YtikmcmoegigfhaaGreatDoorShape
import Derived.Test.YtikmcmoegigfhaaGreatDoorCanonP
namespace Go.Proofs.YtikmcmoegigfhaaGreatDoor

theorem span_eq {P : UInt8 → Prop} : ∀ {u v a b : List UInt8}, (∀ c ∈ u, P c) → (∀ c ∈ v, P c) → (∀ c, a.head? = some c → ¬ P c) → (∀ c, b.head? = some c → ¬ P c) → u ++ a = v ++ b → u = v ∧ a = b
  | [], [], _, _, _, _, _, _, h => ⟨rfl, h⟩
  | [], y :: v, a, b, _, hv, ha, _, h => by
    simp only [List.nil_append] at h
    exact absurd (hv y (List.mem_cons_self ..)) (ha y (by rw [h]; rfl))
  | x :: u, [], a, b, hu, _, _, hb, h => by
    simp only [List.nil_append] at h
    exact absurd (hu x (List.mem_cons_self ..)) (hb x (by rw [← h]; rfl))
  | x :: u, y :: v, a, b, hu, hv, ha, hb, h => by
    simp only [List.cons_append, List.cons.injEq] at h
    obtain ⟨rfl, h⟩ := h
    obtain ⟨rfl, h2⟩ := span_eq (fun c hc => hu c (List.mem_cons_of_mem _ hc)) (fun c hc => hv c (List.mem_cons_of_mem _ hc)) ha hb h
    exact ⟨rfl, h2⟩
def isD (c : UInt8) : Prop := 48 ≤ c.toNat ∧ c.toNat ≤ 57
def isH (c : UInt8) : Prop := isD c ∨ (97 ≤ c.toNat ∧ c.toNat ≤ 102)
theorem dig_isD {n : Nat} (h : n < 10) : isD (UInt8.ofNat (48 + n)) := by
  unfold isD
  rw [UInt8.toNat_ofNat', Nat.mod_eq_of_lt (by omega)]
  omega
theorem dec_isD (n : Nat) : ∀ c ∈ Lib.decDigits n, isD c := by
  induction n using Nat.strongRecOn with
  | _ n ih =>
    intro c hc
    rw [Lib.decDigits] at hc
    split at hc
    · rename_i h
      simp only [List.mem_singleton] at hc
      subst hc
      exact dig_isD h
    · rename_i h
      rcases List.mem_append.1 hc with q | q
      · exact ih (n / 10) (by omega) c q
      · simp only [List.mem_singleton] at q
        subst q
        exact dig_isD (Nat.mod_lt _ (by omega))
theorem dec_ne (n : Nat) : Lib.decDigits n ≠ [] := by
  rw [Lib.decDigits]
  split <;> simp
def dval (l : List UInt8) : Nat := l.foldl (fun s c => 10 * s + (c.toNat - 48)) 0
theorem dval_dec (n : Nat) : dval (Lib.decDigits n) = n := by
  induction n using Nat.strongRecOn with
  | _ n ih =>
    rw [Lib.decDigits]
    split
    · rename_i h
      simp only [dval, List.foldl_cons, List.foldl_nil]
      rw [UInt8.toNat_ofNat', Nat.mod_eq_of_lt (by omega)]
      omega
    · rename_i h
      have := ih (n / 10) (by omega)
      unfold dval at this ⊢
      rw [List.foldl_append, this]
      simp only [List.foldl_cons, List.foldl_nil]
      rw [UInt8.toNat_ofNat', Nat.mod_eq_of_lt (by omega)]
      omega
theorem dec_inj {n m : Nat} (h : Lib.decDigits n = Lib.decDigits m) : n = m := by rw [← dval_dec n, h, dval_dec]
theorem digU_isH {n : Nat} (h : n < 16) : isH (digU n) := by
  unfold isH isD
  rw [digU_toNat h]
  unfold digN
  split <;> omega
theorem text_isH (l : List UInt8) : ∀ c ∈ textL l, isH c := by
  intro c hc
  unfold textL at hc
  obtain ⟨b, _, hb⟩ := List.mem_flatMap.1 hc
  have hl := b.toNat_lt
  simp only [List.mem_cons, List.not_mem_nil, or_false] at hb
  rcases hb with rfl | rfl
  · exact digU_isH (by omega)
  · exact digU_isH (by omega)
theorem text_inj {l m : List UInt8} (h : textL l = textL m) : l = m := by
  have := parse_text l
  rw [h, parse_text] at this
  exact (Option.some.inj this).symm

/-- Alike but for owners, and for values that are not there. -/
def likeN (x y : Nn) : Prop := x.leaf = y.leaf ∧ x.part = y.part ∧ x.has = y.has ∧ (x.has = true → x.val.toNat = y.val.toNat)
def Fo.like : Fo → Fo → Prop
  | .nil, .nil => True
  | .cons b x k r, .cons b' x' k' r' => b = b' ∧ likeN x x' ∧ k.like k' ∧ r.like r'
  | _, _ => False
theorem Fo.like_len : ∀ {f g : Fo}, f.like g → f.len = g.len
  | .nil, .nil, _ => rfl
  | .cons _ _ _ _, .cons _ _ _ _, ⟨_, _, _, h⟩ => by simp only [Fo.len, Fo.like_len h]
  | .nil, .cons _ _ _ _, h => h.elim
  | .cons _ _ _ _, .nil, h => h.elim
theorem okN_like {x y : Nn} {k l : Fo} (h : likeN x y) (hk : k.like l) (ho : okN x k) : okN y l := by
  obtain ⟨h1, _, h3, _⟩ := h
  unfold okN at *
  rw [← h1, ← h3, ← Fo.like_len hk]
  cases hx : x.leaf with
  | true =>
    rw [hx] at ho
    simp only [if_true] at ho ⊢
    refine ⟨?_, ho.2⟩
    have := Fo.like_len hk
    rw [ho.1] at this
    cases l with
    | nil => rfl
    | cons _ _ _ _ => simp [Fo.len] at this
  | false => rw [hx] at ho; exact ho
theorem Fo.good_like : ∀ {f g : Fo}, f.like g → f.good → g.good
  | .nil, .nil, _, _ => trivial
  | .cons _ _ _ _, .cons _ _ _ _, ⟨_, h1, h2, h3⟩, ⟨g1, g2, g3⟩ => ⟨okN_like h1 h2 g1, Fo.good_like h2 g2, Fo.good_like h3 g3⟩
  | .nil, .cons _ _ _ _, h, _ => h.elim
  | .cons _ _ _ _, .nil, h, _ => h.elim

/-- A leaf has a value and no kids. -/
def lfN (x : Nn) (k : Fo) : Prop := x.leaf = true → k = .nil ∧ x.has = true
def Fo.lf : Fo → Prop
  | .nil => True
  | .cons _ x k r => lfN x k ∧ k.lf ∧ r.lf
def headNot (a : List UInt8) (P : UInt8 → Prop) : Prop := ∀ c, a.head? = some c → ¬ P c
theorem sh_head (f : Fo) (s : List UInt8) : headNot (f.sh ++ 62 :: s) isH := by
  intro c hc
  cases f with
  | nil =>
    simp only [Fo.sh, List.nil_append, List.head?_cons, Option.some.injEq] at hc
    subst hc
    unfold isH isD
    decide
  | cons b x k r =>
    simp only [Fo.sh, List.cons_append, List.head?_cons, Option.some.injEq] at hc
    subst hc
    unfold isH isD
    decide
theorem hd_D {a : List UInt8} (h : headNot a isH) : headNot a isD := fun c hc q => h c hc (.inl q)
theorem val_head (x : Nn) (f : Fo) (s : List UInt8) : headNot (valL x ++ (f.sh ++ 62 :: s)) isH := by
  unfold valL
  cases x.has with
  | false =>
    rw [if_neg (by simp), List.nil_append]
    exact sh_head f s
  | true =>
    intro c hc
    rw [if_pos rfl] at hc
    simp only [List.cons_append, List.head?_cons, Option.some.injEq] at hc
    subst hc
    unfold isH isD
    decide
theorem val_eq {x y : Nn} {f g : Fo} {s s' : List UInt8} (h : valL x ++ (f.sh ++ 62 :: s) = valL y ++ (g.sh ++ 62 :: s')) : x.has = y.has ∧ (x.has = true → x.val.toNat = y.val.toNat) ∧ f.sh ++ 62 :: s = g.sh ++ 62 :: s' := by
  have h61 : ∀ (f : Fo) (s l : List UInt8), f.sh ++ 62 :: s ≠ 61 :: l := fun f s l q => by
    cases f with
    | nil => simp [Fo.sh] at q
    | cons b x k r => simp [Fo.sh] at q
  unfold valL at h
  cases hx : x.has with
  | false =>
    cases hy : y.has with
    | false =>
      rw [hx, hy] at h
      exact ⟨rfl, (fun q => (by cases q)), by simpa using h⟩
    | true =>
      rw [hx, hy] at h
      simp only [Bool.false_eq_true, if_false, if_true, List.nil_append, List.cons_append] at h
      exact absurd h (h61 _ _ _)
  | true =>
    cases hy : y.has with
    | false =>
      rw [hx, hy] at h
      simp only [Bool.false_eq_true, if_false, if_true, List.nil_append, List.cons_append] at h
      exact absurd h.symm (h61 _ _ _)
    | true =>
      rw [hx, hy] at h
      simp only [if_true, List.cons_append, List.cons.injEq, true_and] at h
      obtain ⟨e1, e2⟩ := span_eq (P := isD) (dec_isD _) (dec_isD _) (hd_D (sh_head f s)) (hd_D (sh_head g s')) h
      exact ⟨rfl, fun _ => dec_inj e1, e2⟩
theorem text2_eq {b b' : UInt8} {u v : List UInt8} (h : textL [b] ++ u = textL [b'] ++ v) : b = b' ∧ u = v := by
  have hl : (textL [b]).length = (textL [b']).length := by rw [textL_length, textL_length]; rfl
  obtain ⟨e1, e2⟩ := List.append_inj h hl
  have := text_inj e1
  simp only [List.cons.injEq, and_true] at this
  exact ⟨this, e2⟩
/-- A tree's shape is told apart from what stands behind it, if that begins with no digit. -/
theorem tree_eq {x y : Nn} {k l : Fo} (ih : ∀ (g : Fo) (s s' : List UInt8), k.lf → g.lf → k.sh ++ 62 :: s = g.sh ++ 62 :: s' → k.like g ∧ s = s') (hx : lfN x k) (hkf : k.lf) (hy : lfN y l) (hlf : l.lf)
    {s s' : List UInt8} (hs : headNot s isD) (hs' : headNot s' isD) (h : shL x k ++ s = shL y l ++ s') : likeN x y ∧ k.like l ∧ s = s' := by
  unfold shL begL endL at h
  cases hlx : x.leaf with
  | true =>
    obtain ⟨rfl, hh⟩ := hx hlx
    cases hly : y.leaf with
    | true =>
      obtain ⟨rfl, hh2⟩ := hy hly
      rw [hlx, hly] at h
      unfold valL at h
      rw [hh, hh2] at h
      simp only [if_true, Fo.sh, List.append_nil, List.cons_append, List.append_assoc, List.nil_append, List.cons.injEq, true_and] at h
      have hq : ∀ (u : List UInt8), headNot (61 :: u) isH := fun u c hc => by
        simp only [List.head?_cons, Option.some.injEq] at hc
        subst hc
        unfold isH isD
        decide
      obtain ⟨e1, e2⟩ := span_eq (P := isH) (text_isH _) (text_isH _) (hq _) (hq _) h
      simp only [List.cons.injEq, true_and] at e2
      obtain ⟨e3, e4⟩ := span_eq (P := isD) (dec_isD _) (dec_isD _) hs hs' e2
      exact ⟨⟨by rw [hlx, hly], text_inj e1, by rw [hh, hh2], fun _ => dec_inj e3⟩, trivial, e4⟩
    | false =>
      exfalso
      rw [hlx, hly] at h
      simp only [if_true, Bool.false_eq_true, if_false, List.cons_append, List.append_assoc, List.nil_append] at h
      rcases hd : Lib.decDigits (kindN l.len) with _ | ⟨c, r⟩
      · exact dec_ne _ hd
      · rw [hd] at h
        simp only [List.cons_append, List.cons.injEq] at h
        have := dec_isD (kindN l.len) c (by rw [hd]; simp)
        rw [← h.1] at this
        unfold isD at this
        revert this
        decide
  | false =>
    cases hly : y.leaf with
    | true =>
      exfalso
      rw [hlx, hly] at h
      simp only [if_true, Bool.false_eq_true, if_false, List.cons_append, List.append_assoc, List.nil_append] at h
      rcases hd : Lib.decDigits (kindN k.len) with _ | ⟨c, r⟩
      · exact dec_ne _ hd
      · rw [hd] at h
        simp only [List.cons_append, List.cons.injEq] at h
        have := dec_isD (kindN k.len) c (by rw [hd]; simp)
        rw [h.1] at this
        unfold isD at this
        revert this
        decide
    | false =>
      rw [hlx, hly] at h
      simp only [Bool.false_eq_true, if_false, List.append_assoc, List.singleton_append] at h
      have hlt : ∀ u : List UInt8, headNot (60 :: u) isD := fun u c hc => by
        simp only [List.head?_cons, Option.some.injEq] at hc
        subst hc
        unfold isD
        decide
      obtain ⟨_, e1⟩ := span_eq (P := isD) (dec_isD _) (dec_isD _) (hlt _) (hlt _) h
      simp only [List.cons.injEq, true_and] at e1
      obtain ⟨e2, e3⟩ := span_eq (P := isH) (text_isH _) (text_isH _) (val_head x k s) (val_head y l s') e1
      obtain ⟨e4, e5, e6⟩ := val_eq e3
      obtain ⟨e7, e8⟩ := ih l s s' hkf hlf e6
      exact ⟨⟨by rw [hlx, hly], text_inj e2, e4, e5⟩, e7, e8⟩
theorem colon_D (u : List UInt8) : headNot (58 :: u) isD := fun c hc => by
  simp only [List.head?_cons, Option.some.injEq] at hc
  subst hc
  unfold isD
  decide
theorem sh_headD (f : Fo) (s : List UInt8) : headNot (f.sh ++ 62 :: s) isD := hd_D (sh_head f s)
theorem Fo.sh_eq : ∀ (f g : Fo) (s s' : List UInt8), f.lf → g.lf → f.sh ++ 62 :: s = g.sh ++ 62 :: s' → f.like g ∧ s = s'
  | .nil, .nil, s, s', _, _, h => ⟨trivial, by simpa [Fo.sh] using h⟩
  | .nil, .cons b x k r, s, s', _, _, h => by simp [Fo.sh] at h
  | .cons b x k r, .nil, s, s', _, _, h => by simp [Fo.sh] at h
  | .cons b x k r, .cons b' x' k' r', s, s', ⟨h1, h2, h3⟩, ⟨g1, g2, g3⟩, h => by
    rw [Fo.sh_cons, Fo.sh_cons] at h
    simp only [List.cons_append, List.append_assoc, List.cons.injEq, true_and] at h
    obtain ⟨rfl, e1⟩ := text2_eq h
    obtain ⟨e2, e3, e4⟩ := tree_eq (fun g t t' => Fo.sh_eq k g t t') h1 h2 g1 g2 (sh_headD r s) (sh_headD r' s') e1
    obtain ⟨e5, e6⟩ := Fo.sh_eq r r' s s' h3 g3 e4
    exact ⟨⟨rfl, e2, e3, e5⟩, e6⟩
theorem shape_eq {x y : Nn} {k l : Fo} (hx : lfN x k) (hkf : k.lf) (hy : lfN y l) (hlf : l.lf) (h : shL x k = shL y l) : likeN x y ∧ k.like l := by
  obtain ⟨h1, h2, _⟩ := tree_eq (fun g t t' => Fo.sh_eq k g t t') hx hkf hy hlf (s := []) (s' := []) (fun c hc => by cases hc) (fun c hc => by cases hc) (by simpa using h)
  exact ⟨h1, h2⟩
theorem sh_like : ∀ {f g : Fo}, f.like g → f.sh = g.sh
  | .nil, .nil, _ => rfl
  | .nil, .cons _ _ _ _, h => h.elim
  | .cons _ _ _ _, .nil, h => h.elim
  | .cons b x k r, .cons b' x' k' r', ⟨h1, h2, h3, h4⟩ => by
    obtain ⟨l1, l2, l3, l4⟩ := h2
    simp only [Fo.sh, begL, endL, valL, h1, l1, l2, ← l3, Fo.like_len h3, sh_like h3, sh_like h4]
    cases hh : x.has with
    | false => rfl
    | true => rw [l4 hh]
theorem shL_like {x y : Nn} {k l : Fo} (h : likeN x y) (hk : k.like l) : shL x k = shL y l := by
  obtain ⟨l1, l2, l3, l4⟩ := h
  simp only [shL, begL, endL, valL, l1, l2, ← l3, Fo.like_len hk, sh_like hk]
  cases hh : x.has with
  | false => rfl
  | true => rw [l4 hh]
end Go.Proofs.YtikmcmoegigfhaaGreatDoor

namespace Go.Proofs.YtikmcmoegigfhaaGreatDoor

def Fo.above (b : UInt8) : Fo → Prop
  | .nil => True
  | .cons b' _ _ _ => b.toNat < b'.toNat
/-- A leaf has a value and no kids; what has no value has 0; the owner is o. -/
def wfN (o : Int) (x : Nn) (k : Fo) : Prop := (x.leaf = true → k = .nil ∧ x.has = true) ∧ (x.has = false → x.val = 0) ∧ x.ow = o
def Fo.wf (o : Int) : Fo → Prop
  | .nil => True
  | .cons b x k r => r.above b ∧ wfN o x k ∧ k.wf o ∧ r.wf o
theorem Fo.wf_lf {o : Int} : ∀ {f : Fo}, f.wf o → f.lf
  | .nil, _ => trivial
  | .cons _ _ _ _, ⟨_, h2, h3, h4⟩ => ⟨h2.1, Fo.wf_lf h3, Fo.wf_lf h4⟩

theorem Fo.list_app (a : List UInt8) : ∀ (f : Fo) (w : List UInt8), f.list (a ++ w) = (f.list w).map fun p => (a ++ p.1, p.2)
  | .nil, _ => rfl
  | .cons b x k r, w => by
    simp only [Fo.list]
    rw [show ((a ++ w) ++ [b]) ++ x.part = a ++ ((w ++ [b]) ++ x.part) by simp, Fo.list_app a k, Fo.list_app a r]
    cases x.has <;> simp
theorem tlist_app (a : List UInt8) (x : Nn) (k : Fo) (w : List UInt8) : tlist x k (a ++ w) = (tlist x k w).map fun p => (a ++ p.1, p.2) := by
  unfold tlist
  rw [List.append_assoc, Fo.list_app a k]
  cases x.has <;> simp
theorem tlist_one (b : UInt8) (x : Nn) (k : Fo) : tlist x k [b] = (tlist x k []).map fun p => (b :: p.1, p.2) := by
  have := tlist_app [b] x k []
  simpa using this
theorem Fo.list_nil_cons (b : UInt8) (x : Nn) (k r : Fo) : (Fo.cons b x k r).list [] = ((tlist x k []).map fun p => (b :: p.1, p.2)) ++ r.list [] := by
  rw [Fo.list_cons, List.nil_append, tlist_one]
theorem tlist_part (x : Nn) (k : Fo) : tlist x k [] = (if x.has then [(x.part, x.val)] else []) ++ (k.list []).map fun p => (x.part ++ p.1, p.2) := by
  have := Fo.list_app x.part k []
  rw [List.append_nil] at this
  unfold tlist
  rw [List.nil_append, this]
/-- A forest's keys begin with its bytes. -/
theorem Fo.heads {o : Int} : ∀ {f : Fo} {b : UInt8}, f.wf o → f.above b → ∀ p ∈ f.list [], ∃ c t, p.1 = c :: t ∧ b.toNat < c.toNat
  | .nil, _, _, _, p, hp => by cases hp
  | .cons b' x k r, b, ⟨h1, h2, h3, h4⟩, ha, p, hp => by
    rw [Fo.list_nil_cons] at hp
    rcases List.mem_append.1 hp with q | q
    · obtain ⟨u, _, rfl⟩ := List.mem_map.1 q
      exact ⟨b', u.1, rfl, ha⟩
    · obtain ⟨c, t, e, hc⟩ := Fo.heads h4 h1 p q
      exact ⟨c, t, e, Nat.lt_trans ha hc⟩
theorem cmp_pre (a : List UInt8) (l m : List UInt8) : cmpL (a ++ l) (a ++ m) < 0 ↔ cmpL l m < 0 := by
  induction a with
  | nil => exact Iff.rfl
  | cons c a ih => rw [List.cons_append, List.cons_append, lt_cons]; simp [ih]
theorem cmp_longer (a : List UInt8) (c : UInt8) (t : List UInt8) : cmpL a (a ++ c :: t) < 0 := by
  induction a with
  | nil => simp [cmpL]
  | cons d a ih => rw [List.cons_append, lt_cons]; exact .inr ⟨rfl, ih⟩
theorem rise_pre {L : List KV} (a : List UInt8) (h : Rise L) : Rise (L.map fun p => (a ++ p.1, p.2)) := by
  unfold Rise at *
  rw [List.pairwise_map]
  exact h.imp fun hab => (cmp_pre a _ _).2 hab
theorem tree_rise {o : Int} {x : Nn} {k : Fo} (hk : k.wf o) (ih : Rise (k.list [])) : Rise (tlist x k []) := by
  rw [tlist_part]
  have h1 := rise_pre x.part ih
  have hh : ∀ p ∈ k.list [], ∃ c t, p.1 = c :: t := by
    cases k with
    | nil => intro p hp; cases hp
    | cons b y k' r =>
      obtain ⟨g1, g2, g3, g4⟩ := hk
      intro p hp
      rw [Fo.list_nil_cons] at hp
      rcases List.mem_append.1 hp with q | q
      · obtain ⟨u, _, rfl⟩ := List.mem_map.1 q
        exact ⟨b, u.1, rfl⟩
      · obtain ⟨c, t, e, _⟩ := Fo.heads g4 g1 p q
        exact ⟨c, t, e⟩
  cases x.has with
  | false => exact h1
  | true =>
    refine List.pairwise_cons.2 ⟨fun p hp => ?_, h1⟩
    obtain ⟨u, hu, rfl⟩ := List.mem_map.1 hp
    obtain ⟨c, t, e⟩ := hh u hu
    simp only [e]
    exact cmp_longer _ _ _
theorem Fo.rise {o : Int} : ∀ {f : Fo}, f.wf o → Rise (f.list [])
  | .nil, _ => List.Pairwise.nil
  | .cons b x k r, ⟨h1, h2, h3, h4⟩ => by
    rw [Fo.list_nil_cons]
    refine List.pairwise_append.2 ⟨rise_pre [b] (tree_rise (x := x) h3 (Fo.rise h3)), Fo.rise h4, fun p hp q hq => ?_⟩
    obtain ⟨u, _, rfl⟩ := List.mem_map.1 hp
    obtain ⟨c, t, e, hc⟩ := Fo.heads h4 h1 q hq
    rw [e]
    exact lt_cons.2 (.inl hc)

theorem tgood_ne {x : Nn} {k : Fo} (h : tgood x k) : tlist x k [] ≠ [] := fun q => by
  have := (tgood_points h [] 1).1
  rw [q] at this
  simp at this
theorem lcp_app (a l m : List UInt8) : lcp (a ++ l) (a ++ m) = a.length + lcp l m := by
  induction a with
  | nil => simp
  | cons c a ih => rw [List.cons_append, List.cons_append, lcp_same, ih, List.length_cons]; omega
theorem cut_pre (a : List UInt8) (L : List KV) : cut a.length (L.map fun p => (a ++ p.1, p.2)) = L := by
  unfold cut
  rw [List.map_map]
  conv => rhs; rw [← List.map_id L]
  exact List.map_congr_left fun p _ => by simp
/-- A fine tree is the canonical one of its pairs: the step at a node. -/
theorem tree_can {o : Int} {x : Nn} {k : Fo} (hx : wfN o x k) (hk : k.wf o) (hg : okN x k) (hkg : k.good) (ih : ∀ f, (∀ p ∈ k.list [], p.1.length ≤ f) → mkF (cT o f) (grp (k.list [])) = k) (f : Nat) (hf : ∀ p ∈ tlist x k [], p.1.length < f) : cT o f (tlist x k []) = (x, k) := by
  obtain ⟨w1, w2, w3⟩ := hx
  obtain ⟨xl, xo, xp, xv, xh⟩ := x
  simp only at w1 w2 w3
  subst w3
  cases hl : xl with
  | true =>
    subst hl
    obtain ⟨rfl, rfl⟩ := w1 rfl
    rw [tlist_part]
    cases f <;> simp [Fo.list, cT]
  | false =>
    subst hl
    unfold okN at hg
    simp only [Bool.false_eq_true, if_false] at hg
    obtain ⟨f', rfl⟩ : ∃ f', f = f' + 1 := by
      rcases f with _ | f'
      · have hne := tgood_ne (x := ⟨false, xo, xp, xv, xh⟩) (k := k) ⟨by unfold okN; simpa using hg, hkg⟩
        rcases ht : tlist ⟨false, xo, xp, xv, xh⟩ k [] with _ | ⟨p, r⟩
        · exact absurd ht hne
        · have := hf p (by rw [ht]; simp)
          omega
      · exact ⟨f', rfl⟩
    have hfk : ∀ p ∈ k.list [], p.1.length ≤ f' := fun p hp => by
      have := hf (xp ++ p.1, p.2) (by rw [tlist_part]; exact List.mem_append_right _ (List.mem_map.2 ⟨p, hp, rfl⟩))
      simp at this
      omega
    have hi := ih f' hfk
    rw [tlist_part]
    cases k with
    | nil => cases xh <;> simp [Fo.len] at hg
    | cons b y k1 r =>
      obtain ⟨h1, h2, h3, h4⟩ := hk
      obtain ⟨g1, g2, g3⟩ := hkg
      rcases hM : (Fo.cons b y k1 r).list [] with _ | ⟨m0, ms⟩
      · rw [Fo.list_nil_cons] at hM
        have := (List.append_eq_nil_iff.1 hM).1
        exact absurd (List.map_eq_nil_iff.1 this) (tgood_ne ⟨g1, g2⟩)
      · have hb0 : ∃ t, m0.1 = b :: t := by
          rw [Fo.list_nil_cons] at hM
          rcases ht : tlist y k1 [] with _ | ⟨u, us⟩
          · exact absurd ht (tgood_ne ⟨g1, g2⟩)
          · rw [ht] at hM
            simp only [List.map_cons, List.cons_append, List.cons.injEq] at hM
            exact ⟨u.1, by rw [← hM.1]⟩
        obtain ⟨t0, ht0⟩ := hb0
        cases xh with
        | true =>
          simp only [if_true, List.map_cons, List.singleton_append]
          unfold cT
          have hlast : ∃ u, (((xp ++ m0.1, m0.2) :: ms.map fun p => (xp ++ p.1, p.2)).getLast (by simp)).1 = xp ++ u := by
            have hm := List.getLast_mem (l := ((xp ++ m0.1, m0.2) :: ms.map fun p => (xp ++ p.1, p.2))) (by simp)
            rcases List.mem_cons.1 hm with q | q
            · exact ⟨m0.1, by rw [q]⟩
            · obtain ⟨u, _, hu⟩ := List.mem_map.1 q
              exact ⟨u.1, by rw [← hu]⟩
          obtain ⟨u, hu⟩ := hlast
          have he : lcp xp (xp ++ u) = xp.length := by
            have := lcp_app xp [] u
            rw [List.append_nil] at this
            rw [this]
            cases u <;> simp [lcp]
          simp only [hu, he, if_true]
          rw [show ((xp ++ m0.1, m0.2) :: ms.map fun p => (xp ++ p.1, p.2)) = (m0 :: ms).map fun p => (xp ++ p.1, p.2) from rfl, cut_pre, ← hM, hi]
          simp
        | false =>
          obtain rfl : xv = 0 := w2 rfl
          simp only [Bool.false_eq_true, if_false, List.nil_append, List.map_cons]
          simp only [Fo.len, Bool.false_eq_true, if_false, Nat.add_zero] at hg
          have hr2 : r.list [] ≠ [] := by
            cases r with
            | nil => simp [Fo.len] at hg
            | cons b' y' k' r' =>
              intro q
              rw [Fo.list_nil_cons] at q
              have := (List.append_eq_nil_iff.1 q).1
              exact absurd (List.map_eq_nil_iff.1 this) (tgood_ne ⟨g3.1, g3.2.1⟩)
          rcases ms with _ | ⟨m1, ms⟩
          · exfalso
            rw [Fo.list_nil_cons] at hM
            have h5 := congrArg List.length hM
            have h6 : 0 < (tlist y k1 []).length := List.length_pos_iff.2 (tgood_ne ⟨g1, g2⟩)
            have h7 : 0 < (r.list []).length := List.length_pos_iff.2 hr2
            simp at h5
            omega
          · simp only [List.map_cons]
            unfold cT
            have hlast : ∃ c t, (((xp ++ m1.1, m1.2) :: ms.map fun p => (xp ++ p.1, p.2)).getLast (by simp)).1 = xp ++ c :: t ∧ b.toNat < c.toNat := by
              have e1 : ((xp ++ m1.1, m1.2) :: ms.map fun p => (xp ++ p.1, p.2)) = (m1 :: ms).map fun p => (xp ++ p.1, p.2) := rfl
              have e2 : (m1 :: ms).getLast (by simp) = (r.list []).getLast hr2 := by
                have e3 : (m0 :: m1 :: ms).getLast (by simp) = (m1 :: ms).getLast (by simp) := List.getLast_cons (by simp)
                rw [← e3]
                have e4 : (m0 :: m1 :: ms) = ((tlist y k1 []).map fun p => (b :: p.1, p.2)) ++ r.list [] := by rw [← hM, Fo.list_nil_cons]
                simp only [e4]
                exact List.getLast_append_of_ne_nil _ hr2
              obtain ⟨c, t, e, hc⟩ := Fo.heads h4 h1 _ (List.getLast_mem hr2)
              refine ⟨c, t, ?_, hc⟩
              simp only [e1]
              rw [List.getLast_map, e2, e]
            obtain ⟨c, t, hu, hc⟩ := hlast
            have he : lcp (xp ++ m0.1) (xp ++ c :: t) = xp.length := by
              rw [lcp_app, ht0, lcp_ne (fun q => by rw [q] at hc; omega)]
              omega
            simp only [hu, he]
            rw [if_neg (by rw [ht0]; simp)]
            rw [show ((xp ++ m0.1, m0.2) :: (xp ++ m1.1, m1.2) :: ms.map fun p => (xp ++ p.1, p.2)) = (m0 :: m1 :: ms).map fun p => (xp ++ p.1, p.2) from rfl, cut_pre, ← hM, hi]
            simp
theorem Fo.can {o : Int} : ∀ (k : Fo), k.wf o → k.good → ∀ f, (∀ p ∈ k.list [], p.1.length ≤ f) → mkF (cT o f) (grp (k.list [])) = k
  | .nil, _, _, _, _ => rfl
  | .cons b x k r, ⟨h1, h2, h3, h4⟩, ⟨g1, g2, g3⟩, f, hf => by
    rw [Fo.list_nil_cons] at hf ⊢
    rw [grp_step (fun p r' hp => by
      cases r with
      | nil => cases hp
      | cons b' y k' r'' =>
        obtain ⟨c, t, e, hc⟩ := Fo.heads h4 h1 p (by rw [hp]; simp)
        exact ⟨c, t, e, fun q => by rw [q] at hc; omega⟩) _ (tgood_ne ⟨g1, g2⟩)]
    have e1 := tree_can h2 h3 g1 g2 (fun f' hf' => Fo.can k h3 g2 f' hf') f (fun p hp => by
      have := hf (b :: p.1, p.2) (List.mem_append_left _ (List.mem_map.2 ⟨p, hp, rfl⟩))
      simp at this
      omega)
    rw [mkF, e1, Fo.can r h4 g3 f (fun p hp => hf p (List.mem_append_right _ hp))]
theorem canon_is {o : Int} {x : Nn} {k : Fo} (hx : wfN o x k) (hk : k.wf o) (hg : tgood x k) (f : Nat) (hf : ∀ p ∈ tlist x k [], p.1.length < f) : cT o f (tlist x k []) = (x, k) :=
  tree_can hx hk hg.1 hg.2 (fun f' hf' => Fo.can k hk hg.2 f' hf') f hf
/-- Canonical trees are alike, whoever owns them. -/
theorem likeN_refl (x : Nn) : likeN x x := ⟨rfl, rfl, rfl, fun _ => rfl⟩
theorem cT_like (o o' : Int) : ∀ (f : Nat) (L : List KV), likeN (cT o f L).1 (cT o' f L).1 ∧ (cT o f L).2.like (cT o' f L).2
  | 0, [] => ⟨⟨rfl, rfl, rfl, fun _ => rfl⟩, trivial⟩
  | 0, p :: L => ⟨⟨rfl, rfl, rfl, fun _ => rfl⟩, trivial⟩
  | f + 1, [] => ⟨⟨rfl, rfl, rfl, fun _ => rfl⟩, trivial⟩
  | f + 1, [p] => ⟨⟨rfl, rfl, rfl, fun _ => rfl⟩, trivial⟩
  | f + 1, p :: q :: r => by
    have hm : ∀ gs : List (UInt8 × List KV), (mkF (cT o f) gs).like (mkF (cT o' f) gs) := by
      intro gs
      induction gs with
      | nil => trivial
      | cons g gs ih =>
        obtain ⟨b, g⟩ := g
        obtain ⟨h1, h2⟩ := cT_like o o' f g
        exact ⟨rfl, h1, h2, ih⟩
    unfold cT
    dsimp only
    split
    · exact ⟨⟨rfl, rfl, rfl, fun _ => rfl⟩, hm _⟩
    · exact ⟨⟨rfl, rfl, rfl, fun _ => rfl⟩, hm _⟩
end Go.Proofs.YtikmcmoegigfhaaGreatDoor
