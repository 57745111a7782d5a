/-
  Words without memory for layer 7: spans, what they have, when they are empty, the same, what two have; what follows of them.
-/
import Derived.Test.YtofccfbiappgaaaDoorKeys
import Derived.Test.YtofccfbiappgaaaDoorPure
import Derived.Test.YtofccfbiappgaaaDoorPureB
namespace Go.Proofs.YtofccfbiappgaaaDoor

/-- A span: its first key, its last one, whether it is open. -/
structure Sp where
  f : List UInt8
  t : List UInt8
  o : Bool
def hasS (s : Sp) (k : List UInt8) : Bool := decide (0 ≤ cmpL k s.f) && (s.o || decide (cmpL k s.t < 0))
def emptyS (s : Sp) : Bool := !s.o && decide (0 ≤ cmpL s.f s.t)
def sameS (a b : Sp) : Bool := sameB a.f b.f && ((a.o == b.o) && (a.o || sameB a.t b.t))
/-- The same in all parts. -/
def alikeS (a b : Sp) : Bool := sameB a.f b.f && (sameB a.t b.t && (a.o == b.o))
def prefS (p : List UInt8) : Sp := ⟨p, nextL p, !nextB p⟩
def lateF (a b : List UInt8) : List UInt8 := if 0 < cmpL b a then b else a
def endT (a b : Sp) : List UInt8 := if a.o = true then (if b.o = true then [] else b.t) else if b.o = true then a.t else if cmpL b.t a.t < 0 then b.t else a.t
def meetS (a b : Sp) : Sp := ⟨lateF a.f b.f, endT a b, a.o && b.o⟩

theorem cmpL_flip (l m : List UInt8) : cmpL l m = - cmpL m l := by
  induction l generalizing m with
  | nil => cases m <;> simp [cmpL]
  | cons a l ih =>
    cases m with
    | nil => simp [cmpL]
    | cons b m =>
      by_cases h : a = b
      · subst h; simp [cmpL, ih m]
      · have h' : b ≠ a := fun q => h q.symm
        have hn : a.toNat ≠ b.toNat := fun q => h (UInt8.toNat_inj.1 q)
        simp only [cmpL, h, h', if_false]
        by_cases hl : a.toNat < b.toNat
        · rw [if_pos hl, if_neg (by omega)]
        · rw [if_neg hl, if_pos (by omega)]; rfl
theorem cmpL_le_trans {a b c : List UInt8} (h1 : cmpL a b ≤ 0) (h2 : cmpL b c ≤ 0) : cmpL a c ≤ 0 := by
  induction a generalizing b c with
  | nil => cases c <;> simp [cmpL]
  | cons x a ih =>
    cases b with
    | nil => simp [cmpL] at h1
    | cons y b =>
      cases c with
      | nil => simp [cmpL] at h2
      | cons z c =>
        have e1 := @UInt8.toNat_inj x y
        have e2 := @UInt8.toNat_inj y z
        have e3 := @UInt8.toNat_inj x z
        simp only [cmpL] at h1 h2 ⊢
        by_cases hxy : x = y
        · by_cases hyz : y = z
          · subst hxy hyz
            simp only [if_true] at h1 h2 ⊢
            exact ih h1 h2
          · subst hxy
            rw [if_neg hyz] at h2 ⊢
            exact h2
        · by_cases hyz : y = z
          · subst hyz
            rw [if_neg hxy] at h1 ⊢
            exact h1
          · rw [if_neg hxy] at h1
            rw [if_neg hyz] at h2
            by_cases g1 : x.toNat < y.toNat
            · by_cases g2 : y.toNat < z.toNat
              · rw [if_neg (fun q => by have := e3.2 q; omega), if_pos (by omega)]; decide
              · rw [if_neg g2] at h2; simp at h2
            · rw [if_neg g1] at h1; simp at h1
theorem cmpL_lt_of {a b c : List UInt8} (h1 : cmpL a b ≤ 0) (h2 : cmpL b c < 0) : cmpL a c < 0 := by
  have h3 := cmpL_le_trans h1 (by omega : cmpL b c ≤ 0)
  rcases Int.lt_or_eq_of_le h3 with h | h
  · exact h
  · have := cmpL_zero.1 h
    subst this
    rw [cmpL_flip] at h1
    omega
theorem cmpL_lt_of' {a b c : List UInt8} (h1 : cmpL a b < 0) (h2 : cmpL b c ≤ 0) : cmpL a c < 0 := by
  have h3 := cmpL_le_trans (by omega : cmpL a b ≤ 0) h2
  rcases Int.lt_or_eq_of_le h3 with h | h
  · exact h
  · have := cmpL_zero.1 h
    subst this
    rw [cmpL_flip] at h1
    omega

theorem late_has (a b k : List UInt8) : decide (0 ≤ cmpL k (lateF a b)) = (decide (0 ≤ cmpL k a) && decide (0 ≤ cmpL k b)) := by
  unfold lateF
  have f1 := cmpL_flip k a
  have f2 := cmpL_flip k b
  have f3 := cmpL_flip a b
  split
  · rename_i h
    by_cases hb : 0 ≤ cmpL k b
    · have : cmpL a k ≤ 0 := cmpL_le_trans (b := b) (by omega) (by omega)
      simp [hb, show 0 ≤ cmpL k a from by omega]
    · simp [hb]
  · rename_i h
    by_cases ha : 0 ≤ cmpL k a
    · have : cmpL b k ≤ 0 := cmpL_le_trans (b := a) (by omega) (by omega)
      simp [ha, show 0 ≤ cmpL k b from by omega]
    · simp [ha]
theorem end_has (a b : Sp) (k : List UInt8) : ((a.o && b.o) || decide (cmpL k (endT a b) < 0)) = ((a.o || decide (cmpL k a.t < 0)) && (b.o || decide (cmpL k b.t < 0))) := by
  unfold endT
  have f3 := cmpL_flip a.t b.t
  cases ha : a.o <;> cases hb : b.o <;> simp
  split
  · rename_i h
    by_cases g : cmpL k b.t < 0
    · have := cmpL_lt_of' g (c := a.t) (by omega)
      simp [g, this]
    · simp [g]
  · rename_i h
    by_cases g : cmpL k a.t < 0
    · have := cmpL_lt_of' g (c := b.t) (by omega)
      simp [g, this]
    · simp [g]
theorem meet_has (a b : Sp) (k : List UInt8) : hasS (meetS a b) k = (hasS a k && hasS b k) := by
  unfold hasS meetS
  simp only
  rw [late_has, end_has]
  cases decide (0 ≤ cmpL k a.f) <;> cases decide (0 ≤ cmpL k b.f) <;> simp
theorem late_comm (a b : List UInt8) : lateF a b = lateF b a := by
  unfold lateF
  have f := cmpL_flip a b
  split
  · rw [if_neg (by omega)]
  · split
    · rfl
    · exact (cmpL_zero.1 (by omega))
theorem end_comm (a b : Sp) : endT a b = endT b a := by
  unfold endT
  have f := cmpL_flip a.t b.t
  cases ha : a.o <;> cases hb : b.o <;> simp
  split
  · rw [if_neg (by omega)]
  · split
    · rfl
    · exact (cmpL_zero.1 (by omega))
theorem meet_comm (a b : Sp) : meetS a b = meetS b a := by
  unfold meetS
  rw [late_comm, end_comm, Bool.and_comm]
theorem sameS_self (a : Sp) : sameS a a = true := by simp [sameS, sameB]
theorem alikeS_self (a : Sp) : alikeS a a = true := by simp [alikeS, sameB]
theorem empty_has (s : Sp) (k : List UInt8) (h : emptyS s = true) : hasS s k = false := by
  unfold emptyS at h
  simp only [Bool.and_eq_true, Bool.not_eq_true', decide_eq_true_eq] at h
  obtain ⟨ho, h⟩ := h
  unfold hasS
  rw [ho]
  by_cases h1 : 0 ≤ cmpL k s.f
  · by_cases h2 : cmpL k s.t < 0
    · have f1 := cmpL_flip k s.f
      have := cmpL_lt_of (a := s.f) (b := k) (c := s.t) (by omega) h2
      omega
    · simp [h2]
  · simp [h1]
theorem meet_empty (a b : Sp) (k : List UInt8) : (emptyS (meetS a b) && (hasS a k && hasS b k)) = false := by
  rw [← meet_has]
  cases h : emptyS (meetS a b)
  · rfl
  · rw [empty_has _ k h]; rfl
theorem whole_has (k : List UInt8) : hasS ⟨[], [], true⟩ k = true := by
  unfold hasS
  cases k <;> simp [cmpL]
/-- The span of a prefix has what begins with it. -/
theorem pref_has (p k : List UInt8) : hasS (prefS p) k = begB k p := by
  unfold hasS prefS begB
  exact within_next p k

/-- Of and Between: a tuple's errors, and the spans. -/
def ofE (fs : List Fd) (vs : List Vl) : Int := if fs.length < vs.length then 5 else putsE (fs.take vs.length) vs
def ofS (fs : List Fd) (vs : List Vl) : Sp := if ofE fs vs = 0 then prefS (putsL (fs.take vs.length) vs) else ⟨[], [], false⟩
def btwX (fs : List Fd) (a b : List Vl) : Sp := ⟨(ofS fs a).f, (ofS fs b).t, (ofS fs b).o⟩
def btwE (fs : List Fd) (a b : List Vl) : Int := if ofE fs a ≠ 0 then ofE fs a else if ofE fs b ≠ 0 then ofE fs b else if emptyS (btwX fs a b) = true then 12 else 0
def btwS (fs : List Fd) (a b : List Vl) : Sp := if btwE fs a b = 0 then btwX fs a b else ⟨[], [], false⟩

theorem of_many {fs : List Fd} {vs : List Vl} (h : fs.length < vs.length) : ofE fs vs = 5 ∧ ofS fs vs = ⟨[], [], false⟩ := by
  have e : ofE fs vs = 5 := if_pos h
  exact ⟨e, by unfold ofS; rw [e]; rfl⟩
theorem of_puts {fs : List Fd} {vs : List Vl} (h : ¬ fs.length < vs.length) : ofE fs vs = putsE (fs.take vs.length) vs := if_neg h
theorem of_bad {fs : List Fd} {vs : List Vl} (h : ¬ fs.length < vs.length) (he : putsE (fs.take vs.length) vs ≠ 0) : ofE fs vs = putsE (fs.take vs.length) vs ∧ ofS fs vs = ⟨[], [], false⟩ := by
  refine ⟨of_puts h, ?_⟩
  unfold ofS
  rw [of_puts h, if_neg he]
theorem of_ok {fs : List Fd} {vs : List Vl} (h : ¬ fs.length < vs.length) (he : putsE (fs.take vs.length) vs = 0) : ofE fs vs = 0 ∧ ofS fs vs = prefS (putsL (fs.take vs.length) vs) := by
  refine ⟨by rw [of_puts h, he], ?_⟩
  unfold ofS
  rw [of_puts h, if_pos he]
theorem btw_one {fs : List Fd} {a b : List Vl} (h : ofE fs a ≠ 0) : btwE fs a b = ofE fs a ∧ btwS fs a b = ⟨[], [], false⟩ := by
  have e : btwE fs a b = ofE fs a := if_pos h
  exact ⟨e, by unfold btwS; rw [e, if_neg h]⟩
theorem btw_two {fs : List Fd} {a b : List Vl} (h : ofE fs a = 0) (h' : ofE fs b ≠ 0) : btwE fs a b = ofE fs b ∧ btwS fs a b = ⟨[], [], false⟩ := by
  have e : btwE fs a b = ofE fs b := by unfold btwE; rw [if_neg (by omega), if_pos h']
  exact ⟨e, by unfold btwS; rw [e, if_neg h']⟩
theorem btw_empty {fs : List Fd} {a b : List Vl} (h : ofE fs a = 0) (h' : ofE fs b = 0) (he : emptyS (btwX fs a b) = true) : btwE fs a b = 12 ∧ btwS fs a b = ⟨[], [], false⟩ := by
  have e : btwE fs a b = 12 := by unfold btwE; rw [if_neg (by omega), if_neg (by omega), if_pos he]
  exact ⟨e, by unfold btwS; rw [e]; rfl⟩
theorem btw_ok {fs : List Fd} {a b : List Vl} (h : ofE fs a = 0) (h' : ofE fs b = 0) (he : emptyS (btwX fs a b) = false) : btwE fs a b = 0 ∧ btwS fs a b = btwX fs a b := by
  have e : btwE fs a b = 0 := by unfold btwE; rw [if_neg (by omega), if_neg (by omega), he]; rfl
  exact ⟨e, by unfold btwS; rw [if_pos e]⟩

theorem catB_take (fs : List Fd) (vs : List Vl) (k : Nat) (h : catB fs vs = true) (hl : fs.length = vs.length) : catB (fs.take k) (vs.take k) = true := by
  induction fs generalizing vs k with
  | nil => simp [catB]
  | cons f fs ih =>
    cases vs with
    | nil => simp at hl
    | cons v vs =>
      cases k with
      | zero => simp [catB]
      | succ k =>
        simp only [List.take_succ_cons, catB, Bool.and_eq_true] at h ⊢
        exact ⟨h.1, ih vs k h.2 (by simpa using hl)⟩
theorem lcp_append_left (x a y : List UInt8) (h : ¬ (lcp x y = x.length)) : lcp (x ++ a) y = lcp x y := by
  induction x generalizing y with
  | nil => cases y <;> simp [lcp] at h
  | cons u x ih =>
    cases y with
    | nil => rfl
    | cons v y =>
      simp only [List.cons_append, lcp] at h ⊢
      by_cases e : u = v
      · rw [if_pos e, if_pos e]
        rw [if_pos e] at h
        rw [ih y (fun q => h (by simp [q]))]
      · rw [if_neg e, if_neg e]
theorem lcp_self (x : List UInt8) : lcp x x = x.length := by
  induction x with
  | nil => rfl
  | cons a x ih => simp [lcp, ih]
theorem lcp_append_self (x a : List UInt8) : lcp (x ++ a) x = x.length := by
  induction x with
  | nil => cases a <;> rfl
  | cons u x ih => simp [lcp, ih]
/-- A tuple's bytes are had by the span of first values just if its own ones are the same (P7.4). -/
theorem of_has {fs : List Fd} {a d : List Vl} (h : ofE fs a = 0) (hd : putsE fs d = 0) : hasS (ofS fs a) (putsL fs d) = decide (cmpT (fs.take a.length) a (d.take a.length) = 0) := by
  have hn : ¬ fs.length < a.length := fun q => by rw [(of_many q).1] at h; cases h
  have hp : putsE (fs.take a.length) a = 0 := by rw [← of_puts hn]; exact h
  rw [(of_ok hn hp).2, pref_has]
  obtain ⟨_, la, ba, _, ea⟩ := putsE_zero hp
  obtain ⟨_, ld, bd, _, ed⟩ := putsE_zero hd
  rw [ea, ed, catL_split ld a.length]
  have bt := catB_take fs d a.length bd ld
  have lt : (fs.take a.length).length = (d.take a.length).length := by simp; omega
  unfold begB
  have ord := cat_order (fs.take a.length) a (d.take a.length) ba bt la lt
  by_cases hc : cmpT (fs.take a.length) a (d.take a.length) = 0
  · have e : catL (fs.take a.length) a = catL (fs.take a.length) (d.take a.length) := cmpL_zero.1 (by rw [ord.1]; exact hc)
    rw [hc, ← e, lcp_append_self]
    simp
  · obtain ⟨q1, q2⟩ := ord.2 hc
    rw [lcp_append_left _ _ _ (by rw [lcp_comm]; omega), lcp_comm, decide_eq_false hc]
    exact decide_eq_false (by omega)
end Go.Proofs.YtofccfbiappgaaaDoor
