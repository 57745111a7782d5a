/-
  Words without memory for layer 5: kinds' widths, a value's bytes by a field, what bytes begin with, the order of two values; what follows of them.
  Words without memory for layer 6: schemas, tuples, their bytes, what bytes begin with, their order; what follows of them.
-/
import Derived.Test.YtofccfbiappgaaaDoorNums
import Derived.Test.YtofccfbiappgaaaDoorPure
namespace Go.Proofs.YtofccfbiappgaaaDoor

/-- How many bytes a number of a kind has. -/
def wd (k : Int) : Int := if k = 1 ∨ k = 5 then 1 else if k = 2 ∨ k = 6 then 2 else if k = 3 ∨ k = 7 then 4 else if k = 4 ∨ k = 8 then 8 else 0
/-- What Check answers. -/
def chk (k : Int) : Int := if 1 ≤ k ∧ k ≤ 10 then 0 else 9
/-- A value's bytes by a kind that rises, and the error. -/
def fE (k : Int) (u : Nat) (i : Int) : Int := if 1 ≤ k ∧ k ≤ 4 then putE (wd k) u else if 5 ≤ k ∧ k ≤ 8 then iputE (wd k) i else if k = 9 ∨ k = 10 then 0 else 9
def fR (k : Int) (u : Nat) (i : Int) (l : List UInt8) (t : Bool) : List UInt8 :=
  if 1 ≤ k ∧ k ≤ 4 then putL (wd k) u else if 5 ≤ k ∧ k ≤ 8 then iputL (wd k) i else if k = 9 then [boolB t] else if k = 10 then sputL l else []
/-- Bytes, or the other ones. -/
def turn (f : Bool) (l : List UInt8) : List UInt8 := if f then othL l else l
/-- A value with its own part alone. -/
def bU (k : Int) (u : Nat) : Nat := if 1 ≤ k ∧ k ≤ 4 then u else 0
def bI (k : Int) (i : Int) : Int := if 5 ≤ k ∧ k ≤ 8 then i else 0
def bL (k : Int) (l : List UInt8) : List UInt8 := if k = 10 then l else []
def bT (k : Int) (t : Bool) : Bool := if k = 9 then t else false
/-- What bytes begin with, by a kind that rises: the parts, what stands behind, how many bytes it has, the error. -/
def tU (k : Int) (b : List UInt8) : Nat := if 1 ≤ k ∧ k ≤ 4 then firstN (wd k) b else 0
def tI (k : Int) (b : List UInt8) : Int := if 5 ≤ k ∧ k ≤ 8 then itakeN (wd k) b else 0
def tL (k : Int) (b : List UInt8) : List UInt8 := if k = 10 then (scan b).T else []
def tT (k : Int) (b : List UInt8) : Bool := if k = 9 then tbV b else false
def tR (k : Int) (b : List UInt8) : List UInt8 := if 1 ≤ k ∧ k ≤ 8 then restL (wd k) b else if k = 9 then tbR b else if k = 10 then (scan b).R b else []
def tN (k : Int) (b : List UInt8) : Nat := if 1 ≤ k ∧ k ≤ 8 then b.length - (restL (wd k) b).length else if k = 9 then 1 else if k = 10 then (scan b).N else 0
def tE (k : Int) (b : List UInt8) : Int := if 1 ≤ k ∧ k ≤ 8 then firstE (wd k) b else if k = 9 then tbE b else if k = 10 then (scan b).E else 9
/-- The order of yes and no. -/
def cmpB (a b : Bool) : Int := if a = b then 0 else if b then -1 else 1
/-- The order of two values by a kind that rises. -/
def upC (k : Int) (u : Nat) (i : Int) (l : List UInt8) (t : Bool) (u' : Nat) (i' : Int) (l' : List UInt8) (t' : Bool) : Int :=
  if 1 ≤ k ∧ k ≤ 4 then cmpN u u' else if 5 ≤ k ∧ k ≤ 8 then cmpZ i i' else if k = 9 then cmpB t t' else if k = 10 then cmpL l l' else 0
/-- The order of two values by a field. -/
def fC (k : Int) (f : Bool) (u : Nat) (i : Int) (l : List UInt8) (t : Bool) (u' : Nat) (i' : Int) (l' : List UInt8) (t' : Bool) : Int :=
  if f then upC k u' i' l' t' u i l t else upC k u i l t u' i' l' t'

theorem kinds (k : Int) : k = 1 ∨ k = 2 ∨ k = 3 ∨ k = 4 ∨ k = 5 ∨ k = 6 ∨ k = 7 ∨ k = 8 ∨ k = 9 ∨ k = 10 ∨ ((k ≠ 1 ∧ k ≠ 2 ∧ k ≠ 3 ∧ k ≠ 4) ∧ (k ≠ 5 ∧ k ≠ 6 ∧ k ≠ 7 ∧ k ≠ 8) ∧ k ≠ 9 ∧ k ≠ 10) := by omega
theorem turn_length (f : Bool) (l : List UInt8) : (turn f l).length = l.length := by cases f <;> simp [turn, othL_length]
theorem turn_turn (f : Bool) (l : List UInt8) : turn f (turn f l) = l := by cases f <;> simp [turn, othL_othL]
theorem turn_append (f : Bool) (l m : List UInt8) : turn f (l ++ m) = turn f l ++ turn f m := by cases f <;> simp [turn, othL]
theorem turn_nil (f : Bool) : turn f [] = [] := by cases f <;> rfl
theorem turn_drop (f : Bool) (l : List UInt8) (n : Nat) : turn f (l.drop n) = (turn f l).drop n := by cases f <;> simp [turn, othL]

theorem wd_wid {k : Int} (h : 1 ≤ k ∧ k ≤ 8) : wid (wd k) = true := by
  rcases (by omega : k = 1 ∨ k = 2 ∨ k = 3 ∨ k = 4 ∨ k = 5 ∨ k = 6 ∨ k = 7 ∨ k = 8) with rfl | rfl | rfl | rfl | rfl | rfl | rfl | rfl <;> rfl

/-- Where something is taken, what stands behind is what is left of the bytes. -/
theorem tR_drop {k : Int} {b : List UInt8} (h : tE k b = 0) : tR k b = b.drop (tN k b) ∧ tN k b ≤ b.length := by
  unfold tE at h
  unfold tR tN
  by_cases h8 : 1 ≤ k ∧ k ≤ 8
  · rw [if_pos h8] at h
    rw [if_pos h8, if_pos h8]
    have hw := wd_wid h8
    simp only [firstE, hw, if_true] at h
    have hl : (wd k).toNat ≤ b.length := by
      by_cases q : (wd k).toNat ≤ b.length
      · exact q
      · rw [if_neg q] at h; cases h
    have e : restL (wd k) b = b.drop (wd k).toNat := by simp [restL, hw, hl]
    rw [e, List.length_drop]
    exact ⟨by congr 1; omega, by omega⟩
  · rw [if_neg h8] at h
    rw [if_neg h8, if_neg h8]
    by_cases h9 : k = 9
    · rw [if_pos h9] at h
      rw [if_pos h9, if_pos h9]
      match b with
      | [] => simp [tbE] at h
      | u :: r =>
        simp only [tbE] at h
        by_cases q : u.toNat ≤ 1
        · simp [tbR, q]
        · rw [if_neg q] at h; cases h
    · rw [if_neg h9] at h
      rw [if_neg h9, if_neg h9]
      by_cases h10 : k = 10
      · rw [if_pos h10] at h
        rw [if_pos h10, if_pos h10]
        obtain ⟨t, n, hs⟩ := scan_E b h
        rw [hs]
        exact ⟨rfl, (scan_len hs).2.1⟩
      · rw [if_neg h10] at h; cases h
/-- Where nothing is taken, there is nothing. -/
theorem tE_none {k : Int} {b : List UInt8} (h : tE k b ≠ 0) : tU k b = 0 ∧ tI k b = 0 ∧ tL k b = [] ∧ tT k b = false ∧ tR k b = [] := by
  unfold tE at h
  unfold tU tI tL tT tR
  by_cases h8 : 1 ≤ k ∧ k ≤ 8
  · rw [if_pos h8] at h
    have hw := wd_wid h8
    have hl : ¬ (wd k).toNat ≤ b.length := fun q => h (by simp [firstE, hw, q])
    have e1 : firstN (wd k) b = 0 := by simp [firstN, hl]
    have e2 : itakeN (wd k) b = 0 := by simp [itakeN, h]
    have e3 : restL (wd k) b = [] := by simp [restL, hl]
    rw [e1, e2, e3, if_pos h8, if_neg (by omega : ¬ k = 10), if_neg (by omega : ¬ k = 9)]
    exact ⟨by split <;> rfl, by split <;> rfl, rfl, rfl, rfl⟩
  · rw [if_neg h8] at h
    rw [if_neg h8, if_neg (by omega : ¬ (1 ≤ k ∧ k ≤ 4)), if_neg (by omega : ¬ (5 ≤ k ∧ k ≤ 8))]
    by_cases h9 : k = 9
    · rw [if_pos h9] at h
      rw [if_pos h9, if_pos h9, if_neg (by omega : ¬ k = 10)]
      refine ⟨rfl, rfl, rfl, ?_⟩
      match b with
      | [] => exact ⟨rfl, rfl⟩
      | u :: r =>
        simp only [tbE] at h
        have q : ¬ u.toNat ≤ 1 := fun q => h (by rw [if_pos q])
        have : u ≠ 1 := fun e => q (by rw [e]; decide)
        simp [tbV, tbR, q, this]
    · rw [if_neg h9] at h
      rw [if_neg h9, if_neg h9]
      by_cases h10 : k = 10
      · rw [if_pos h10] at h
        rw [if_pos h10, if_pos h10]
        rcases hs : scan b with ⟨t, n⟩ | e
        · rw [hs] at h; exact absurd rfl h
        · exact ⟨rfl, rfl, rfl, rfl, rfl⟩
      · rw [if_neg h10, if_neg h10]; exact ⟨rfl, rfl, rfl, rfl, rfl⟩

theorem put_ok {x : Int} {n : Nat} (h : putE x n = 0) : ∃ k : Nat, x = k ∧ k ≤ 8 ∧ wid k = true ∧ n < 256 ^ k ∧ putL x n = beL k n := by
  unfold putE at h
  by_cases hx : wid x = true
  · by_cases hm : (n : Int) ≤ mostI x
    · obtain ⟨k, rfl, hk⟩ := wid_nat hx
      refine ⟨k, rfl, by omega, hx, ?_, by simp [putL, hx, hm]⟩
      rw [mostI_pow hk] at hm
      omega
    · simp [hx, hm] at h
  · simp [hx] at h
theorem take_back {k n : Nat} (hw : wid k = true) (h : n < 256 ^ k) (m : List UInt8) : firstN k (beL k n ++ m) = n ∧ restL k (beL k n ++ m) = m ∧ firstE k (beL k n ++ m) = 0 := by
  have hl := beL_length k n
  refine ⟨?_, ?_, ?_⟩
  · simp [firstN, hw, hl, ofL_beL, Nat.mod_eq_of_lt h]
  · simp [restL, hw, hl]
  · simp [firstE, hw, hl]

/-- What is put is taken. -/
theorem back (k : Int) (u : Nat) (i : Int) (l : List UInt8) (t : Bool) (m : List UInt8) (h : fE k u i = 0) :
    tU k (fR k u i l t ++ m) = bU k u ∧ tI k (fR k u i l t ++ m) = bI k i ∧ tL k (fR k u i l t ++ m) = bL k l ∧ tT k (fR k u i l t ++ m) = bT k t ∧ tR k (fR k u i l t ++ m) = m ∧ tE k (fR k u i l t ++ m) = 0 := by
  unfold fE at h
  unfold tU tI tL tT tR tE bU bI bL bT fR
  by_cases h4 : 1 ≤ k ∧ k ≤ 4
  · rw [if_pos h4] at h
    have n5 : ¬ (5 ≤ k ∧ k ≤ 8) := by omega
    have n10 : ¬ k = 10 := by omega
    have n9 : ¬ k = 9 := by omega
    have p8 : 1 ≤ k ∧ k ≤ 8 := by omega
    obtain ⟨x, hx, _, hw, hlt, hp⟩ := put_ok h
    simp only [if_pos h4, if_neg n5, if_neg n10, if_neg n9, if_pos p8]
    rw [hp, hx]
    obtain ⟨a, b, c⟩ := take_back hw hlt m
    exact ⟨a, by trivial, by trivial, by trivial, b, c⟩
  · rw [if_neg h4] at h
    by_cases h5 : 5 ≤ k ∧ k ≤ 8
    · rw [if_pos h5] at h
      have n10 : ¬ k = 10 := by omega
      have n9 : ¬ k = 9 := by omega
      have p8 : 1 ≤ k ∧ k ≤ 8 := by omega
      obtain ⟨x, hx, _, hw, h0, _, hlt, hp⟩ := iput_ok h
      simp only [if_neg h4, if_pos h5, if_neg n10, if_neg n9, if_pos p8]
      rw [hp, hx]
      obtain ⟨a, b, c⟩ := itake_back hw h0 hlt m
      exact ⟨by trivial, a, by trivial, by trivial, b, c⟩
    · rw [if_neg h5] at h
      have n8 : ¬ (1 ≤ k ∧ k ≤ 8) := by omega
      by_cases h9 : k = 9
      · have n10 : ¬ k = 10 := by omega
        simp only [if_neg h4, if_neg h5, if_neg n10, if_pos h9, if_neg n8]
        refine ⟨by trivial, by trivial, by trivial, ?_⟩
        cases t <;> simp [boolB, tbV, tbR, tbE]
      · by_cases h10 : k = 10
        · simp only [if_neg h4, if_neg h5, if_neg h9, if_pos h10, if_neg n8]
          rw [scan_put]
          exact ⟨by trivial, by trivial, rfl, by trivial, by simp [Scn.R], rfl⟩
        · rw [if_neg (by omega)] at h; cases h

theorem lcp_same {a b : List UInt8} (hl : a.length = b.length) (h : lcp a b = b.length) : a = b := by
  apply List.ext_getElem? 
  intro j
  obtain ⟨_, _, hg⟩ := lcp_agree a b
  rcases Nat.lt_or_ge j b.length with q | q
  · exact hg j (by omega)
  · rw [List.getElem?_eq_none (by omega), List.getElem?_eq_none (by omega)]

/-- The other ones stand the other way round, where none is the beginning of the other one. -/
theorem cmpL_turned (a b : List UInt8) (h1 : lcp a b = b.length → a = b) (h2 : lcp a b = a.length → a = b) : cmpL (othL a) (othL b) = cmpL b a := by
  induction a generalizing b with
  | nil =>
    obtain rfl := h2 (by simp [lcp])
    rfl
  | cons u a ih =>
    cases b with
    | nil => exact absurd (h1 (by simp [lcp])) (by simp)
    | cons v b =>
      have hu := u.toNat_lt
      have hv := v.toNat_lt
      simp only [othL, List.map_cons, cmpL]
      by_cases e : u = v
      · subst e
        rw [if_pos rfl, if_pos rfl]
        refine ih b (fun q => ?_) (fun q => ?_)
        · have := h1 (by simp [lcp, q]); simpa using this
        · have := h2 (by simp [lcp, q]); simpa using this
      · rw [if_neg (fun q => e (oth_inj q)), if_neg (Ne.symm e), oth_toNat, oth_toNat]
        have h3 : u.toNat ≠ v.toNat := fun q => e (UInt8.toNat_inj.1 q)
        by_cases h4 : v.toNat < u.toNat
        · rw [if_pos (by omega), if_pos h4]
        · rw [if_neg (by omega), if_neg h4]

theorem lcp_comm (a b : List UInt8) : lcp a b = lcp b a := by
  induction a generalizing b with
  | nil => cases b <;> rfl
  | cons u a ih =>
    cases b with
    | nil => rfl
    | cons v b =>
      simp only [lcp]
      by_cases e : u = v
      · subst e; simp [ih]
      · rw [if_neg e, if_neg (Ne.symm e)]
theorem lcp_turn (f : Bool) (a b : List UInt8) : lcp (turn f a) (turn f b) = lcp a b := by
  cases f with
  | false => rfl
  | true =>
    show lcp (othL a) (othL b) = _
    induction a generalizing b with
    | nil => cases b <;> rfl
    | cons u a ih =>
      cases b with
      | nil => rfl
      | cons v b =>
        have ih' : lcp (List.map (fun u => 255 - u) a) (List.map (fun u => 255 - u) b) = lcp a b := ih b
        simp only [othL, List.map_cons, lcp]
        by_cases e : u = v
        · subst e; simp [ih']
        · rw [if_neg (fun q => e (oth_inj q)), if_neg e]

/-- Two values' bytes: their order, and none is the beginning of the other one. -/
theorem order0 (k : Int) (u u' : Nat) (i i' : Int) (l l' : List UInt8) (t t' : Bool) (h : fE k u i = 0) (h' : fE k u' i' = 0) :
    cmpL (fR k u i l t) (fR k u' i' l' t') = upC k u i l t u' i' l' t' ∧ (lcp (fR k u i l t) (fR k u' i' l' t') = (fR k u' i' l' t').length → fR k u i l t = fR k u' i' l' t') ∧ (lcp (fR k u i l t) (fR k u' i' l' t') = (fR k u i l t).length → fR k u i l t = fR k u' i' l' t') := by
  unfold fE at h h'
  unfold fR upC
  by_cases h4 : 1 ≤ k ∧ k ≤ 4
  · rw [if_pos h4] at h h'
    obtain ⟨x, hx, _, hw, hlt, hp⟩ := put_ok h
    obtain ⟨y, hy, _, _, hlt', hp'⟩ := put_ok h'
    obtain rfl : x = y := by omega
    simp only [if_pos h4]
    rw [hp, hp']
    have e : (beL x u).length = (beL x u').length := by rw [beL_length, beL_length]
    exact ⟨cmpL_beL hlt hlt', fun q => lcp_same e q, fun q => lcp_same e (by omega)⟩
  · rw [if_neg h4] at h h'
    by_cases h5 : 5 ≤ k ∧ k ≤ 8
    · rw [if_pos h5] at h h'
      obtain ⟨x, hx, _, hw, h0, _, hlt, hp⟩ := iput_ok h
      obtain ⟨y, hy, _, _, h0', _, hlt', hp'⟩ := iput_ok h'
      obtain rfl : x = y := by omega
      simp only [if_neg h4, if_pos h5]
      rw [hp, hp']
      have e : (beL x (i - leastI x).toNat).length = (beL x (i' - leastI x).toNat).length := by rw [beL_length, beL_length]
      exact ⟨cmp_iput h0 h0' hlt hlt', fun q => lcp_same e q, fun q => lcp_same e (by omega)⟩
    · rw [if_neg h5] at h
      by_cases h9 : k = 9
      · simp only [if_neg h4, if_neg h5, if_pos h9]
        refine ⟨?_, fun q => lcp_same rfl q, fun q => lcp_same rfl q⟩
        cases t <;> cases t' <;> decide
      · by_cases h10 : k = 10
        · simp only [if_neg h4, if_neg h5, if_neg h9, if_pos h10]
          refine ⟨cmpL_sput l l', fun q => by rw [lcp_sput q], fun q => ?_⟩
          rw [lcp_comm] at q
          rw [lcp_sput q]
        · rw [if_neg (by omega)] at h; cases h
theorem upC_swap (k : Int) (u u' : Nat) (i i' : Int) (l l' : List UInt8) (t t' : Bool) (h : fE k u i = 0) (h' : fE k u' i' = 0) :
    cmpL (fR k u' i' l' t') (fR k u i l t) = upC k u' i' l' t' u i l t := (order0 k u' u i' i l' l t' t h' h).1
theorem order (k : Int) (f : Bool) (u u' : Nat) (i i' : Int) (l l' : List UInt8) (t t' : Bool) (h : fE k u i = 0) (h' : fE k u' i' = 0) :
    cmpL (turn f (fR k u i l t)) (turn f (fR k u' i' l' t')) = fC k f u i l t u' i' l' t' := by
  obtain ⟨h1, h2, h3⟩ := order0 k u u' i i' l l' t t' h h'
  cases f with
  | false => exact h1
  | true =>
    show cmpL (othL _) (othL _) = upC k u' i' l' t' u i l t
    rw [cmpL_turned _ _ h2 h3]
    exact upC_swap k u u' i i' l l' t t' h h'
theorem begins (k : Int) (f : Bool) (u u' : Nat) (i i' : Int) (l l' : List UInt8) (t t' : Bool) (h : fE k u i = 0) (h' : fE k u' i' = 0) (hc : fC k f u i l t u' i' l' t' ≠ 0) :
    begB (turn f (fR k u i l t)) (turn f (fR k u' i' l' t')) = false ∧ begB (turn f (fR k u' i' l' t')) (turn f (fR k u i l t)) = false := by
  obtain ⟨_, h2, h3⟩ := order0 k u u' i i' l l' t t' h h'
  have hne : turn f (fR k u i l t) ≠ turn f (fR k u' i' l' t') := fun q => hc (by rw [← order k f u u' i i' l l' t t' h h', q, cmpL_self])
  unfold begB
  rw [lcp_turn, lcp_turn, turn_length, turn_length]
  refine ⟨decide_eq_false fun q => hne (by rw [h2 q]), decide_eq_false fun q => hne (by rw [lcp_comm] at q; rw [h3 q])⟩
end Go.Proofs.YtofccfbiappgaaaDoor

namespace Go.Proofs.YtofccfbiappgaaaDoor

/-- A field: its kind, and whether it falls. A value: its four parts. -/
structure Fd where
  k : Int
  f : Bool
structure Vl where
  u : Nat
  i : Int
  l : List UInt8
  t : Bool

/-- What Check answers. -/
def chkL (fs : List Fd) : Int := if 255 < fs.length then 5 else if fs.all (fun f => decide (1 ≤ f.k ∧ f.k ≤ 10)) then 0 else 9
/-- One value's bytes by its field, and the error. -/
def oneE (f : Fd) (v : Vl) : Int := fE f.k v.u v.i
def oneL (f : Fd) (v : Vl) : List UInt8 := turn f.f (fR f.k v.u v.i v.l v.t)
/-- All values' bytes, one behind the other; whether each may be. -/
def catL : List Fd → List Vl → List UInt8
  | f :: fs, v :: vs => oneL f v ++ catL fs vs
  | _, _ => []
def catB : List Fd → List Vl → Bool
  | f :: fs, v :: vs => decide (oneE f v = 0) && catB fs vs
  | _, _ => true
/-- What Put answers. -/
def putsE (fs : List Fd) (vs : List Vl) : Int :=
  if chkL fs ≠ 0 then chkL fs else if vs.length < fs.length then 4 else if fs.length < vs.length then 5 else if catB fs vs && decide ((catL fs vs).length ≤ 65535) then 0 else 8
def putsL (fs : List Fd) (vs : List Vl) : List UInt8 := if putsE fs vs = 0 then catL fs vs else []

theorem chk_all {fs : List Fd} : fs.all (fun f => decide (1 ≤ f.k ∧ f.k ≤ 10)) = true ↔ ∀ f ∈ fs, 1 ≤ f.k ∧ f.k ≤ 10 := by simp
theorem chkL_many {fs : List Fd} (h : 255 < fs.length) : chkL fs = 5 := if_pos h
theorem chkL_bad {fs : List Fd} {k : Nat} {f : Fd} (h : ¬ 255 < fs.length) (hf : fs[k]? = some f) (hk : ¬ (1 ≤ f.k ∧ f.k ≤ 10)) : chkL fs = 9 := by
  unfold chkL
  rw [if_neg h, if_neg]
  intro q
  exact hk (chk_all.1 q f (List.mem_of_getElem? hf))
theorem chkL_ok {fs : List Fd} (h : ¬ 255 < fs.length) (hk : ∀ (j : Nat) (f : Fd), j < fs.length → fs[j]? = some f → 1 ≤ f.k ∧ f.k ≤ 10) : chkL fs = 0 := by
  unfold chkL
  rw [if_neg h, if_pos]
  rw [chk_all]
  intro f hf
  obtain ⟨j, hj, e⟩ := List.mem_iff_getElem.1 hf
  exact hk j f hj (by rw [List.getElem?_eq_getElem hj, e])
theorem chkL_zero {fs : List Fd} (h : chkL fs = 0) : fs.length ≤ 255 ∧ ∀ f ∈ fs, 1 ≤ f.k ∧ f.k ≤ 10 := by
  unfold chkL at h
  by_cases q : 255 < fs.length
  · rw [if_pos q] at h; cases h
  · rw [if_neg q] at h
    by_cases r : fs.all (fun f => decide (1 ≤ f.k ∧ f.k ≤ 10)) = true
    · exact ⟨by omega, chk_all.1 r⟩
    · rw [if_neg r] at h; cases h
theorem chkL_cases (fs : List Fd) : chkL fs = 0 ∨ chkL fs = 5 ∨ chkL fs = 9 := by
  unfold chkL
  split
  · exact .inr (.inl rfl)
  · split
    · exact .inl rfl
    · exact .inr (.inr rfl)

theorem fE_cases {k : Int} (h : 1 ≤ k ∧ k ≤ 10) (u : Nat) (i : Int) : fE k u i = 0 ∨ fE k u i = 8 := by
  unfold fE
  by_cases h4 : 1 ≤ k ∧ k ≤ 4
  · rw [if_pos h4]
    unfold putE
    rw [if_pos (wd_wid (by omega))]
    split
    · exact .inl rfl
    · exact .inr rfl
  · rw [if_neg h4]
    by_cases h5 : 5 ≤ k ∧ k ≤ 8
    · rw [if_pos h5]
      unfold iputE
      rw [if_pos (wd_wid (by omega))]
      split
      · exact .inl rfl
      · exact .inr rfl
    · rw [if_neg h5, if_pos (by omega)]
      exact .inl rfl
theorem fE_nat {k : Int} {u : Nat} {i : Int} : 0 ≤ fE k u i := by
  unfold fE putE iputE
  repeat' split
  all_goals omega

/-- Up to a place, and one more. -/
theorem take_step {α : Type} {l : List α} {k : Nat} {x : α} (h : l[k]? = some x) : l.take (k + 1) = l.take k ++ [x] := by rw [List.take_add_one, h]; rfl
theorem catL_snoc (fs : List Fd) (vs : List Vl) (h : fs.length = vs.length) (f : Fd) (v : Vl) : catL (fs ++ [f]) (vs ++ [v]) = catL fs vs ++ oneL f v := by
  induction fs generalizing vs with
  | nil => cases vs with
    | nil => simp [catL]
    | cons => simp at h
  | cons g fs ih => cases vs with
    | nil => simp at h
    | cons x vs => simp [catL, ih vs (by simpa using h)]
theorem catB_snoc (fs : List Fd) (vs : List Vl) (h : fs.length = vs.length) (f : Fd) (v : Vl) : catB (fs ++ [f]) (vs ++ [v]) = (catB fs vs && decide (oneE f v = 0)) := by
  induction fs generalizing vs with
  | nil => cases vs with
    | nil => simp [catB]
    | cons => simp at h
  | cons g fs ih => cases vs with
    | nil => simp at h
    | cons x vs => simp [catB, ih vs (by simpa using h), Bool.and_assoc]
section
variable {fs : List Fd} {vs : List Vl} {k : Nat} {f : Fd} {v : Vl}
theorem catL_step (hl : fs.length = vs.length) (hf : fs[k]? = some f) (hv : vs[k]? = some v) : catL (fs.take (k + 1)) (vs.take (k + 1)) = catL (fs.take k) (vs.take k) ++ oneL f v := by
  rw [take_step hf, take_step hv, catL_snoc _ _ (by simp [hl])]
theorem catB_step (hl : fs.length = vs.length) (hf : fs[k]? = some f) (hv : vs[k]? = some v) (h : catB (fs.take k) (vs.take k) = true) (he : oneE f v = 0) : catB (fs.take (k + 1)) (vs.take (k + 1)) = true := by
  rw [take_step hf, take_step hv, catB_snoc _ _ (by simp [hl]), h, he]; rfl
theorem catL_split (hl : fs.length = vs.length) (k : Nat) : catL fs vs = catL (fs.take k) (vs.take k) ++ catL (fs.drop k) (vs.drop k) := by
  induction k generalizing fs vs with
  | zero => simp [catL]
  | succ k ih => cases fs with
    | nil => cases vs with
      | nil => simp [catL]
      | cons => simp at hl
    | cons g fs => cases vs with
      | nil => simp at hl
      | cons x vs => simp only [List.take_succ_cons, List.drop_succ_cons, catL, List.append_assoc]; rw [ih (by simpa using hl)]
theorem catB_at (hl : fs.length = vs.length) (hf : fs[k]? = some f) (hv : vs[k]? = some v) (he : oneE f v ≠ 0) : catB fs vs = false := by
  induction k generalizing fs vs with
  | zero => cases fs with
    | nil => simp at hf
    | cons g fs => cases vs with
      | nil => simp at hv
      | cons x vs =>
        simp at hf hv
        subst hf hv
        simp [catB, he]
  | succ k ih => cases fs with
    | nil => simp at hf
    | cons g fs => cases vs with
      | nil => simp at hv
      | cons x vs => simp only [catB]; rw [ih (by simpa using hl) (by simpa using hf) (by simpa using hv), Bool.and_false]
end
theorem putsE_chk {fs : List Fd} {vs : List Vl} (h : chkL fs ≠ 0) : putsE fs vs = chkL fs ∧ putsL fs vs = [] := by
  have e : putsE fs vs = chkL fs := if_pos h
  exact ⟨e, by unfold putsL; rw [e, if_neg h]⟩
theorem putsE_end {fs : List Fd} {vs : List Vl} (h : chkL fs = 0) (hl : vs.length < fs.length) : putsE fs vs = 4 ∧ putsL fs vs = [] := by
  have e : putsE fs vs = 4 := by unfold putsE; rw [if_neg (by simp [h]), if_pos hl]
  exact ⟨e, by unfold putsL; rw [e]; rfl⟩
theorem putsE_many {fs : List Fd} {vs : List Vl} (h : chkL fs = 0) (hl : fs.length < vs.length) : putsE fs vs = 5 ∧ putsL fs vs = [] := by
  have e : putsE fs vs = 5 := by unfold putsE; rw [if_neg (by simp [h]), if_neg (by omega), if_pos hl]
  exact ⟨e, by unfold putsL; rw [e]; rfl⟩
theorem putsE_big {fs : List Fd} {vs : List Vl} (h : chkL fs = 0) (hl : fs.length = vs.length) (hb : catB fs vs = false ∨ 65535 < (catL fs vs).length) : putsE fs vs = 8 ∧ putsL fs vs = [] := by
  have e : putsE fs vs = 8 := by
    unfold putsE
    rw [if_neg (by simp [h]), if_neg (by omega), if_neg (by omega), if_neg]
    rcases hb with hb | hb
    · simp [hb]
    · simp; intro _; exact hb
  exact ⟨e, by unfold putsL; rw [e]; rfl⟩
theorem putsE_ok {fs : List Fd} {vs : List Vl} (h : chkL fs = 0) (hl : fs.length = vs.length) (hb : catB fs vs = true) (hc : (catL fs vs).length ≤ 65535) : putsE fs vs = 0 ∧ putsL fs vs = catL fs vs := by
  have e : putsE fs vs = 0 := by
    unfold putsE
    rw [if_neg (by simp [h]), if_neg (by omega), if_neg (by omega), if_pos (by simp [hb, hc])]
  exact ⟨e, by unfold putsL; rw [e]; rfl⟩
theorem putsE_zero {fs : List Fd} {vs : List Vl} (h : putsE fs vs = 0) : chkL fs = 0 ∧ fs.length = vs.length ∧ catB fs vs = true ∧ (catL fs vs).length ≤ 65535 ∧ putsL fs vs = catL fs vs := by
  have hp : putsL fs vs = catL fs vs := by unfold putsL; rw [if_pos h]
  unfold putsE at h
  by_cases h1 : chkL fs = 0
  · rw [if_neg (by simp [h1])] at h
    by_cases h2 : vs.length < fs.length
    · rw [if_pos h2] at h; cases h
    · rw [if_neg h2] at h
      by_cases h3 : fs.length < vs.length
      · rw [if_pos h3] at h; cases h
      · rw [if_neg h3] at h
        by_cases h4 : (catB fs vs && decide ((catL fs vs).length ≤ 65535)) = true
        · simp at h4; exact ⟨h1, by omega, h4.1, h4.2, hp⟩
        · rw [if_neg h4] at h; cases h
  · rw [if_pos h1] at h; exact absurd h h1

/-- What bytes begin with, by a field. -/
def errF (f : Fd) (b : List UInt8) : Int := tE f.k (turn f.f b)
def takeF (f : Fd) (b : List UInt8) : Vl := ⟨tU f.k (turn f.f b), tI f.k (turn f.f b), tL f.k (turn f.f b), tT f.k (turn f.f b)⟩
def restF (f : Fd) (b : List UInt8) : List UInt8 := turn f.f (tR f.k (turn f.f b))
/-- Values and the bytes behind, or an error. -/
inductive Tk where
  | ok (vs : List Vl) (r : List UInt8)
  | bad (e : Int)
def Tk.ahead (o : List Vl) : Tk → Tk
  | .ok vs r => .ok (o ++ vs) r
  | .bad e => .bad e
def Tk.V : Tk → List Vl | .ok vs _ => vs | .bad _ => []
def Tk.R : Tk → List UInt8 | .ok _ r => r | .bad _ => []
def Tk.E : Tk → Int | .ok _ _ => 0 | .bad e => e
def takes : List Fd → List UInt8 → Tk
  | [], b => .ok [] b
  | f :: fs, b => if errF f b = 0 then (takes fs (restF f b)).ahead [takeF f b] else .bad (errF f b)
theorem ahead_two (o o' : List Vl) (t : Tk) : (t.ahead o').ahead o = t.ahead (o ++ o') := by cases t <;> simp [Tk.ahead]
theorem ahead_none (t : Tk) : t.ahead [] = t := by cases t <;> simp [Tk.ahead]
/-- How far the taking has come: of k fields the values o, and the bytes b' are left. -/
def TkAt (fs : List Fd) (b : List UInt8) (o : List Vl) (k : Nat) (b' : List UInt8) : Prop := takes fs b = (takes (fs.drop k) b').ahead o
theorem drop_step {α : Type} {l : List α} {k : Nat} {x : α} (h : l[k]? = some x) : l.drop k = x :: l.drop (k + 1) := by
  obtain ⟨hk, e⟩ := List.getElem?_eq_some_iff.1 h
  rw [List.drop_eq_getElem_cons hk, e]
section
variable {fs : List Fd} {b b' : List UInt8} {o : List Vl} {k : Nat} {f : Fd}
theorem TkAt.start (fs : List Fd) (b : List UInt8) : TkAt fs b [] 0 b := by unfold TkAt; rw [List.drop_zero, ahead_none]
theorem TkAt.step (h : TkAt fs b o k b') (hf : fs[k]? = some f) (he : errF f b' = 0) : TkAt fs b (o ++ [takeF f b']) (k + 1) (restF f b') := by
  unfold TkAt at h ⊢
  rw [h, drop_step hf, takes, if_pos he, ahead_two]
theorem TkAt.bad (h : TkAt fs b o k b') (hf : fs[k]? = some f) (he : errF f b' ≠ 0) : takes fs b = .bad (errF f b') := by
  unfold TkAt at h
  rw [h, drop_step hf, takes, if_neg he]; rfl
theorem TkAt.done (h : TkAt fs b o k b') (hk : fs.length ≤ k) : takes fs b = .ok o b' := by
  unfold TkAt at h
  rw [h, List.drop_of_length_le hk]; simp [takes, Tk.ahead]
end
/-- What Get and First answer. -/
def Tk.G : Tk → Int | .ok _ [] => 0 | .ok _ (_ :: _) => 3 | .bad e => e
def getsE (fs : List Fd) (b : List UInt8) : Int := if chkL fs ≠ 0 then chkL fs else if 65535 < b.length then 8 else (takes fs b).G
def getsV (fs : List Fd) (b : List UInt8) : List Vl := if getsE fs b = 0 then (takes fs b).V else []
def fstE (fs : List Fd) (b : List UInt8) (n : Int) : Int := if chkL fs ≠ 0 then chkL fs else if n < 0 ∨ (fs.length : Int) < n then 4 else (takes (fs.take n.toNat) b).E
def fstL (fs : List Fd) (b : List UInt8) (n : Int) : List UInt8 := if fstE fs b n = 0 then b.take (b.length - (takes (fs.take n.toNat) b).R.length) else []

theorem bad_zero (fs : List Fd) (b : List UInt8) : takes fs b ≠ .bad 0 := by
  induction fs generalizing b with
  | nil => intro q; cases q
  | cons f fs ih =>
    intro q
    simp only [takes] at q
    by_cases he : errF f b = 0
    · rw [if_pos he] at q
      rcases hq : takes fs (restF f b) with ⟨ws, r'⟩ | e
      · rw [hq] at q; cases q
      · rw [hq] at q
        simp only [Tk.ahead, Tk.bad.injEq] at q
        subst q
        exact ih _ hq
    · rw [if_neg he] at q
      injection q with q
      exact he q
section
variable {fs : List Fd} {b : List UInt8}
theorem gets_no (h : getsE fs b ≠ 0) : getsV fs b = [] := if_neg h
theorem gets_chk (h : chkL fs ≠ 0) : getsE fs b = chkL fs ∧ getsV fs b = [] := by
  have e : getsE fs b = chkL fs := if_pos h
  exact ⟨e, gets_no (by rw [e]; exact h)⟩
theorem gets_big (h : chkL fs = 0) (hb : 65535 < b.length) : getsE fs b = 8 ∧ getsV fs b = [] := by
  have e : getsE fs b = 8 := by unfold getsE; rw [if_neg (by simp [h]), if_pos hb]
  exact ⟨e, gets_no (by rw [e]; decide)⟩
theorem gets_bad {e : Int} (h : chkL fs = 0) (hb : ¬ 65535 < b.length) (ht : takes fs b = .bad e) : getsE fs b = e ∧ getsV fs b = [] := by
  have q : getsE fs b = e := by unfold getsE; rw [if_neg (by simp [h]), if_neg hb, ht]; rfl
  refine ⟨q, gets_no ?_⟩
  rw [q]
  rintro rfl
  exact bad_zero fs b ht
theorem gets_more {vs : List Vl} {r : List UInt8} (h : chkL fs = 0) (hb : ¬ 65535 < b.length) (ht : takes fs b = .ok vs r) (hr : 0 < r.length) : getsE fs b = 3 ∧ getsV fs b = [] := by
  have q : getsE fs b = 3 := by
    unfold getsE
    rw [if_neg (by simp [h]), if_neg hb, ht]
    cases r with
    | nil => simp at hr
    | cons => rfl
  exact ⟨q, gets_no (by rw [q]; decide)⟩
theorem gets_ok {vs : List Vl} {r : List UInt8} (h : chkL fs = 0) (hb : ¬ 65535 < b.length) (ht : takes fs b = .ok vs r) (hr : ¬ 0 < r.length) : getsE fs b = 0 ∧ getsV fs b = vs := by
  obtain rfl : r = [] := List.eq_nil_of_length_eq_zero (by omega)
  have q : getsE fs b = 0 := by
    unfold getsE
    rw [if_neg (by simp [h]), if_neg hb, ht]; rfl
  exact ⟨q, by unfold getsV; rw [if_pos q, ht]; rfl⟩
theorem getsE_zero (h : getsE fs b = 0) : chkL fs = 0 ∧ b.length ≤ 65535 ∧ ∃ vs, takes fs b = .ok vs [] ∧ getsV fs b = vs := by
  by_cases h1 : chkL fs = 0
  · by_cases h2 : 65535 < b.length
    · rw [(gets_big h1 h2).1] at h; cases h
    · rcases ht : takes fs b with ⟨vs, r⟩ | e
      · by_cases hr : 0 < r.length
        · rw [(gets_more h1 h2 ht hr).1] at h; cases h
        · obtain rfl : r = [] := List.eq_nil_of_length_eq_zero (by omega)
          exact ⟨h1, by omega, vs, rfl, (gets_ok h1 h2 ht hr).2⟩
      · rw [(gets_bad h1 h2 ht).1] at h
        subst h
        exact absurd ht (bad_zero fs b)
  · rw [(gets_chk h1).1] at h; exact absurd h h1
end
theorem rest_le {f : Fd} {b : List UInt8} (h : errF f b = 0) : restF f b = b.drop (tN f.k (turn f.f b)) ∧ tN f.k (turn f.f b) ≤ b.length := by
  obtain ⟨h1, h2⟩ := tR_drop h
  unfold restF
  rw [h1, turn_drop, turn_turn]
  rw [turn_length] at h2
  exact ⟨rfl, h2⟩
theorem rest_length {f : Fd} {b : List UInt8} (h : errF f b = 0) : (restF f b).length ≤ b.length := by
  rw [(rest_le h).1]; simp
theorem tl_length (k : Int) (b : List UInt8) : (tL k b).length ≤ b.length := by
  unfold tL
  split
  · rcases hs : scan b with ⟨t, n⟩ | e
    · obtain ⟨_, h⟩ := scan_ok hs
      have : b.length = (sputL t).length + (b.drop n).length := by rw [← List.length_append, ← h]
      have h2 := take_len_le t t.length (Nat.le_refl _)
      rw [List.take_length] at h2
      rw [sputL_length] at this
      show t.length ≤ b.length
      omega
    · simp [Scn.T]
  · simp
theorem takeF_length (f : Fd) (b : List UInt8) : (takeF f b).l.length ≤ b.length := by
  have := tl_length f.k (turn f.f b)
  rw [turn_length] at this
  exact this

/-- What is taken is put as the same. -/
theorem beL_ofL {l : List UInt8} {k : Nat} (h : l.length = k) : beL k (ofL l) = l := by
  apply ofL_inj (by rw [beL_length, h])
  rw [ofL_beL, Nat.mod_eq_of_lt (by have := ofL_lt l; rw [h] at this; exact this)]
theorem forth (k : Int) (b : List UInt8) (h : tE k b = 0) : fE k (tU k b) (tI k b) = 0 ∧ fR k (tU k b) (tI k b) (tL k b) (tT k b) ++ tR k b = b := by
  unfold tE at h
  unfold fE fR tU tI tL tT tR
  by_cases h8 : 1 ≤ k ∧ k ≤ 8
  · rw [if_pos h8] at h
    have hw := wd_wid h8
    have hl : (wd k).toNat ≤ b.length := by
      simp only [firstE, hw, if_true] at h
      by_cases q : (wd k).toNat ≤ b.length
      · exact q
      · rw [if_neg q] at h; cases h
    obtain ⟨m, hm, hm8⟩ := wid_nat hw
    have e3 : restL (wd k) b = b.drop (wd k).toNat := by simp [restL, hw, hl]
    have e1 : firstN (wd k) b = ofL (b.take (wd k).toNat) := by simp [firstN, hw, hl]
    have hle := firstN_le b hw
    have hbt : beL (wd k).toNat (firstN (wd k) b) = b.take (wd k).toNat := by rw [e1]; exact beL_ofL (by simp; omega)
    by_cases h4 : 1 ≤ k ∧ k ≤ 4
    · have n5 : ¬ (5 ≤ k ∧ k ≤ 8) := by omega
      simp only [if_pos h4, if_neg n5, if_pos h8]
      refine ⟨by simp [putE, hw, hle], ?_⟩
      have : putL (wd k) (firstN (wd k) b) = b.take (wd k).toNat := by simp only [putL, hw, hle]; simpa using hbt
      rw [this, e3, List.take_append_drop]
    · have h5 : 5 ≤ k ∧ k ≤ 8 := by omega
      simp only [if_neg h4, if_pos h5, if_pos h8]
      have hi : itakeN (wd k) b = (firstN (wd k) b : Int) + leastI (wd k) := by simp [itakeN, h]
      obtain ⟨q1, q2, _, _⟩ := least_most hw
      have r1 : leastI (wd k) ≤ itakeN (wd k) b := by rw [hi]; omega
      have r2 : itakeN (wd k) b ≤ imostI (wd k) := by rw [hi]; omega
      have r3 : (itakeN (wd k) b - leastI (wd k)).toNat = firstN (wd k) b := by rw [hi]; omega
      refine ⟨by simp [iputE, hw, r1, r2], ?_⟩
      have : iputL (wd k) (itakeN (wd k) b) = b.take (wd k).toNat := by
        unfold iputL
        rw [if_pos ⟨hw, r1, r2⟩, r3, hbt]
      rw [this, e3, List.take_append_drop]
  · rw [if_neg h8] at h
    have n4 : ¬ (1 ≤ k ∧ k ≤ 4) := by omega
    have n5 : ¬ (5 ≤ k ∧ k ≤ 8) := by omega
    by_cases h9 : k = 9
    · rw [if_pos h9] at h
      have n10 : ¬ k = 10 := by omega
      simp only [if_neg n4, if_neg n5, if_pos h9, if_neg n10, if_neg h8]
      refine ⟨by simp [h9], ?_⟩
      match b with
      | [] => simp [tbE] at h
      | u :: r =>
        simp only [tbE] at h
        have q : u.toNat ≤ 1 := by
          by_cases q : u.toNat ≤ 1
          · exact q
          · rw [if_neg q] at h; cases h
        rcases (by omega : u.toNat = 0 ∨ u.toNat = 1) with q0 | q0
        · have : u = 0 := UInt8.toNat_inj.1 q0
          subst this
          simp [tbV, tbR, boolB]
        · have : u = 1 := UInt8.toNat_inj.1 q0
          subst this
          simp [tbV, tbR, boolB]
    · rw [if_neg h9] at h
      by_cases h10 : k = 10
      · rw [if_pos h10] at h
        simp only [if_neg n4, if_neg n5, if_neg h9, if_pos h10, if_neg h8]
        refine ⟨by simp [h10], ?_⟩
        obtain ⟨t, n, hs⟩ := scan_E b h
        rw [hs]
        exact (scan_ok hs).2.symm
      · rw [if_neg h10] at h; cases h
theorem forthF {f : Fd} {b : List UInt8} (h : errF f b = 0) : oneE f (takeF f b) = 0 ∧ oneL f (takeF f b) ++ restF f b = b := by
  obtain ⟨h1, h2⟩ := forth f.k (turn f.f b) h
  refine ⟨h1, ?_⟩
  have := congrArg (turn f.f) h2
  rw [turn_turn, turn_append] at this
  exact this
theorem takes_put {fs : List Fd} {b : List UInt8} {vs : List Vl} {r : List UInt8} (h : takes fs b = .ok vs r) : vs.length = fs.length ∧ catB fs vs = true ∧ catL fs vs ++ r = b := by
  induction fs generalizing b vs with
  | nil =>
    simp only [takes, Tk.ok.injEq] at h
    obtain ⟨rfl, rfl⟩ := h
    simp [catB, catL]
  | cons f fs ih =>
    simp only [takes] at h
    by_cases he : errF f b = 0
    · rw [if_pos he] at h
      rcases hq : takes fs (restF f b) with ⟨ws, r'⟩ | e
      · rw [hq] at h
        simp only [Tk.ahead, Tk.ok.injEq] at h
        obtain ⟨rfl, rfl⟩ := h
        obtain ⟨i1, i2, i3⟩ := ih hq
        obtain ⟨j1, j2⟩ := forthF he
        exact ⟨by simp [i1], by simp [catB, j1, i2], by simp [catL, i3, j2]⟩
      · rw [hq] at h; simp [Tk.ahead] at h
    · rw [if_neg he] at h; cases h
theorem takes_text {fs : List Fd} {b : List UInt8} {vs : List Vl} {r : List UInt8} (h : takes fs b = .ok vs r) : ∀ v ∈ vs, v.l.length ≤ b.length := by
  induction fs generalizing b vs with
  | nil =>
    simp only [takes, Tk.ok.injEq] at h
    obtain ⟨rfl, rfl⟩ := h
    simp
  | cons f fs ih =>
    simp only [takes] at h
    by_cases he : errF f b = 0
    · rw [if_pos he] at h
      rcases hq : takes fs (restF f b) with ⟨ws, r'⟩ | e
      · rw [hq] at h
        simp only [Tk.ahead, Tk.ok.injEq] at h
        obtain ⟨rfl, rfl⟩ := h
        have := rest_length he
        intro v hv
        simp only [List.cons_append, List.nil_append, List.mem_cons] at hv
        rcases hv with rfl | hv
        · exact takeF_length f b
        · have := ih hq v hv; omega
      · rw [hq] at h; simp [Tk.ahead] at h
    · rw [if_neg he] at h; cases h
theorem fE_bounds {k : Int} {u : Nat} {i : Int} (h : fE k (bU k u) (bI k i) = 0) : bU k u ≤ 18446744073709551615 ∧ bI k i ≤ 9223372036854775807 := by
  unfold fE at h
  unfold bU bI at h ⊢
  by_cases h4 : 1 ≤ k ∧ k ≤ 4
  · have n5 : ¬ (5 ≤ k ∧ k ≤ 8) := by omega
    simp only [if_pos h4, if_neg n5] at h ⊢
    have hw := wd_wid (k := k) (by omega)
    unfold putE at h
    rw [if_pos hw] at h
    refine ⟨?_, by omega⟩
    by_cases q : (u : Int) ≤ mostI (wd k)
    · obtain ⟨_, q2, _, q4⟩ := least_most hw
      omega
    · rw [if_neg q] at h; cases h
  · by_cases h5 : 5 ≤ k ∧ k ≤ 8
    · simp only [if_neg h4, if_pos h5] at h ⊢
      have hw := wd_wid (k := k) (by omega)
      unfold iputE at h
      rw [if_pos hw] at h
      refine ⟨by omega, ?_⟩
      by_cases q : leastI (wd k) ≤ i ∧ i ≤ imostI (wd k)
      · obtain ⟨_, _, _, q4⟩ := least_most hw
        omega
      · rw [if_neg q] at h; cases h
    · simp only [if_neg h4, if_neg h5]
      exact ⟨by omega, by omega⟩
theorem bare_same (k : Int) (b : List UInt8) : bU k (tU k b) = tU k b ∧ bI k (tI k b) = tI k b := by
  unfold bU bI tU tI
  constructor
  · split <;> rfl
  · split <;> rfl
theorem takeF_bounds {f : Fd} {b : List UInt8} (h : errF f b = 0) : (takeF f b).u ≤ 18446744073709551615 ∧ (takeF f b).i ≤ 9223372036854775807 := by
  obtain ⟨h1, _⟩ := forthF h
  obtain ⟨e1, e2⟩ := bare_same f.k (turn f.f b)
  have := fE_bounds (k := f.k) (u := tU f.k (turn f.f b)) (i := tI f.k (turn f.f b)) (by rw [e1, e2]; exact h1)
  rw [e1, e2] at this
  exact this
/-- The bounds of a value's numbers, and of its text. -/
def VB (v : Vl) : Prop := v.u ≤ 18446744073709551615 ∧ v.i ≤ 9223372036854775807
/-- The order of two values by a field, and of two tuples by a schema. -/
def oneC (f : Fd) (a b : Vl) : Int := fC f.k f.f a.u a.i a.l a.t b.u b.i b.l b.t
def cmpT : List Fd → List Vl → List Vl → Int
  | f :: fs, x :: a, y :: b => if oneC f x y = 0 then cmpT fs a b else oneC f x y
  | _, _, _ => 0
theorem cmpN_cases (a b : Nat) : cmpN a b = -1 ∨ cmpN a b = 0 ∨ cmpN a b = 1 := by unfold cmpN; split; simp; split <;> simp
theorem cmpZ_cases (a b : Int) : cmpZ a b = -1 ∨ cmpZ a b = 0 ∨ cmpZ a b = 1 := by unfold cmpZ; split; simp; split <;> simp
theorem cmpB_cases (a b : Bool) : cmpB a b = -1 ∨ cmpB a b = 0 ∨ cmpB a b = 1 := by cases a <;> cases b <;> simp [cmpB]
theorem upC_cases (k : Int) (u : Nat) (i : Int) (l : List UInt8) (t : Bool) (u' : Nat) (i' : Int) (l' : List UInt8) (t' : Bool) : upC k u i l t u' i' l' t' = -1 ∨ upC k u i l t u' i' l' t' = 0 ∨ upC k u i l t u' i' l' t' = 1 := by
  unfold upC
  split
  · exact cmpN_cases _ _
  · split
    · exact cmpZ_cases _ _
    · split
      · exact cmpB_cases _ _
      · split
        · exact cmpL_cases _ _
        · exact .inr (.inl rfl)
theorem oneC_cases (f : Fd) (a b : Vl) : oneC f a b = -1 ∨ oneC f a b = 0 ∨ oneC f a b = 1 := by
  unfold oneC fC
  split
  · exact upC_cases _ _ _ _ _ _ _ _ _
  · exact upC_cases _ _ _ _ _ _ _ _ _
theorem cmpT_cases (fs : List Fd) (a b : List Vl) : cmpT fs a b = -1 ∨ cmpT fs a b = 0 ∨ cmpT fs a b = 1 := by
  induction fs generalizing a b with
  | nil => exact .inr (.inl rfl)
  | cons f fs ih =>
    cases a with
    | nil => exact .inr (.inl rfl)
    | cons x a =>
      cases b with
      | nil => exact .inr (.inl rfl)
      | cons y b =>
        simp only [cmpT]
        split
        · exact ih a b
        · exact oneC_cases f x y
section
variable {fs : List Fd} {a b : List Vl} {k : Nat} {f : Fd} {x y : Vl}
theorem cmpT_step (h : cmpT fs a b = cmpT (fs.drop k) (a.drop k) (b.drop k)) (hf : fs[k]? = some f) (hx : a[k]? = some x) (hy : b[k]? = some y) (h0 : oneC f x y = 0) :
    cmpT fs a b = cmpT (fs.drop (k + 1)) (a.drop (k + 1)) (b.drop (k + 1)) := by
  rw [h, drop_step hf, drop_step hx, drop_step hy]
  show (if oneC f x y = 0 then _ else _) = _
  rw [if_pos h0]
theorem cmpT_found (h : cmpT fs a b = cmpT (fs.drop k) (a.drop k) (b.drop k)) (hf : fs[k]? = some f) (hx : a[k]? = some x) (hy : b[k]? = some y) (h0 : oneC f x y ≠ 0) : cmpT fs a b = oneC f x y := by
  rw [h, drop_step hf, drop_step hx, drop_step hy]
  show (if oneC f x y = 0 then _ else _) = _
  rw [if_neg h0]
theorem cmpT_done (h : cmpT fs a b = cmpT (fs.drop k) (a.drop k) (b.drop k)) (hk : fs.length ≤ k ∨ a.length ≤ k ∨ b.length ≤ k) : cmpT fs a b = 0 := by
  rw [h]
  rcases hk with hk | hk | hk
  · rw [List.drop_of_length_le hk]; rfl
  · rw [List.drop_of_length_le hk]; cases fs.drop k <;> rfl
  · rw [List.drop_of_length_le hk]; cases fs.drop k <;> cases a.drop k <;> rfl
end

/-- Bytes of which none is the beginning of the other one. -/
def Free (x y : List UInt8) : Prop := (lcp x y = y.length → x = y) ∧ (lcp x y = x.length → x = y)
theorem free_one (f : Fd) (a b : Vl) (h : oneE f a = 0) (h' : oneE f b = 0) : Free (oneL f a) (oneL f b) := by
  obtain ⟨_, h2, h3⟩ := order0 f.k a.u b.u a.i b.i a.l b.l a.t b.t h h'
  unfold Free oneL
  rw [lcp_turn, turn_length, turn_length]
  exact ⟨fun q => by rw [h2 q], fun q => by rw [h3 q]⟩
theorem free_append {x y : List UInt8} (h : Free x y) (a b : List UInt8) : (x = y → cmpL (x ++ a) (y ++ b) = cmpL a b ∧ lcp (x ++ a) (y ++ b) = x.length + lcp a b) ∧ (x ≠ y → cmpL (x ++ a) (y ++ b) = cmpL x y ∧ lcp (x ++ a) (y ++ b) < x.length ∧ lcp (x ++ a) (y ++ b) < y.length) := by
  induction x generalizing y with
  | nil =>
    obtain rfl := h.2 (by simp [lcp])
    exact ⟨fun _ => by simp, fun q => absurd rfl q⟩
  | cons u x ih =>
    cases y with
    | nil => exact absurd (h.1 (by simp [lcp])) (by simp)
    | cons v y =>
      by_cases e : u = v
      · subst e
        have h' : Free x y := ⟨fun q => by have := h.1 (by simp [lcp, q]); simpa using this, fun q => by have := h.2 (by simp [lcp, q]); simpa using this⟩
        obtain ⟨i1, i2⟩ := ih h'
        refine ⟨fun q => ?_, fun q => ?_⟩
        · obtain ⟨j1, j2⟩ := i1 (by simpa using q)
          simp only [List.cons_append, cmpL, lcp, if_true, List.length_cons]
          exact ⟨j1, by omega⟩
        · obtain ⟨j1, j2, j3⟩ := i2 (by simpa using q)
          simp only [List.cons_append, cmpL, lcp, if_true, List.length_cons]
          exact ⟨j1, by omega, by omega⟩
      · refine ⟨fun q => absurd (List.cons.inj q).1 e, fun _ => ?_⟩
        simp only [List.cons_append, cmpL, lcp, if_neg e, List.length_cons]
        exact ⟨by trivial, by omega, by omega⟩
theorem cat_order (fs : List Fd) (a b : List Vl) (ha : catB fs a = true) (hb : catB fs b = true) (la : fs.length = a.length) (lb : fs.length = b.length) :
    cmpL (catL fs a) (catL fs b) = cmpT fs a b ∧ (cmpT fs a b ≠ 0 → lcp (catL fs a) (catL fs b) < (catL fs a).length ∧ lcp (catL fs a) (catL fs b) < (catL fs b).length) := by
  induction fs generalizing a b with
  | nil =>
    cases a with
    | nil => exact ⟨rfl, fun q => absurd rfl q⟩
    | cons => simp at la
  | cons f fs ih =>
    cases a with
    | nil => simp at la
    | cons x a =>
      cases b with
      | nil => simp at lb
      | cons y b =>
        simp only [catB, Bool.and_eq_true, decide_eq_true_eq] at ha hb
        have hF := free_one f x y ha.1 hb.1
        have hO : cmpL (oneL f x) (oneL f y) = oneC f x y := order f.k f.f x.u y.u x.i y.i x.l y.l x.t y.t ha.1 hb.1
        obtain ⟨i1, i2⟩ := ih a b ha.2 hb.2 (by simpa using la) (by simpa using lb)
        obtain ⟨g1, g2⟩ := free_append hF (catL fs a) (catL fs b)
        simp only [catL, cmpT]
        by_cases e : oneL f x = oneL f y
        · obtain ⟨j1, j2⟩ := g1 e
          have h0 : oneC f x y = 0 := by rw [← hO, e, cmpL_self]
          rw [if_pos h0, j1, j2, List.length_append, List.length_append]
          refine ⟨i1, fun q => ?_⟩
          obtain ⟨k1, k2⟩ := i2 q
          rw [e] at *
          exact ⟨by omega, by omega⟩
        · obtain ⟨j1, j2, j3⟩ := g2 e
          have h0 : oneC f x y ≠ 0 := fun q => e (cmpL_zero.1 (by rw [hO, q]))
          rw [if_neg h0, j1, List.length_append, List.length_append]
          exact ⟨hO, fun _ => ⟨by omega, by omega⟩⟩
theorem cat_begins {fs : List Fd} {a b : List Vl} (ha : catB fs a = true) (hb : catB fs b = true) (la : fs.length = a.length) (lb : fs.length = b.length) (hc : cmpT fs a b ≠ 0) :
    begB (catL fs a) (catL fs b) = false ∧ begB (catL fs b) (catL fs a) = false := by
  obtain ⟨_, h⟩ := cat_order fs a b ha hb la lb
  obtain ⟨h1, h2⟩ := h hc
  unfold begB
  rw [lcp_comm (catL fs b)]
  exact ⟨decide_eq_false (by omega), decide_eq_false (by omega)⟩

/-- A value with its own part alone. -/
def bareV (f : Fd) (v : Vl) : Vl := ⟨bU f.k v.u, bI f.k v.i, bL f.k v.l, bT f.k v.t⟩
theorem bareV_same (f : Fd) (v : Vl) : oneE f (bareV f v) = oneE f v ∧ oneL f (bareV f v) = oneL f v ∧ oneC f (bareV f v) v = 0 := by
  unfold oneE oneL oneC fC bareV
  have hN : ∀ n, cmpN n n = 0 := fun n => by simp [cmpN]
  have hZ : ∀ n, cmpZ n n = 0 := fun n => by simp [cmpZ]
  have hB : ∀ n, cmpB n n = 0 := fun n => by simp [cmpB]
  have h3 : upC f.k v.u v.i v.l v.t (bU f.k v.u) (bI f.k v.i) (bL f.k v.l) (bT f.k v.t) = 0 ∧ upC f.k (bU f.k v.u) (bI f.k v.i) (bL f.k v.l) (bT f.k v.t) v.u v.i v.l v.t = 0 := by
    unfold upC bU bI bL bT
    by_cases h4 : 1 ≤ f.k ∧ f.k ≤ 4
    · simp only [if_pos h4]; exact ⟨hN _, hN _⟩
    · simp only [if_neg h4]
      by_cases h5 : 5 ≤ f.k ∧ f.k ≤ 8
      · simp only [if_pos h5]; exact ⟨hZ _, hZ _⟩
      · simp only [if_neg h5]
        by_cases h9 : f.k = 9
        · simp only [if_pos h9]; exact ⟨hB _, hB _⟩
        · simp only [if_neg h9]
          by_cases h10 : f.k = 10
          · simp only [if_pos h10]; exact ⟨cmpL_self _, cmpL_self _⟩
          · simp only [if_neg h10]; exact ⟨by trivial, by trivial⟩
  refine ⟨?_, ?_, ?_⟩
  · show fE f.k (bU f.k v.u) (bI f.k v.i) = fE f.k v.u v.i
    unfold fE bU bI
    by_cases h4 : 1 ≤ f.k ∧ f.k ≤ 4
    · simp only [if_pos h4]
    · simp only [if_neg h4]
      by_cases h5 : 5 ≤ f.k ∧ f.k ≤ 8
      · simp only [if_pos h5]
      · simp only [if_neg h5]
  · congr 1
    show fR f.k (bU f.k v.u) (bI f.k v.i) (bL f.k v.l) (bT f.k v.t) = fR f.k v.u v.i v.l v.t
    unfold fR bU bI bL bT
    by_cases h4 : 1 ≤ f.k ∧ f.k ≤ 4
    · simp only [if_pos h4]
    · simp only [if_neg h4]
      by_cases h5 : 5 ≤ f.k ∧ f.k ≤ 8
      · simp only [if_pos h5]
      · simp only [if_neg h5]
        by_cases h9 : f.k = 9
        · simp only [if_pos h9]
        · simp only [if_neg h9]
          by_cases h10 : f.k = 10
          · simp only [if_pos h10]
          · simp only [if_neg h10]
  · split
    · exact h3.1
    · exact h3.2
theorem backF (f : Fd) (v : Vl) (m : List UInt8) (h : oneE f v = 0) : takeF f (oneL f v ++ m) = bareV f v ∧ restF f (oneL f v ++ m) = m ∧ errF f (oneL f v ++ m) = 0 := by
  unfold takeF restF errF oneL bareV
  rw [turn_append, turn_turn]
  obtain ⟨h1, h2, h3, h4, h5, h6⟩ := back f.k v.u v.i v.l v.t (turn f.f m) h
  rw [h1, h2, h3, h4, h5, turn_turn]
  exact ⟨rfl, rfl, h6⟩
def bares : List Fd → List Vl → List Vl
  | f :: fs, v :: vs => bareV f v :: bares fs vs
  | _, _ => []
theorem takes_cat (fs : List Fd) (vs : List Vl) (m : List UInt8) (h : catB fs vs = true) (hl : fs.length = vs.length) : takes fs (catL fs vs ++ m) = .ok (bares fs vs) m := by
  induction fs generalizing vs with
  | nil => rfl
  | cons f fs ih =>
    cases vs with
    | nil => simp at hl
    | cons v vs =>
      simp only [catB, Bool.and_eq_true, decide_eq_true_eq] at h
      simp only [catL, List.append_assoc, takes]
      obtain ⟨h1, h2, h3⟩ := backF f v (catL fs vs ++ m) h.1
      rw [if_pos h3, h2, ih vs h.2 (by simpa using hl), h1]
      rfl
theorem bares_same (fs : List Fd) (vs : List Vl) (hl : fs.length = vs.length) : (bares fs vs).length = fs.length ∧ catB fs (bares fs vs) = catB fs vs ∧ catL fs (bares fs vs) = catL fs vs ∧ cmpT fs (bares fs vs) vs = 0 := by
  induction fs generalizing vs with
  | nil => cases vs with
    | nil => exact ⟨rfl, rfl, rfl, rfl⟩
    | cons => simp at hl
  | cons f fs ih =>
    cases vs with
    | nil => simp at hl
    | cons v vs =>
      obtain ⟨i1, i2, i3, i4⟩ := ih vs (by simpa using hl)
      obtain ⟨j1, j2, j3⟩ := bareV_same f v
      simp only [bares, catB, catL, cmpT, List.length_cons]
      rw [j1, j2, i1, i2, i3, if_pos j3]
      exact ⟨rfl, rfl, rfl, i4⟩
/-- What is put is taken, and put as the same. -/
theorem put_get {fs : List Fd} {vs : List Vl} (h : putsE fs vs = 0) : getsE fs (putsL fs vs) = 0 ∧ cmpT fs (getsV fs (putsL fs vs)) vs = 0 ∧ putsE fs (getsV fs (putsL fs vs)) = 0 ∧ putsL fs (getsV fs (putsL fs vs)) = putsL fs vs := by
  obtain ⟨h1, h2, h3, h4, h5⟩ := putsE_zero h
  have ht : takes fs (catL fs vs) = .ok (bares fs vs) [] := by have := takes_cat fs vs [] h3 h2; rwa [List.append_nil] at this
  obtain ⟨b1, b2, b3, b4⟩ := bares_same fs vs h2
  rw [h5]
  obtain ⟨hg, hv⟩ := gets_ok h1 (by omega) ht (by simp)
  rw [hv]
  obtain ⟨p1, p2⟩ := putsE_ok (fs := fs) (vs := bares fs vs) h1 (by omega) (by rw [b2]; exact h3) (by rw [b3]; exact h4)
  exact ⟨hg, b4, p1, by rw [p2, b3]⟩
/-- What is taken is put as the same. -/
theorem get_put {fs : List Fd} {b : List UInt8} (h : getsE fs b = 0) : putsE fs (getsV fs b) = 0 ∧ putsL fs (getsV fs b) = b ∧ ∀ v ∈ getsV fs b, v.l.length ≤ b.length := by
  obtain ⟨h1, h2, vs, ht, hv⟩ := getsE_zero h
  rw [hv]
  obtain ⟨p1, p2, p3⟩ := takes_put ht
  rw [List.append_nil] at p3
  obtain ⟨q1, q2⟩ := putsE_ok (fs := fs) (vs := vs) h1 p1.symm p2 (by rw [p3]; exact h2)
  exact ⟨q1, by rw [q2, p3], takes_text ht⟩
end Go.Proofs.YtofccfbiappgaaaDoor
