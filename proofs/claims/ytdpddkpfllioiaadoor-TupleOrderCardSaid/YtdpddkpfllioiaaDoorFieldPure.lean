/-
  Words without memory for layer 5: kinds' widths, a value's bytes by a field, what bytes begin with, the order of two values; what follows of them.
-/
import Derived.Test.YtdpddkpfllioiaaDoorIencBool
import Derived.Test.YtdpddkpfllioiaaDoorSencPure
import Derived.Test.YtdpddkpfllioiaaDoorRBeg
namespace Go.Proofs.YtdpddkpfllioiaaDoor

/-- How many bytes a number of a kind has. -/
def wd (k : Int) : Int := if k = 1 ∨ k = 5 then 1 else if k = 2 ∨ k = 6 then 2 else if k = 3 ∨ k = 7 then 4 else if k = 4 ∨ k = 8 then 8 else 0
/-- What Check answers. -/
def chk (k : Int) : Int := if 1 ≤ k ∧ k ≤ 10 then 0 else 9
/-- A value's bytes by a kind that rises, and the error. -/
def fE (k : Int) (u : Nat) (i : Int) : Int := if 1 ≤ k ∧ k ≤ 4 then putE (wd k) u else if 5 ≤ k ∧ k ≤ 8 then iputE (wd k) i else if k = 9 ∨ k = 10 then 0 else 9
def fR (k : Int) (u : Nat) (i : Int) (l : List UInt8) (t : Bool) : List UInt8 :=
  if 1 ≤ k ∧ k ≤ 4 then putL (wd k) u else if 5 ≤ k ∧ k ≤ 8 then iputL (wd k) i else if k = 9 then [boolB t] else if k = 10 then sputL l else []
/-- Bytes, or the other ones. -/
def turn (f : Bool) (l : List UInt8) : List UInt8 := if f then othL l else l
/-- A value with its own part alone. -/
def bU (k : Int) (u : Nat) : Nat := if 1 ≤ k ∧ k ≤ 4 then u else 0
def bI (k : Int) (i : Int) : Int := if 5 ≤ k ∧ k ≤ 8 then i else 0
def bL (k : Int) (l : List UInt8) : List UInt8 := if k = 10 then l else []
def bT (k : Int) (t : Bool) : Bool := if k = 9 then t else false
/-- What bytes begin with, by a kind that rises: the parts, what stands behind, how many bytes it has, the error. -/
def tU (k : Int) (b : List UInt8) : Nat := if 1 ≤ k ∧ k ≤ 4 then firstN (wd k) b else 0
def tI (k : Int) (b : List UInt8) : Int := if 5 ≤ k ∧ k ≤ 8 then itakeN (wd k) b else 0
def tL (k : Int) (b : List UInt8) : List UInt8 := if k = 10 then (scan b).T else []
def tT (k : Int) (b : List UInt8) : Bool := if k = 9 then tbV b else false
def tR (k : Int) (b : List UInt8) : List UInt8 := if 1 ≤ k ∧ k ≤ 8 then restL (wd k) b else if k = 9 then tbR b else if k = 10 then (scan b).R b else []
def tN (k : Int) (b : List UInt8) : Nat := if 1 ≤ k ∧ k ≤ 8 then b.length - (restL (wd k) b).length else if k = 9 then 1 else if k = 10 then (scan b).N else 0
def tE (k : Int) (b : List UInt8) : Int := if 1 ≤ k ∧ k ≤ 8 then firstE (wd k) b else if k = 9 then tbE b else if k = 10 then (scan b).E else 9
/-- The order of yes and no. -/
def cmpB (a b : Bool) : Int := if a = b then 0 else if b then -1 else 1
/-- The order of two values by a kind that rises. -/
def upC (k : Int) (u : Nat) (i : Int) (l : List UInt8) (t : Bool) (u' : Nat) (i' : Int) (l' : List UInt8) (t' : Bool) : Int :=
  if 1 ≤ k ∧ k ≤ 4 then cmpN u u' else if 5 ≤ k ∧ k ≤ 8 then cmpZ i i' else if k = 9 then cmpB t t' else if k = 10 then cmpL l l' else 0
/-- The order of two values by a field. -/
def fC (k : Int) (f : Bool) (u : Nat) (i : Int) (l : List UInt8) (t : Bool) (u' : Nat) (i' : Int) (l' : List UInt8) (t' : Bool) : Int :=
  if f then upC k u' i' l' t' u i l t else upC k u i l t u' i' l' t'

theorem kinds (k : Int) : k = 1 ∨ k = 2 ∨ k = 3 ∨ k = 4 ∨ k = 5 ∨ k = 6 ∨ k = 7 ∨ k = 8 ∨ k = 9 ∨ k = 10 ∨ ((k ≠ 1 ∧ k ≠ 2 ∧ k ≠ 3 ∧ k ≠ 4) ∧ (k ≠ 5 ∧ k ≠ 6 ∧ k ≠ 7 ∧ k ≠ 8) ∧ k ≠ 9 ∧ k ≠ 10) := by omega
theorem turn_length (f : Bool) (l : List UInt8) : (turn f l).length = l.length := by cases f <;> simp [turn, othL_length]
theorem turn_turn (f : Bool) (l : List UInt8) : turn f (turn f l) = l := by cases f <;> simp [turn, othL_othL]
theorem turn_append (f : Bool) (l m : List UInt8) : turn f (l ++ m) = turn f l ++ turn f m := by cases f <;> simp [turn, othL]
theorem turn_nil (f : Bool) : turn f [] = [] := by cases f <;> rfl
theorem turn_drop (f : Bool) (l : List UInt8) (n : Nat) : turn f (l.drop n) = (turn f l).drop n := by cases f <;> simp [turn, othL]

theorem wd_wid {k : Int} (h : 1 ≤ k ∧ k ≤ 8) : wid (wd k) = true := by
  rcases (by omega : k = 1 ∨ k = 2 ∨ k = 3 ∨ k = 4 ∨ k = 5 ∨ k = 6 ∨ k = 7 ∨ k = 8) with rfl | rfl | rfl | rfl | rfl | rfl | rfl | rfl <;> rfl

/-- Where something is taken, what stands behind is what is left of the bytes. -/
theorem tR_drop {k : Int} {b : List UInt8} (h : tE k b = 0) : tR k b = b.drop (tN k b) ∧ tN k b ≤ b.length := by
  unfold tE at h
  unfold tR tN
  by_cases h8 : 1 ≤ k ∧ k ≤ 8
  · rw [if_pos h8] at h
    rw [if_pos h8, if_pos h8]
    have hw := wd_wid h8
    simp only [firstE, hw, if_true] at h
    have hl : (wd k).toNat ≤ b.length := by
      by_cases q : (wd k).toNat ≤ b.length
      · exact q
      · rw [if_neg q] at h; cases h
    have e : restL (wd k) b = b.drop (wd k).toNat := by simp [restL, hw, hl]
    rw [e, List.length_drop]
    exact ⟨by congr 1; omega, by omega⟩
  · rw [if_neg h8] at h
    rw [if_neg h8, if_neg h8]
    by_cases h9 : k = 9
    · rw [if_pos h9] at h
      rw [if_pos h9, if_pos h9]
      match b with
      | [] => simp [tbE] at h
      | u :: r =>
        simp only [tbE] at h
        by_cases q : u.toNat ≤ 1
        · simp [tbR, q]
        · rw [if_neg q] at h; cases h
    · rw [if_neg h9] at h
      rw [if_neg h9, if_neg h9]
      by_cases h10 : k = 10
      · rw [if_pos h10] at h
        rw [if_pos h10, if_pos h10]
        obtain ⟨t, n, hs⟩ := scan_E b h
        rw [hs]
        exact ⟨rfl, (scan_len hs).2.1⟩
      · rw [if_neg h10] at h; cases h
/-- Where nothing is taken, there is nothing. -/
theorem tE_none {k : Int} {b : List UInt8} (h : tE k b ≠ 0) : tU k b = 0 ∧ tI k b = 0 ∧ tL k b = [] ∧ tT k b = false ∧ tR k b = [] := by
  unfold tE at h
  unfold tU tI tL tT tR
  by_cases h8 : 1 ≤ k ∧ k ≤ 8
  · rw [if_pos h8] at h
    have hw := wd_wid h8
    have hl : ¬ (wd k).toNat ≤ b.length := fun q => h (by simp [firstE, hw, q])
    have e1 : firstN (wd k) b = 0 := by simp [firstN, hl]
    have e2 : itakeN (wd k) b = 0 := by simp [itakeN, h]
    have e3 : restL (wd k) b = [] := by simp [restL, hl]
    rw [e1, e2, e3, if_pos h8, if_neg (by omega : ¬ k = 10), if_neg (by omega : ¬ k = 9)]
    exact ⟨by split <;> rfl, by split <;> rfl, rfl, rfl, rfl⟩
  · rw [if_neg h8] at h
    rw [if_neg h8, if_neg (by omega : ¬ (1 ≤ k ∧ k ≤ 4)), if_neg (by omega : ¬ (5 ≤ k ∧ k ≤ 8))]
    by_cases h9 : k = 9
    · rw [if_pos h9] at h
      rw [if_pos h9, if_pos h9, if_neg (by omega : ¬ k = 10)]
      refine ⟨rfl, rfl, rfl, ?_⟩
      match b with
      | [] => exact ⟨rfl, rfl⟩
      | u :: r =>
        simp only [tbE] at h
        have q : ¬ u.toNat ≤ 1 := fun q => h (by rw [if_pos q])
        have : u ≠ 1 := fun e => q (by rw [e]; decide)
        simp [tbV, tbR, q, this]
    · rw [if_neg h9] at h
      rw [if_neg h9, if_neg h9]
      by_cases h10 : k = 10
      · rw [if_pos h10] at h
        rw [if_pos h10, if_pos h10]
        rcases hs : scan b with ⟨t, n⟩ | e
        · rw [hs] at h; exact absurd rfl h
        · exact ⟨rfl, rfl, rfl, rfl, rfl⟩
      · rw [if_neg h10, if_neg h10]; exact ⟨rfl, rfl, rfl, rfl, rfl⟩

theorem put_ok {x : Int} {n : Nat} (h : putE x n = 0) : ∃ k : Nat, x = k ∧ k ≤ 8 ∧ wid k = true ∧ n < 256 ^ k ∧ putL x n = beL k n := by
  unfold putE at h
  by_cases hx : wid x = true
  · by_cases hm : (n : Int) ≤ mostI x
    · obtain ⟨k, rfl, hk⟩ := wid_nat hx
      refine ⟨k, rfl, by omega, hx, ?_, by simp [putL, hx, hm]⟩
      rw [mostI_pow hk] at hm
      omega
    · simp [hx, hm] at h
  · simp [hx] at h
theorem take_back {k n : Nat} (hw : wid k = true) (h : n < 256 ^ k) (m : List UInt8) : firstN k (beL k n ++ m) = n ∧ restL k (beL k n ++ m) = m ∧ firstE k (beL k n ++ m) = 0 := by
  have hl := beL_length k n
  refine ⟨?_, ?_, ?_⟩
  · simp [firstN, hw, hl, ofL_beL, Nat.mod_eq_of_lt h]
  · simp [restL, hw, hl]
  · simp [firstE, hw, hl]

/-- What is put is taken. -/
theorem back (k : Int) (u : Nat) (i : Int) (l : List UInt8) (t : Bool) (m : List UInt8) (h : fE k u i = 0) :
    tU k (fR k u i l t ++ m) = bU k u ∧ tI k (fR k u i l t ++ m) = bI k i ∧ tL k (fR k u i l t ++ m) = bL k l ∧ tT k (fR k u i l t ++ m) = bT k t ∧ tR k (fR k u i l t ++ m) = m ∧ tE k (fR k u i l t ++ m) = 0 := by
  unfold fE at h
  unfold tU tI tL tT tR tE bU bI bL bT fR
  by_cases h4 : 1 ≤ k ∧ k ≤ 4
  · rw [if_pos h4] at h
    have n5 : ¬ (5 ≤ k ∧ k ≤ 8) := by omega
    have n10 : ¬ k = 10 := by omega
    have n9 : ¬ k = 9 := by omega
    have p8 : 1 ≤ k ∧ k ≤ 8 := by omega
    obtain ⟨x, hx, _, hw, hlt, hp⟩ := put_ok h
    simp only [if_pos h4, if_neg n5, if_neg n10, if_neg n9, if_pos p8]
    rw [hp, hx]
    obtain ⟨a, b, c⟩ := take_back hw hlt m
    exact ⟨a, by trivial, by trivial, by trivial, b, c⟩
  · rw [if_neg h4] at h
    by_cases h5 : 5 ≤ k ∧ k ≤ 8
    · rw [if_pos h5] at h
      have n10 : ¬ k = 10 := by omega
      have n9 : ¬ k = 9 := by omega
      have p8 : 1 ≤ k ∧ k ≤ 8 := by omega
      obtain ⟨x, hx, _, hw, h0, _, hlt, hp⟩ := iput_ok h
      simp only [if_neg h4, if_pos h5, if_neg n10, if_neg n9, if_pos p8]
      rw [hp, hx]
      obtain ⟨a, b, c⟩ := itake_back hw h0 hlt m
      exact ⟨by trivial, a, by trivial, by trivial, b, c⟩
    · rw [if_neg h5] at h
      have n8 : ¬ (1 ≤ k ∧ k ≤ 8) := by omega
      by_cases h9 : k = 9
      · have n10 : ¬ k = 10 := by omega
        simp only [if_neg h4, if_neg h5, if_neg n10, if_pos h9, if_neg n8]
        refine ⟨by trivial, by trivial, by trivial, ?_⟩
        cases t <;> simp [boolB, tbV, tbR, tbE]
      · by_cases h10 : k = 10
        · simp only [if_neg h4, if_neg h5, if_neg h9, if_pos h10, if_neg n8]
          rw [scan_put]
          exact ⟨by trivial, by trivial, rfl, by trivial, by simp [Scn.R], rfl⟩
        · rw [if_neg (by omega)] at h; cases h

theorem lcp_same {a b : List UInt8} (hl : a.length = b.length) (h : lcp a b = b.length) : a = b := by
  apply List.ext_getElem? 
  intro j
  obtain ⟨_, _, hg⟩ := lcp_agree a b
  rcases Nat.lt_or_ge j b.length with q | q
  · exact hg j (by omega)
  · rw [List.getElem?_eq_none (by omega), List.getElem?_eq_none (by omega)]

/-- The other ones stand the other way round, where none is the beginning of the other one. -/
theorem cmpL_turned (a b : List UInt8) (h1 : lcp a b = b.length → a = b) (h2 : lcp a b = a.length → a = b) : cmpL (othL a) (othL b) = cmpL b a := by
  induction a generalizing b with
  | nil =>
    obtain rfl := h2 (by simp [lcp])
    rfl
  | cons u a ih =>
    cases b with
    | nil => exact absurd (h1 (by simp [lcp])) (by simp)
    | cons v b =>
      have hu := u.toNat_lt
      have hv := v.toNat_lt
      simp only [othL, List.map_cons, cmpL]
      by_cases e : u = v
      · subst e
        rw [if_pos rfl, if_pos rfl]
        refine ih b (fun q => ?_) (fun q => ?_)
        · have := h1 (by simp [lcp, q]); simpa using this
        · have := h2 (by simp [lcp, q]); simpa using this
      · rw [if_neg (fun q => e (oth_inj q)), if_neg (Ne.symm e), oth_toNat, oth_toNat]
        have h3 : u.toNat ≠ v.toNat := fun q => e (UInt8.toNat_inj.1 q)
        by_cases h4 : v.toNat < u.toNat
        · rw [if_pos (by omega), if_pos h4]
        · rw [if_neg (by omega), if_neg h4]

theorem lcp_comm (a b : List UInt8) : lcp a b = lcp b a := by
  induction a generalizing b with
  | nil => cases b <;> rfl
  | cons u a ih =>
    cases b with
    | nil => rfl
    | cons v b =>
      simp only [lcp]
      by_cases e : u = v
      · subst e; simp [ih]
      · rw [if_neg e, if_neg (Ne.symm e)]
theorem lcp_turn (f : Bool) (a b : List UInt8) : lcp (turn f a) (turn f b) = lcp a b := by
  cases f with
  | false => rfl
  | true =>
    show lcp (othL a) (othL b) = _
    induction a generalizing b with
    | nil => cases b <;> rfl
    | cons u a ih =>
      cases b with
      | nil => rfl
      | cons v b =>
        have ih' : lcp (List.map (fun u => 255 - u) a) (List.map (fun u => 255 - u) b) = lcp a b := ih b
        simp only [othL, List.map_cons, lcp]
        by_cases e : u = v
        · subst e; simp [ih']
        · rw [if_neg (fun q => e (oth_inj q)), if_neg e]

/-- Two values' bytes: their order, and none is the beginning of the other one. -/
theorem order0 (k : Int) (u u' : Nat) (i i' : Int) (l l' : List UInt8) (t t' : Bool) (h : fE k u i = 0) (h' : fE k u' i' = 0) :
    cmpL (fR k u i l t) (fR k u' i' l' t') = upC k u i l t u' i' l' t' ∧ (lcp (fR k u i l t) (fR k u' i' l' t') = (fR k u' i' l' t').length → fR k u i l t = fR k u' i' l' t') ∧ (lcp (fR k u i l t) (fR k u' i' l' t') = (fR k u i l t).length → fR k u i l t = fR k u' i' l' t') := by
  unfold fE at h h'
  unfold fR upC
  by_cases h4 : 1 ≤ k ∧ k ≤ 4
  · rw [if_pos h4] at h h'
    obtain ⟨x, hx, _, hw, hlt, hp⟩ := put_ok h
    obtain ⟨y, hy, _, _, hlt', hp'⟩ := put_ok h'
    obtain rfl : x = y := by omega
    simp only [if_pos h4]
    rw [hp, hp']
    have e : (beL x u).length = (beL x u').length := by rw [beL_length, beL_length]
    exact ⟨cmpL_beL hlt hlt', fun q => lcp_same e q, fun q => lcp_same e (by omega)⟩
  · rw [if_neg h4] at h h'
    by_cases h5 : 5 ≤ k ∧ k ≤ 8
    · rw [if_pos h5] at h h'
      obtain ⟨x, hx, _, hw, h0, _, hlt, hp⟩ := iput_ok h
      obtain ⟨y, hy, _, _, h0', _, hlt', hp'⟩ := iput_ok h'
      obtain rfl : x = y := by omega
      simp only [if_neg h4, if_pos h5]
      rw [hp, hp']
      have e : (beL x (i - leastI x).toNat).length = (beL x (i' - leastI x).toNat).length := by rw [beL_length, beL_length]
      exact ⟨cmp_iput h0 h0' hlt hlt', fun q => lcp_same e q, fun q => lcp_same e (by omega)⟩
    · rw [if_neg h5] at h
      by_cases h9 : k = 9
      · simp only [if_neg h4, if_neg h5, if_pos h9]
        refine ⟨?_, fun q => lcp_same rfl q, fun q => lcp_same rfl q⟩
        cases t <;> cases t' <;> decide
      · by_cases h10 : k = 10
        · simp only [if_neg h4, if_neg h5, if_neg h9, if_pos h10]
          refine ⟨cmpL_sput l l', fun q => by rw [lcp_sput q], fun q => ?_⟩
          rw [lcp_comm] at q
          rw [lcp_sput q]
        · rw [if_neg (by omega)] at h; cases h
theorem upC_swap (k : Int) (u u' : Nat) (i i' : Int) (l l' : List UInt8) (t t' : Bool) (h : fE k u i = 0) (h' : fE k u' i' = 0) :
    cmpL (fR k u' i' l' t') (fR k u i l t) = upC k u' i' l' t' u i l t := (order0 k u' u i' i l' l t' t h' h).1
theorem order (k : Int) (f : Bool) (u u' : Nat) (i i' : Int) (l l' : List UInt8) (t t' : Bool) (h : fE k u i = 0) (h' : fE k u' i' = 0) :
    cmpL (turn f (fR k u i l t)) (turn f (fR k u' i' l' t')) = fC k f u i l t u' i' l' t' := by
  obtain ⟨h1, h2, h3⟩ := order0 k u u' i i' l l' t t' h h'
  cases f with
  | false => exact h1
  | true =>
    show cmpL (othL _) (othL _) = upC k u' i' l' t' u i l t
    rw [cmpL_turned _ _ h2 h3]
    exact upC_swap k u u' i i' l l' t t' h h'
theorem begins (k : Int) (f : Bool) (u u' : Nat) (i i' : Int) (l l' : List UInt8) (t t' : Bool) (h : fE k u i = 0) (h' : fE k u' i' = 0) (hc : fC k f u i l t u' i' l' t' ≠ 0) :
    begB (turn f (fR k u i l t)) (turn f (fR k u' i' l' t')) = false ∧ begB (turn f (fR k u' i' l' t')) (turn f (fR k u i l t)) = false := by
  obtain ⟨_, h2, h3⟩ := order0 k u u' i i' l l' t t' h h'
  have hne : turn f (fR k u i l t) ≠ turn f (fR k u' i' l' t') := fun q => hc (by rw [← order k f u u' i i' l l' t t' h h', q, cmpL_self])
  unfold begB
  rw [lcp_turn, lcp_turn, turn_length, turn_length]
  refine ⟨decide_eq_false fun q => hne (by rw [h2 q]), decide_eq_false fun q => hne (by rw [lcp_comm] at q; rw [h3 q])⟩
end Go.Proofs.YtdpddkpfllioiaaDoor
