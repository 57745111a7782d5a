/-
  Plain mathematics of texts as keys: a text's bytes, the other ones, what bytes begin with. Nothing of the program is used.
-/
import Derived.Test.YtdpddkpfllioiaaDoorPure
namespace Go.Proofs.YtdpddkpfllioiaaDoor

/-- A text's bytes but for the end. -/
def escL : List UInt8 → List UInt8
  | [] => []
  | u :: l => if u = 0 then 0 :: 255 :: escL l else u :: escL l
/-- A text's bytes. -/
def sputL (l : List UInt8) : List UInt8 := escL l ++ [0, 0]
/-- The other ones. -/
def othL (l : List UInt8) : List UInt8 := l.map fun u => 255 - u

/-- What bytes begin with: a text and how many bytes it takes, or an error. -/
inductive Scn where
  | ok (t : List UInt8) (n : Nat)
  | bad (e : Int)
def Scn.ahead (o : List UInt8) (k : Nat) : Scn → Scn
  | .ok t n => .ok (o ++ t) (k + n)
  | .bad e => .bad e
def Scn.T : Scn → List UInt8 | .ok t _ => t | .bad _ => []
def Scn.N : Scn → Nat | .ok _ n => n | .bad _ => 0
def Scn.E : Scn → Int | .ok _ _ => 0 | .bad e => e
def scan : List UInt8 → Scn
  | [] => .bad 4
  | [u] => if u = 0 then .bad 4 else .bad 4
  | u :: v :: l => if u = 0 then (if v = 0 then .ok [] 2 else if v = 255 then (scan l).ahead [0] 2 else .bad 3) else (scan (v :: l)).ahead [u] 1

theorem scan_nil : scan [] = .bad 4 := rfl
theorem scan_one : scan [0] = .bad 4 := rfl
theorem scan_end (l : List UInt8) : scan (0 :: 0 :: l) = .ok [] 2 := by simp [scan]
theorem scan_mark (l : List UInt8) : scan (0 :: 255 :: l) = (scan l).ahead [0] 2 := by simp [scan]
theorem scan_form (v : UInt8) (l : List UInt8) (h : v ≠ 0) (h' : v ≠ 255) : scan (0 :: v :: l) = .bad 3 := by simp [scan, h, h']
theorem scan_cons (u : UInt8) (l : List UInt8) (h : u ≠ 0) : scan (u :: l) = (scan l).ahead [u] 1 := by
  cases l with
  | nil => simp [scan, Scn.ahead]
  | cons v l => simp [scan, h]
theorem ahead_ahead (o o' : List UInt8) (k k' : Nat) (s : Scn) : (s.ahead o' k').ahead o k = s.ahead (o ++ o') (k + k') := by
  cases s <;> simp [Scn.ahead, Nat.add_assoc]
theorem ahead_nil (s : Scn) : s.ahead [] 0 = s := by cases s <;> simp [Scn.ahead]

theorem drop_at {l : List UInt8} {k : Nat} {u : UInt8} (h : l[k]? = some u) : l.drop k = u :: l.drop (k + 1) := by
  obtain ⟨hk, rfl⟩ := List.getElem?_eq_some_iff.1 h
  exact List.drop_eq_getElem_cons hk

/-- How far the scan has come: o is told, k bytes are behind. -/
def At (l o : List UInt8) (k : Nat) : Prop := scan l = (scan (l.drop k)).ahead o k
theorem At.start (l : List UInt8) : At l [] 0 := by unfold At; rw [List.drop_zero, ahead_nil]
theorem At.one {l o : List UInt8} {k : Nat} {u : UInt8} (h : At l o k) (hu : l[k]? = some u) (h0 : u ≠ 0) : At l (o ++ [u]) (k + 1) := by
  unfold At at h ⊢
  rw [h, drop_at hu, scan_cons _ _ h0, ahead_ahead]
theorem At.two {l o : List UInt8} {k : Nat} (h : At l o k) (hu : l[k]? = some 0) (hv : l[k + 1]? = some 255) : At l (o ++ [0]) (k + 2) := by
  unfold At at h ⊢
  rw [h, drop_at hu, drop_at hv, scan_mark, ahead_ahead]
theorem At.none_ {l o : List UInt8} {k : Nat} (h : At l o k) (hk : l.length ≤ k) : scan l = .bad 4 := by
  unfold At at h
  rw [h, List.drop_of_length_le hk, scan_nil]; rfl
theorem At.half {l o : List UInt8} {k : Nat} (h : At l o k) (hu : l[k]? = some 0) (hk : l.length = k + 1) : scan l = .bad 4 := by
  unfold At at h
  rw [h, drop_at hu, List.drop_of_length_le (by omega), scan_one]; rfl
theorem At.done {l o : List UInt8} {k : Nat} (h : At l o k) (hu : l[k]? = some 0) (hv : l[k + 1]? = some 0) : scan l = .ok o (k + 2) := by
  unfold At at h
  rw [h, drop_at hu, drop_at hv, scan_end]; simp [Scn.ahead]
theorem At.form {l o : List UInt8} {k : Nat} {v : UInt8} (h : At l o k) (hu : l[k]? = some 0) (hv : l[k + 1]? = some v) (h0 : v ≠ 0) (h1 : v ≠ 255) : scan l = .bad 3 := by
  unfold At at h
  rw [h, drop_at hu, drop_at hv, scan_form _ _ h0 h1]; rfl

theorem escL_append (a b : List UInt8) : escL (a ++ b) = escL a ++ escL b := by
  induction a with
  | nil => rfl
  | cons u a ih => simp only [List.cons_append, escL, ih]; split <;> simp
theorem escL_snoc {l : List UInt8} {k : Nat} {u : UInt8} (h : l[k]? = some u) : escL (l.take (k + 1)) = escL (l.take k) ++ (if u = 0 then [0, 255] else [u]) := by
  obtain ⟨hk, rfl⟩ := List.getElem?_eq_some_iff.1 h
  rw [List.take_succ_eq_append_getElem hk, escL_append]
  congr 1
theorem escL_zero {l : List UInt8} {k : Nat} (h : l[k]? = some 0) : escL (l.take k) ++ [0] ++ [255] = escL (l.take (k + 1)) := by
  rw [escL_snoc h, if_pos rfl, List.append_assoc]; rfl
theorem escL_plain {l : List UInt8} {k : Nat} {u : UInt8} (h : l[k]? = some u) (h0 : u ≠ 0) : escL (l.take k) ++ [u] = escL (l.take (k + 1)) := by
  rw [escL_snoc h, if_neg h0]
theorem escL_length (l : List UInt8) : (escL l).length ≤ 2 * l.length := by
  induction l with
  | nil => simp [escL]
  | cons u l ih => simp only [escL]; split <;> simp only [List.length_cons] <;> omega
theorem sputL_length (l : List UInt8) : (sputL l).length = (escL l).length + 2 := by simp [sputL]

/-- What was told is what was put. -/
theorem scan_put (s m : List UInt8) : scan (sputL s ++ m) = .ok s (sputL s).length := by
  induction s with
  | nil => simp [sputL, escL, scan_end]
  | cons u s ih =>
    by_cases h : u = 0
    · subst h
      have e : sputL (0 :: s) = 0 :: 255 :: sputL s := by simp [sputL, escL]
      rw [e, List.cons_append, List.cons_append, scan_mark, ih]
      simp [Scn.ahead]; omega
    · have e : sputL (u :: s) = u :: sputL s := by simp [sputL, escL, h]
      rw [e, List.cons_append, scan_cons _ _ h, ih]
      simp [Scn.ahead]; omega
/-- What is told takes just its bytes. -/
theorem scan_ok {l t : List UInt8} {n : Nat} (h : scan l = .ok t n) : n = (sputL t).length ∧ l = sputL t ++ l.drop n := by
  induction l using scan.induct generalizing t n with
  | case1 => cases h
  | case2 => simp [scan] at h
  | case3 u hu => simp [scan] at h
  | case4 l => rw [scan_end] at h; injection h with h1 h2; subst h1 h2; simp [sputL, escL]
  | case5 l h1 ih =>
    rw [scan_mark] at h
    cases hs : scan l with
    | bad e => rw [hs] at h; cases h
    | ok t' n' =>
      rw [hs] at h
      simp only [Scn.ahead] at h
      injection h with h1 h2
      obtain ⟨i1, i2⟩ := ih hs
      subst h1 h2
      have e : sputL ([0] ++ t') = 0 :: 255 :: sputL t' := by simp [sputL, escL]
      rw [e]
      refine ⟨by simp; omega, ?_⟩
      rw [Nat.add_comm 2 n', List.drop_succ_cons, List.drop_succ_cons, List.cons_append, List.cons_append, ← i2]
  | case6 v l h0 h1 => rw [scan_form _ _ h0 h1] at h; cases h
  | case7 u v l hu ih =>
    rw [scan_cons _ _ hu] at h
    cases hs : scan (v :: l) with
    | bad e => rw [hs] at h; cases h
    | ok t' n' =>
      rw [hs] at h
      simp only [Scn.ahead] at h
      injection h with h1 h2
      obtain ⟨i1, i2⟩ := ih hs
      subst h1 h2
      have e : sputL ([u] ++ t') = u :: sputL t' := by simp [sputL, escL, hu]
      rw [e]
      refine ⟨by simp; omega, ?_⟩
      rw [Nat.add_comm 1 n', List.drop_succ_cons, List.cons_append, ← i2]
theorem scan_len {l t : List UInt8} {n : Nat} (h : scan l = .ok t n) : 2 ≤ n ∧ n ≤ l.length ∧ l.take (n - 2) = escL t := by
  obtain ⟨h1, h2⟩ := scan_ok h
  have h3 := sputL_length t
  have h4 : (sputL t ++ l.drop n).length = (sputL t).length + (l.length - n) := by simp
  refine ⟨by omega, ?_, ?_⟩
  · rw [← h2] at h4; omega
  · rw [h2, show n - 2 = (escL t).length from by omega]
    simp [sputL]
theorem scan_E (l : List UInt8) : (scan l).E = 0 → ∃ t n, scan l = .ok t n := by
  intro h
  have hb : ∀ l e, scan l = .bad e → e ≠ 0 := by
    intro l
    induction l using scan.induct with
    | case1 => intro e h; injection h with h; omega
    | case2 => intro e h; simp [scan] at h; omega
    | case3 u hu => intro e h; simp [scan] at h; omega
    | case4 l => intro e h; rw [scan_end] at h; cases h
    | case5 l h1 ih =>
      intro e h
      rw [scan_mark] at h
      cases hs : scan l with
      | bad e' => rw [hs] at h; injection h with h; subst h; exact ih _ hs
      | ok t' n' => rw [hs] at h; cases h
    | case6 v l h0 h1 => intro e h; rw [scan_form _ _ h0 h1] at h; injection h with h; omega
    | case7 u v l hu ih =>
      intro e h
      rw [scan_cons _ _ hu] at h
      cases hs : scan (v :: l) with
      | bad e' => rw [hs] at h; injection h with h; subst h; exact ih _ hs
      | ok t' n' => rw [hs] at h; cases h
  cases hs : scan l with
  | ok t n => exact ⟨t, n, rfl⟩
  | bad e => rw [hs] at h; exact absurd h (hb l e hs)

theorem othL_length (l : List UInt8) : (othL l).length = l.length := by simp [othL]
theorem oth_toNat (u : UInt8) : (255 - u).toNat = 255 - u.toNat := by
  have := u.toNat_lt
  rw [UInt8.toNat_sub]
  show (2 ^ 8 - u.toNat + 255) % 2 ^ 8 = _
  omega
theorem othL_othL (l : List UInt8) : othL (othL l) = l := by
  induction l with
  | nil => rfl
  | cons u l ih =>
    have e : (255 : UInt8) - (255 - u) = u := by
      apply UInt8.toNat_inj.1
      have := u.toNat_lt
      rw [oth_toNat, oth_toNat]; omega
    have ih' : (l.map fun u => 255 - u).map (fun u => 255 - u) = l := ih
    show (255 - (255 - u)) :: _ = _
    rw [e, ih']
theorem oth_inj {u v : UInt8} (h : 255 - u = 255 - v) : u = v := by
  apply UInt8.toNat_inj.1
  have h1 := congrArg UInt8.toNat h
  rw [oth_toNat, oth_toNat] at h1
  have := u.toNat_lt
  have := v.toNat_lt
  omega

theorem sputL_nil : sputL [] = [0, 0] := rfl
theorem sputL_zero (s : List UInt8) : sputL (0 :: s) = 0 :: 255 :: sputL s := by simp [sputL, escL]
theorem sputL_cons {u : UInt8} (s : List UInt8) (h : u ≠ 0) : sputL (u :: s) = u :: sputL s := by simp [sputL, escL, h]
theorem pos_of_ne {u : UInt8} (h : u ≠ 0) : 0 < u.toNat := by
  have : u.toNat ≠ 0 := fun q => h (UInt8.toNat_inj.1 (by simpa using q))
  omega

/-- Texts' bytes are in order as the texts. -/
theorem cmpL_sput (s t : List UInt8) : cmpL (sputL s) (sputL t) = cmpL s t := by
  induction s generalizing t with
  | nil =>
    cases t with
    | nil => rw [cmpL_self]; rfl
    | cons v t =>
      by_cases hv : v = 0
      · subst hv; rw [sputL_zero, sputL_nil]; simp [cmpL]
      · rw [sputL_cons _ hv, sputL_nil]; simp [cmpL, Ne.symm hv, pos_of_ne hv]
  | cons u s ih =>
    cases t with
    | nil =>
      by_cases hu : u = 0
      · subst hu; rw [sputL_zero, sputL_nil]; simp [cmpL]
      · rw [sputL_cons _ hu, sputL_nil]; simp [cmpL, hu]
    | cons v t =>
      by_cases hu : u = 0
      · subst hu
        by_cases hv : v = 0
        · subst hv; rw [sputL_zero, sputL_zero]; simp [cmpL, ih]
        · rw [sputL_zero, sputL_cons _ hv]; simp [cmpL, Ne.symm hv]
      · by_cases hv : v = 0
        · subst hv; rw [sputL_zero, sputL_cons _ hu]; simp [cmpL, hu]
        · rw [sputL_cons _ hu, sputL_cons _ hv]; simp [cmpL, ih]
/-- The other ones the other way round. -/
theorem cmpL_oth (s t : List UInt8) : cmpL (othL (sputL s)) (othL (sputL t)) = -cmpL s t := by
  have hc : ∀ (u v : UInt8) (a b : List UInt8), cmpL (othL (u :: a)) (othL (v :: b)) = if u = v then cmpL (othL a) (othL b) else if v.toNat < u.toNat then -1 else 1 := by
    intro u v a b
    have h1 := u.toNat_lt
    have h2 := v.toNat_lt
    simp only [othL, List.map_cons, cmpL]
    by_cases h : u = v
    · subst h; simp
    · rw [if_neg (fun q => h (oth_inj q)), if_neg h, oth_toNat, oth_toNat]
      by_cases h3 : v.toNat < u.toNat
      · rw [if_pos h3, if_pos (by omega)]
      · rw [if_neg h3, if_neg (by omega)]
  induction s generalizing t with
  | nil =>
    cases t with
    | nil => rw [cmpL_self]; rfl
    | cons v t =>
      by_cases hv : v = 0
      · subst hv; rw [sputL_zero, sputL_nil, hc, hc]; simp [cmpL]
      · rw [sputL_cons _ hv, sputL_nil, hc]; simp [cmpL, Ne.symm hv]
  | cons u s ih =>
    cases t with
    | nil =>
      by_cases hu : u = 0
      · subst hu; rw [sputL_zero, sputL_nil, hc, hc]; simp [cmpL]
      · rw [sputL_cons _ hu, sputL_nil, hc]; simp [cmpL, hu, pos_of_ne hu]
    | cons v t =>
      have key : ∀ w : UInt8, cmpL (w :: s) (w :: t) = cmpL s t := fun w => by simp [cmpL]
      by_cases hu : u = 0
      · subst hu
        by_cases hv : v = 0
        · subst hv; rw [sputL_zero, sputL_zero, hc, hc, key]; simp [ih]
        · rw [sputL_zero, sputL_cons _ hv, hc]; simp [cmpL, Ne.symm hv, pos_of_ne hv]
      · by_cases hv : v = 0
        · subst hv; rw [sputL_zero, sputL_cons _ hu, hc]; simp [cmpL, hu, pos_of_ne hu]
        · rw [sputL_cons _ hu, sputL_cons _ hv, hc]
          by_cases e : u = v
          · subst e; rw [key]; simp [ih]
          · have h3 : u.toNat ≠ v.toNat := fun q => e (UInt8.toNat_inj.1 q)
            simp only [cmpL, if_neg e]
            by_cases h4 : v.toNat < u.toNat
            · rw [if_pos h4, if_neg (by omega)]
            · rw [if_neg h4, if_pos (by omega)]; rfl
/-- None are the beginning of another one's. -/
theorem lcp_sput {s t : List UInt8} (h : lcp (sputL s) (sputL t) = (sputL t).length) : s = t := by
  induction s generalizing t with
  | nil =>
    cases t with
    | nil => rfl
    | cons v t =>
      by_cases hv : v = 0
      · subst hv; rw [sputL_zero, sputL_nil] at h; simp [lcp] at h
      · rw [sputL_cons _ hv, sputL_nil] at h; simp [lcp, Ne.symm hv] at h
  | cons u s ih =>
    cases t with
    | nil =>
      by_cases hu : u = 0
      · subst hu; rw [sputL_zero, sputL_nil] at h; simp [lcp] at h
      · rw [sputL_cons _ hu, sputL_nil] at h; simp [lcp, hu] at h
    | cons v t =>
      by_cases hu : u = 0
      · subst hu
        by_cases hv : v = 0
        · subst hv; rw [sputL_zero, sputL_zero] at h; simp [lcp] at h; rw [ih h]
        · rw [sputL_zero, sputL_cons _ hv] at h; simp [lcp, Ne.symm hv] at h
      · by_cases hv : v = 0
        · subst hv; rw [sputL_zero, sputL_cons _ hu] at h; simp [lcp, hu] at h
        · rw [sputL_cons _ hu, sputL_cons _ hv] at h
          by_cases e : u = v
          · subst e; simp [lcp] at h; rw [ih h]
          · simp [lcp, e] at h
/-- Behind m bytes of a text, its bytes go on by the next one. -/
theorem escL_at {t : List UInt8} {m : Nat} {u : UInt8} (h : t[m]? = some u) : (escL t)[(escL (t.take m)).length]? = some u := by
  have e : t = t.take m ++ t.drop m := (List.take_append_drop m t).symm
  have e2 : escL t = escL (t.take m) ++ escL (t.drop m) := by rw [← escL_append, ← e]
  rw [e2, List.getElem?_append_right (Nat.le_refl _), Nat.sub_self, drop_at h]
  simp only [escL]
  split
  · rename_i h0; subst h0; rfl
  · rfl
theorem escL_le (t : List UInt8) (m : Nat) : (escL (t.take m)).length ≤ (escL t).length := by
  have e2 : escL t = escL (t.take m) ++ escL (t.drop m) := by rw [← escL_append, List.take_append_drop]
  rw [e2, List.length_append]; omega
theorem escL_full {t : List UInt8} {m : Nat} (h : (escL (t.take m)).length = (escL t).length) : t.take m = t := by
  rcases Nat.lt_or_ge m t.length with h1 | h1
  · have h2 := escL_at (List.getElem?_eq_getElem h1)
    have h3 := (List.getElem?_eq_some_iff.1 h2).1
    omega
  · exact List.take_of_length_le h1
theorem take_len_le (t : List UInt8) (m : Nat) (hm : m ≤ t.length) : m ≤ (escL (t.take m)).length := by
  have : ∀ l : List UInt8, l.length ≤ (escL l).length := by
    intro l
    induction l with
    | nil => simp
    | cons u l ih => simp only [escL]; split <;> simp only [List.length_cons] <;> omega
  have h := this (t.take m)
  rw [List.length_take] at h
  omega

/-- What stands behind the text. -/
def Scn.R (l : List UInt8) : Scn → List UInt8 | .ok _ n => l.drop n | .bad _ => []
end Go.Proofs.YtdpddkpfllioiaaDoor
