/-
  Plain mathematics of keys' texts: two digits a byte, and back. Nothing of the program is used.
-/
import Init
namespace Go.Proofs.Ytdllgcaeenldaaa

/-- What a sign counts; 16: it is no digit. -/
def hexN (c : Nat) : Nat := if 48 ≤ c ∧ c ≤ 57 then c - 48 else if 97 ≤ c ∧ c ≤ 102 then c - 87 else 16
theorem hexN_le (c : Nat) : hexN c ≤ 16 := by unfold hexN; split; omega; split <;> omega

/-- The sign of a digit. -/
def digN (n : Nat) : Nat := if n < 10 then n + 48 else n + 87
def digU (n : Nat) : UInt8 := UInt8.ofNat (digN n)
theorem digU_toNat {n : Nat} (h : n < 16) : (digU n).toNat = digN n := by
  have : digN n < 256 := by unfold digN; split <;> omega
  unfold digU; rw [UInt8.toNat_ofNat', Nat.mod_eq_of_lt (by simpa using this)]
theorem hexN_digN {n : Nat} (h : n < 16) : hexN (digN n) = n := by
  unfold hexN digN
  by_cases h1 : n < 10
  · rw [if_pos h1, if_pos (by omega)]; omega
  · rw [if_neg h1, if_neg (by omega), if_pos (by omega)]; omega

def textL (l : List UInt8) : List UInt8 := l.flatMap fun b => [digU (b.toNat / 16), digU (b.toNat % 16)]
theorem textL_length (l : List UInt8) : (textL l).length = 2 * l.length := by
  induction l with
  | nil => rfl
  | cons a l ih => simp only [textL, List.flatMap_cons, List.length_append, List.length_cons] at ih ⊢; simp only [List.length_nil]; omega
theorem textL_append (l m : List UInt8) : textL (l ++ m) = textL l ++ textL m := by simp [textL]

/-- The key of a text; none, if it is no key's. -/
def parseL : List UInt8 → Option (List UInt8)
  | [] => some []
  | [_] => none
  | a :: b :: r => if hexN a.toNat < 16 ∧ hexN b.toNat < 16 then (parseL r).map (UInt8.ofNat (16 * hexN a.toNat + hexN b.toNat) :: ·) else none

def parseR (s : List UInt8) : List UInt8 × Int :=
  if 131071 < s.length then ([], 8) else if s.length % 2 ≠ 0 then ([], 3) else match parseL s with
    | none => ([], 3)
    | some k => (k, 0)

theorem byte_join (b : UInt8) : UInt8.ofNat (16 * (b.toNat / 16) + b.toNat % 16) = b := by
  have : 16 * (b.toNat / 16) + b.toNat % 16 = b.toNat := by omega
  rw [this]; simp
theorem parse_text (l : List UInt8) : parseL (textL l) = some l := by
  induction l with
  | nil => rfl
  | cons b l ih =>
    have hb : b.toNat < 256 := b.toNat_lt
    have e : textL (b :: l) = digU (b.toNat / 16) :: digU (b.toNat % 16) :: textL l := rfl
    rw [e]
    simp only [parseL]
    rw [digU_toNat (by omega), digU_toNat (by omega), hexN_digN (by omega), hexN_digN (by omega), if_pos (by omega), ih]
    rw [Option.map_some, byte_join]

/-- Parsed so far: the first k bytes of the text. -/
theorem parse_snoc {s : List UInt8} {d : List UInt8} {k : Nat} {a b : UInt8} (h : parseL (s.take (2 * k)) = some d) (hl : d.length = k) (ha : s[2 * k]? = some a) (hb : s[2 * k + 1]? = some b)
    (h1 : hexN a.toNat < 16) (h2 : hexN b.toNat < 16) : parseL (s.take (2 * (k + 1))) = some (d ++ [UInt8.ofNat (16 * hexN a.toNat + hexN b.toNat)]) := by
  induction k generalizing s d with
  | zero =>
    have : d = [] := List.eq_nil_of_length_eq_zero hl
    subst this
    match s, ha, hb with
    | x :: y :: r, ha, hb =>
      simp at ha hb
      subst ha hb
      simp [parseL, h1, h2]
  | succ k ih =>
    match s, ha with
    | x :: y :: r, ha =>
      have e1 : 2 * (k + 1) = 2 * k + 1 + 1 := by omega
      have e2 : 2 * (k + 1 + 1) = 2 * (k + 1) + 1 + 1 := by omega
      rw [e1] at h ha hb
      rw [e2]
      simp only [List.take_succ_cons, parseL, List.getElem?_cons_succ] at h ha hb ⊢
      split at h
      · rename_i hc
        rw [if_pos hc]
        rcases hp : parseL (List.take (2 * k) r) with _ | d'
        · rw [hp] at h; simp at h
        · rw [hp] at h
          simp only [Option.map_some, Option.some.injEq] at h
          subst h
          rw [ih hp (by simpa using hl) ha hb]
          simp
      · cases h
    | [x], ha => simp at ha
    | [], ha => simp at ha
theorem parse_stop {s : List UInt8} {k : Nat} {a b : UInt8} (ha : s[2 * k]? = some a) (hb : s[2 * k + 1]? = some b)
    (h1 : ¬ (hexN a.toNat < 16 ∧ hexN b.toNat < 16)) : parseL s = none := by
  induction k generalizing s with
  | zero =>
    match s, ha, hb with
    | x :: y :: r, ha, hb =>
      simp at ha hb
      subst ha hb
      simp only [parseL]
      rw [if_neg h1]
  | succ k ih =>
    match s, ha with
    | x :: y :: r, ha =>
      have e1 : 2 * (k + 1) = 2 * k + 1 + 1 := by omega
      rw [e1] at ha hb
      simp only [List.getElem?_cons_succ] at ha hb
      simp only [parseL]
      rw [ih ha hb]
      simp
    | [x], ha => simp at ha
    | [], ha => simp at ha
theorem parse_length {s d : List UInt8} (h : parseL s = some d) : 2 * d.length = s.length := by
  have H : ∀ n (s d : List UInt8), s.length ≤ n → parseL s = some d → 2 * d.length = s.length := by
    intro n
    induction n with
    | zero => intro s d hs h; have : s = [] := List.eq_nil_of_length_eq_zero (by omega); subst this; simp [parseL] at h; simp [h]
    | succ n ih =>
      intro s d hs h
      match s with
      | [] => simp [parseL] at h; simp [h]
      | [x] => simp [parseL] at h
      | x :: y :: r =>
        simp only [parseL] at h
        split at h
        · rcases hp : parseL r with _ | d'
          · rw [hp] at h; simp at h
          · rw [hp] at h; simp only [Option.map_some, Option.some.injEq] at h; subst h
            have := ih r d' (by simp at hs; omega) hp
            simp; omega
        · cases h
  exact H s.length s d (Nat.le_refl _) h
end Go.Proofs.Ytdllgcaeenldaaa
