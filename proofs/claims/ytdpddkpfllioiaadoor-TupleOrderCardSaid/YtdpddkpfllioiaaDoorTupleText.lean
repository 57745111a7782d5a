/-
  Words without memory for layer 6: a schema's text, the parts of a text, the schema that they are.
-/
import Derived.Test.YtdpddkpfllioiaaDoorTuplePure
import Derived.Lib.Join
import Derived.Lib.Bytealg
namespace Go.Proofs.YtdpddkpfllioiaaDoor
open Go

/-- The kinds' names. -/
def nameL (k : Int) : List UInt8 :=
  if k = 1 then [117, 56] else if k = 2 then [117, 49, 54] else if k = 3 then [117, 51, 50] else if k = 4 then [117, 54, 52] else if k = 5 then [105, 56] else if k = 6 then [105, 49, 54] else if k = 7 then [105, 51, 50] else if k = 8 then [105, 54, 52] else if k = 9 then [98, 111, 111, 108] else if k = 10 then [116, 101, 120, 116] else []
def fdL (f : Fd) : List UInt8 := (if f.f then [45] else []) ++ nameL f.k
def textT (fs : List Fd) : List UInt8 := Lib.join (fs.map fdL) [44]
def txL (fs : List Fd) : List UInt8 := if chkL fs = 0 then textT fs else []
/-- A text's string. -/
def bst (l : List UInt8) : ByteArray := ⟨l.toArray⟩
theorem bst_toList (l : List UInt8) : (bst l).data.toList = l := by simp [bst]
theorem bst_of (s : ByteArray) : bst s.data.toList = s := by obtain ⟨⟨l⟩⟩ := s; rfl
theorem bst_size (l : List UInt8) : (bst l).size = l.length := by simp [bst, ByteArray.size]
theorem bst_append (a b : List UInt8) : bst a ++ bst b = bst (a ++ b) := by
  have : (bst a ++ bst b).data = (bst (a ++ b)).data := by simp [bst]
  cases h : (bst a ++ bst b)
  rw [h] at this
  simp only at this
  rw [this]
theorem bst_inj {a b : List UInt8} : bst a = bst b ↔ a = b := ⟨fun h => by have := congrArg (fun s => s.data.toList) h; simpa [bst] using this, fun h => by rw [h]⟩

/-- The kind of a name, 0 of none. -/
def kindOf (n : List UInt8) : Int :=
  if n = nameL 1 then 1 else if n = nameL 2 then 2 else if n = nameL 3 then 3 else if n = nameL 4 then 4 else if n = nameL 5 then 5 else if n = nameL 6 then 6 else if n = nameL 7 then 7 else if n = nameL 8 then 8 else if n = nameL 9 then 9 else if n = nameL 10 then 10 else 0
theorem kindOf_name {k : Int} (h : 1 ≤ k ∧ k ≤ 10) : kindOf (nameL k) = k := by
  rcases (by omega : k = 1 ∨ k = 2 ∨ k = 3 ∨ k = 4 ∨ k = 5 ∨ k = 6 ∨ k = 7 ∨ k = 8 ∨ k = 9 ∨ k = 10) with rfl | rfl | rfl | rfl | rfl | rfl | rfl | rfl | rfl | rfl <;> decide
theorem kindOf_none {n : List UInt8} (h : ∀ k : Int, 1 ≤ k → k ≤ 10 → nameL k ≠ n) : kindOf n = 0 := by
  have q : ∀ k : Int, 1 ≤ k → k ≤ 10 → n ≠ nameL k := fun k h1 h2 e => h k h1 h2 e.symm
  unfold kindOf
  rw [if_neg (q 1 (by omega) (by omega)), if_neg (q 2 (by omega) (by omega)), if_neg (q 3 (by omega) (by omega)), if_neg (q 4 (by omega) (by omega)), if_neg (q 5 (by omega) (by omega)), if_neg (q 6 (by omega) (by omega)), if_neg (q 7 (by omega) (by omega)), if_neg (q 8 (by omega) (by omega)), if_neg (q 9 (by omega) (by omega)), if_neg (q 10 (by omega) (by omega))]
theorem nameL_inj {j k : Int} (hj : 1 ≤ j ∧ j ≤ 10) (hk : 1 ≤ k ∧ k ≤ 10) (h : nameL j = nameL k) : j = k := by rw [← kindOf_name hj, h, kindOf_name hk]
theorem nameL_comma {k : Int} (h : 1 ≤ k ∧ k ≤ 10) : 44 ∉ nameL k := by
  rcases (by omega : k = 1 ∨ k = 2 ∨ k = 3 ∨ k = 4 ∨ k = 5 ∨ k = 6 ∨ k = 7 ∨ k = 8 ∨ k = 9 ∨ k = 10) with rfl | rfl | rfl | rfl | rfl | rfl | rfl | rfl | rfl | rfl <;> decide
theorem nameL_length (k : Int) : (nameL k).length ≤ 4 := by
  unfold nameL
  repeat' split
  all_goals decide
theorem nameL_head {k : Int} (h : 1 ≤ k ∧ k ≤ 10) : (nameL k).head? ≠ some 45 := by
  rcases (by omega : k = 1 ∨ k = 2 ∨ k = 3 ∨ k = 4 ∨ k = 5 ∨ k = 6 ∨ k = 7 ∨ k = 8 ∨ k = 9 ∨ k = 10) with rfl | rfl | rfl | rfl | rfl | rfl | rfl | rfl | rfl | rfl <;> decide
theorem fdL_length (f : Fd) : (fdL f).length ≤ 5 := by
  have := nameL_length f.k
  unfold fdL
  split <;> simp <;> omega

/-- Whether a field's text tells that it falls, its name; the field of its text. -/
def dnB (l : List UInt8) : Bool := l.head? == some 45
def nmL (l : List UInt8) : List UInt8 := if dnB l then l.tail else l
def parseF (l : List UInt8) : Option Fd := if kindOf (nmL l) = 0 then none else some ⟨kindOf (nmL l), dnB l⟩
theorem parseF_name {l : List UInt8} {k : Int} (hk : 1 ≤ k ∧ k ≤ 10) (h : nameL k = nmL l) : parseF l = some ⟨k, dnB l⟩ := by
  have e : kindOf (nmL l) = k := by rw [← h, kindOf_name hk]
  unfold parseF
  rw [e, if_neg (by omega)]
theorem parseF_none {l : List UInt8} (h : ∀ k : Int, 1 ≤ k → k ≤ 10 → nameL k ≠ nmL l) : parseF l = none := by unfold parseF; rw [if_pos (kindOf_none h)]
theorem parseF_fdL {f : Fd} (h : 1 ≤ f.k ∧ f.k ≤ 10) : parseF (fdL f) = some f := by
  obtain ⟨k, d⟩ := f
  have hh := nameL_head h
  have hn : nmL (fdL ⟨k, d⟩) = nameL k ∧ dnB (fdL ⟨k, d⟩) = d := by
    cases d with
    | false => 
      have e : dnB (fdL ⟨k, false⟩) = false := by simpa [dnB, fdL] using hh
      exact ⟨by unfold nmL; rw [e]; rfl, e⟩
    | true => exact ⟨rfl, rfl⟩
  rw [parseF_name h hn.1.symm, hn.2]
theorem parseF_kind {l : List UInt8} {f : Fd} (h : parseF l = some f) : 1 ≤ f.k ∧ f.k ≤ 10 := by
  unfold parseF at h
  by_cases q : kindOf (nmL l) = 0
  · rw [if_pos q] at h; cases h
  · rw [if_neg q] at h
    injection h with h
    subst h
    show 1 ≤ kindOf (nmL l) ∧ kindOf (nmL l) ≤ 10
    unfold kindOf at q ⊢
    repeat' split
    all_goals first | omega | simp_all
theorem trim_dash (l : List UInt8) : Lib.trimPrefix l [45] = nmL l ∧ Lib.hasPrefix l [45] = dnB l := by
  cases l with
  | nil => exact ⟨rfl, rfl⟩
  | cons u l =>
    by_cases h : u = 45
    · subst h; simp [Lib.trimPrefix, Lib.hasPrefix, nmL, dnB, List.isPrefixOf]
    · have h' : ¬ 45 = u := fun q => h q.symm
      have e1 : (45 == u) = false := by simpa using h'
      have e2 : (u == 45) = false := by simpa using h
      simp [Lib.trimPrefix, Lib.hasPrefix, nmL, dnB, List.isPrefixOf, e1, e2]

/-- Where the first comma stands; the parts between commas. -/
def comma : List UInt8 → Option Nat
  | [] => none
  | u :: l => if u = 44 then some 0 else (comma l).map (· + 1)
def partsL : List UInt8 → List (List UInt8)
  | [] => [[]]
  | u :: l => if u = 44 then [] :: partsL l else match partsL l with | p :: ps => (u :: p) :: ps | [] => [[u]]
theorem partsL_ne (l : List UInt8) : partsL l ≠ [] := by
  cases l with
  | nil => simp [partsL]
  | cons u l =>
    simp only [partsL]
    split
    · simp
    · split <;> simp
theorem comma_some {l : List UInt8} {i : Nat} (h : comma l = some i) : i < l.length ∧ partsL l = l.take i :: partsL (l.drop (i + 1)) := by
  induction l generalizing i with
  | nil => cases h
  | cons u l ih =>
    simp only [comma] at h
    by_cases e : u = 44
    · rw [if_pos e] at h
      injection h with h
      subst h
      simp [partsL, e]
    · rw [if_neg e] at h
      rcases hq : comma l with _ | j
      · rw [hq] at h; cases h
      · rw [hq] at h
        simp only [Option.map_some, Option.some.injEq] at h
        subst h
        obtain ⟨h1, h2⟩ := ih hq
        refine ⟨by simp; omega, ?_⟩
        simp only [partsL, if_neg e, List.take_succ_cons, List.drop_succ_cons, h2]
theorem comma_none {l : List UInt8} (h : comma l = none) : partsL l = [l] := by
  induction l with
  | nil => rfl
  | cons u l ih =>
    simp only [comma] at h
    by_cases e : u = 44
    · rw [if_pos e] at h; cases h
    · rw [if_neg e] at h
      rcases hq : comma l with _ | j
      · simp only [partsL, if_neg e, ih hq]
      · rw [hq] at h; cases h
theorem comma_at {l : List UInt8} {k : Nat} (h : ∀ j, j < k → l[j]? ≠ some 44) (hk : l[k]? = some 44) : comma l = some k := by
  induction l generalizing k with
  | nil => simp at hk
  | cons u l ih =>
    simp only [comma]
    cases k with
    | zero =>
      simp at hk
      rw [if_pos hk]
    | succ k =>
      have h0 := h 0 (by omega)
      simp at h0
      have hk' : l[k]? = some 44 := by simpa using hk
      have h' : ∀ j, j < k → l[j]? ≠ some 44 := fun j hj => by have := h (j + 1) (by omega); simpa using this
      rw [if_neg h0, ih h' hk']
      rfl
theorem comma_end {l : List UInt8} (h : ∀ j, j < l.length → l[j]? ≠ some 44) : comma l = none := by
  induction l with
  | nil => rfl
  | cons u l ih =>
    have h0 := h 0 (by simp)
    simp at h0
    simp only [comma]
    rw [if_neg h0, ih (fun j hj => by have := h (j + 1) (by simp; omega); simpa using this)]
    rfl
theorem index_comma (l : List UInt8) : Lib.indexByte l 44 = match comma l with | some i => (i : Int) | none => -1 := by
  induction l with
  | nil => rfl
  | cons u l ih =>
    simp only [Lib.indexByte, comma]
    by_cases e : u = 44
    · simp [e]
    · rw [if_neg (by simpa using e), if_neg e, ih]
      rcases comma l with _ | j
      · simp
      · simp only [Option.map_some]
        have hj : ¬ ((j : Int) == -1) = true := by simp
        rw [if_neg hj]
        simp

def parseAll : List (List UInt8) → Option (List Fd)
  | [] => some []
  | p :: ps => match parseF p, parseAll ps with | some f, some fs => some (f :: fs) | _, _ => none
/-- What Parse answers. -/
def prsE (l : List UInt8) : Int := if l = [] then 0 else match parseAll (partsL l) with | none => 3 | some fs => if 255 < fs.length then 5 else 0
def prsL (l : List UInt8) : List Fd := if l = [] then [] else match parseAll (partsL l) with | none => [] | some fs => if 255 < fs.length then [] else fs
/-- How far the parsing has come: of the parts so far the fields ds, and the text r is left, or none. -/
def PAt (l : List UInt8) (ds : List Fd) : Option (List UInt8) → Prop
  | some r => parseAll (partsL l) = (parseAll (partsL r)).map (ds ++ ·)
  | none => parseAll (partsL l) = some ds
section
variable {l r : List UInt8} {ds : List Fd} {i : Nat} {f : Fd}
theorem PAt.start (l : List UInt8) : PAt l [] (some l) := by
  show parseAll (partsL l) = (parseAll (partsL l)).map ([] ++ ·)
  cases parseAll (partsL l) <;> simp
theorem PAt.step (h : PAt l ds (some r)) (hc : comma r = some i) (hf : parseF (r.take i) = some f) : PAt l (ds ++ [f]) (some (r.drop (i + 1))) := by
  have h' : parseAll (partsL l) = (parseAll (partsL r)).map (ds ++ ·) := h
  show parseAll (partsL l) = (parseAll (partsL (r.drop (i + 1)))).map ((ds ++ [f]) ++ ·)
  rw [h', (comma_some hc).2, parseAll, hf]
  cases parseAll (partsL (r.drop (i + 1))) <;> simp
theorem PAt.last (h : PAt l ds (some r)) (hc : comma r = none) (hf : parseF r = some f) : PAt l (ds ++ [f]) none := by
  have h' : parseAll (partsL l) = (parseAll (partsL r)).map (ds ++ ·) := h
  show parseAll (partsL l) = some (ds ++ [f])
  rw [h', comma_none hc, parseAll, hf]
  rfl
theorem PAt.bad (h : PAt l ds (some r)) (hc : comma r = some i) (hf : parseF (r.take i) = none) : parseAll (partsL l) = none := by
  have h' : parseAll (partsL l) = (parseAll (partsL r)).map (ds ++ ·) := h
  rw [h', (comma_some hc).2, parseAll, hf]
  rfl
theorem PAt.badLast (h : PAt l ds (some r)) (hc : comma r = none) (hf : parseF r = none) : parseAll (partsL l) = none := by
  have h' : parseAll (partsL l) = (parseAll (partsL r)).map (ds ++ ·) := h
  rw [h', comma_none hc, parseAll, hf]
  rfl
end
theorem prs_nil : prsE [] = 0 ∧ prsL [] = [] := ⟨rfl, rfl⟩
theorem prs_bad {l : List UInt8} (hl : l ≠ []) (h : parseAll (partsL l) = none) : prsE l = 3 ∧ prsL l = [] := by
  unfold prsE prsL
  rw [if_neg hl, if_neg hl, h]
  exact ⟨rfl, rfl⟩
theorem prs_many {l : List UInt8} {ds : List Fd} (hl : l ≠ []) (h : parseAll (partsL l) = some ds) (hd : 255 < ds.length) : prsE l = 5 ∧ prsL l = [] := by
  unfold prsE prsL
  rw [if_neg hl, if_neg hl, h]
  simp [hd]
theorem prs_ok {l : List UInt8} {ds : List Fd} (hl : l ≠ []) (h : parseAll (partsL l) = some ds) (hd : ¬ 255 < ds.length) : prsE l = 0 ∧ prsL l = ds := by
  unfold prsE prsL
  rw [if_neg hl, if_neg hl, h]
  simp [hd]
theorem parseAll_kinds {ps : List (List UInt8)} {ds : List Fd} (h : parseAll ps = some ds) : ∀ f ∈ ds, 1 ≤ f.k ∧ f.k ≤ 10 := by
  induction ps generalizing ds with
  | nil =>
    simp only [parseAll, Option.some.injEq] at h
    subst h
    simp
  | cons p ps ih =>
    simp only [parseAll] at h
    rcases hf : parseF p with _ | f
    · rw [hf] at h; cases h
    · rcases hq : parseAll ps with _ | fs
      · rw [hf, hq] at h; cases h
      · rw [hf, hq] at h
        simp only [Option.some.injEq] at h
        subst h
        intro g hg
        rcases List.mem_cons.1 hg with rfl | hg
        · exact parseF_kind hf
        · exact ih hq g hg

/-- A schema's text is parsed. -/
theorem parts_front {p : List UInt8} (h : 44 ∉ p) (r : List UInt8) : partsL (p ++ 44 :: r) = p :: partsL r := by
  induction p with
  | nil => simp [partsL]
  | cons u p ih =>
    simp only [List.mem_cons, not_or] at h
    simp only [List.cons_append, partsL]
    rw [if_neg (fun q => h.1 q.symm), ih h.2]
theorem parts_one {p : List UInt8} (h : 44 ∉ p) : partsL p = [p] := comma_none (comma_end (fun _ _ q => h (List.mem_of_getElem? q)))
theorem fdL_comma {f : Fd} (h : 1 ≤ f.k ∧ f.k ≤ 10) : 44 ∉ fdL f := by
  have := nameL_comma h
  unfold fdL
  split <;> simp [this]
theorem parts_text (f : Fd) (fs : List Fd) (h : ∀ g ∈ f :: fs, 1 ≤ g.k ∧ g.k ≤ 10) : partsL (textT (f :: fs)) = (f :: fs).map fdL := by
  induction fs generalizing f with
  | nil =>
    have e : textT [f] = fdL f := Lib.join_one _ _
    rw [e, parts_one (fdL_comma (h f (by simp)))]
    rfl
  | cons g fs ih =>
    have e : textT (f :: g :: fs) = fdL f ++ 44 :: textT (g :: fs) := by
      unfold textT
      rw [List.map_cons, List.map_cons, Lib.join_cons, Lib.join_cons]
      simp [Lib.joinTail]
    rw [e, parts_front (fdL_comma (h f (by simp))), ih g (fun x hx => h x (by simp at hx ⊢; exact .inr hx))]
    rfl
theorem parseAll_fdL (fs : List Fd) (h : ∀ g ∈ fs, 1 ≤ g.k ∧ g.k ≤ 10) : parseAll (fs.map fdL) = some fs := by
  induction fs with
  | nil => rfl
  | cons f fs ih => simp only [List.map_cons, parseAll]; rw [parseF_fdL (h f (by simp)), ih (fun g hg => h g (by simp [hg]))]
theorem textT_ne (f : Fd) (fs : List Fd) (h : ∀ g ∈ f :: fs, 1 ≤ g.k ∧ g.k ≤ 10) : textT (f :: fs) ≠ [] := by
  intro q
  have := parts_text f fs h
  rw [q] at this
  have e : fdL f = [] := by simp [partsL] at this; exact this.1
  have := parseF_fdL (h f (by simp))
  rw [e] at this
  have q2 : parseF [] = none := by decide
  rw [q2] at this
  cases this
theorem text_parse {fs : List Fd} (h : chkL fs = 0) : prsE (textT fs) = 0 ∧ prsL (textT fs) = fs := by
  obtain ⟨h1, h2⟩ := chkL_zero h
  cases fs with
  | nil => exact prs_nil
  | cons f fs => exact prs_ok (textT_ne f fs h2) (by rw [parts_text f fs h2]; exact parseAll_fdL _ h2) (by omega)
theorem join_length (fs : List Fd) : (textT fs).length ≤ 6 * fs.length := by
  cases fs with
  | nil => simp [textT, Lib.join, List.intercalate]
  | cons f fs =>
    unfold textT
    rw [List.map_cons, Lib.join_cons, List.length_append]
    have h1 := fdL_length f
    have h2 : (Lib.joinTail [44] (fs.map fdL)).length ≤ 6 * fs.length := by
      clear h1
      induction fs with
      | nil => simp [Lib.joinTail]
      | cons g fs ih =>
        have h1 := fdL_length g
        have e : Lib.joinTail [44] ((g :: fs).map fdL) = [44] ++ fdL g ++ Lib.joinTail [44] (fs.map fdL) := by simp [Lib.joinTail]
        rw [e, List.length_append, List.length_append, List.length_cons]
        simp only [List.length_cons, List.length_nil]
        omega
    rw [List.length_cons]
    omega
/-- One field more. -/
theorem text_snoc {fs : List Fd} {k : Nat} {f : Fd} (hf : fs[k]? = some f) : textT (fs.take (k + 1)) = textT (fs.take k) ++ (if 0 < k then [44] else []) ++ (if f.f then [45] else []) ++ nameL f.k := by
  rw [take_step hf]
  have e : ∀ (xs : List Fd) (g : Fd), textT (xs ++ [g]) = textT xs ++ (if xs = [] then [] else [44]) ++ fdL g := by
    intro xs g
    unfold textT
    rw [List.map_append]
    cases xs with
    | nil => simp [Lib.join, List.intercalate]
    | cons x xs =>
      rw [List.map_cons, List.cons_append, Lib.join_cons, Lib.join_cons]
      simp [Lib.joinTail]
  rw [e]
  have hl : k < fs.length := (List.getElem?_eq_some_iff.1 hf).1
  by_cases h0 : 0 < k
  · rw [if_pos h0, if_neg (by intro q; have := congrArg List.length q; rw [List.length_take] at this; simp only [List.length_nil] at this; omega)]
    simp [fdL]
  · obtain rfl : k = 0 := by omega
    simp [fdL]
end Go.Proofs.YtdpddkpfllioiaaDoor
