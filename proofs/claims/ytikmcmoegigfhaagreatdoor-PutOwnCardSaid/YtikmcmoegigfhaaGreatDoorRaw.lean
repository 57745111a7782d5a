/-
  Trees that are told node by node: how they are read, what nodes and kids they come to.
  The tree that is told node by node: its nodes' kids, the tree, where it lies, how great it is.
  How great the tree is that is told node by node; what its shape tells. No program is run.
-/
import Derived.Test.YtikmcmoegigfhaaGreatDoorRow
import Derived.Test.YtikmcmoegigfhaaGreatDoorRws
import Derived.Test.YtikmcmoegigfhaaGreatDoorNdWrite
import Derived.Test.YtikmcmoegigfhaaGreatDoorShapeP
import Derived.Deep.Slices
import Derived.Test.YtikmcmoegigfhaaGreatDoorCanonQ
namespace Go.Proofs.YtikmcmoegigfhaaGreatDoor
open Go.ChangeShapes Go.WideShapes Go.ChangeAt Go.RowKit

structure Rw where
  leaf : Bool
  A : Option Addr
  n : Nat
  c : Nat
  part : List UInt8
  has : Bool
  val : Int
  up : UInt8
  b : UInt8
def dR : Rw := ⟨true, none, 0, 0, [], true, 0, 0, 0⟩
def Rw.cells (r : Rw) : List Value := [.bool r.leaf, .slice r.A r.n r.c, .bool r.has, .int .u64 r.val, .int .u8 (r.up.toNat : Int), .int .u8 (r.b.toNat : Int)]
def Rzs (w : World) (B : Nat) (A : Option Addr) (n : Nat) (rs : List Rw) : Prop := Rws w B A n 6 (rs.map Rw.cells) ∧ ∀ r ∈ rs, Byt w B r.A r.n r.part ∧ r.n ≤ r.c ∧ 0 ≤ r.val ∧ r.val ≤ 18446744073709551615
section
variable {w w' : World} {B B' n : Nat} {A : Option Addr} {rs : List Rw}
theorem Rzs.none_ : Rzs w B A 0 [] := ⟨Rws.none_, fun _ h => by cases h⟩
theorem Rzs.length (h : Rzs w B A n rs) : rs.length = n := by have := h.1.1; simpa using this
theorem Rzs.below (h : Rzs w B A n rs) (hb : Below B w w') : Rzs w' B A n rs := ⟨h.1.below hb, fun r hr => ⟨(h.2 r hr).1.below hb, (h.2 r hr).2⟩⟩
/-- The cells of the one at k, as the walk asks for them. -/
theorem Rzs.at6 {k : Nat} (h : Rzs w B A n rs) (hk : k < n) : ∃ (ad : Addr) (r : Rw), A = some ad ∧ ad.block < B ∧ rs[k]? = some r ∧ w.cell? (ad.add (k * 6)) = some (.bool r.leaf) ∧ w.cell? ⟨(ad.add (k * 6)).block, (ad.add (k * 6)).off + 1, none⟩ = some (.slice r.A r.n r.c) ∧ w.cell? ⟨(ad.add (k * 6)).block, (ad.add (k * 6)).off + 2, none⟩ = some (.bool r.has) ∧ w.cell? ⟨(ad.add (k * 6)).block, (ad.add (k * 6)).off + 3, none⟩ = some (.int .u64 r.val) ∧ w.cell? ⟨(ad.add (k * 6)).block, (ad.add (k * 6)).off + 4, none⟩ = some (.int .u8 (r.up.toNat : Int)) ∧ w.cell? ⟨(ad.add (k * 6)).block, (ad.add (k * 6)).off + 5, none⟩ = some (.int .u8 (r.b.toNat : Int)) ∧ Byt w B r.A r.n r.part ∧ r.n ≤ r.c ∧ 0 ≤ r.val ∧ r.val ≤ 18446744073709551615 := by
  obtain ⟨ad, c, e, hb, hc, _, hu⟩ := h.1.at_ hk
  rw [List.getElem?_map] at hc
  rcases ht : rs[k]? with _ | r
  · rw [ht] at hc; cases hc
  · rw [ht] at hc
    simp only [Option.map_some, Option.some.injEq] at hc
    subst hc
    refine ⟨ad, r, e, hb, rfl, hu 0 _ rfl, ?_, ?_, ?_, ?_, ?_, h.2 r (List.mem_of_getElem? ht)⟩
    · rw [show (⟨(ad.add (k * 6)).block, (ad.add (k * 6)).off + 1, none⟩ : Addr) = ad.add (k * 6 + 1) by rw [← add_of_add]; rfl]; exact hu 1 _ rfl
    · rw [show (⟨(ad.add (k * 6)).block, (ad.add (k * 6)).off + 2, none⟩ : Addr) = ad.add (k * 6 + 2) by rw [← add_of_add]; rfl]; exact hu 2 _ rfl
    · rw [show (⟨(ad.add (k * 6)).block, (ad.add (k * 6)).off + 3, none⟩ : Addr) = ad.add (k * 6 + 3) by rw [← add_of_add]; rfl]; exact hu 3 _ rfl
    · rw [show (⟨(ad.add (k * 6)).block, (ad.add (k * 6)).off + 4, none⟩ : Addr) = ad.add (k * 6 + 4) by rw [← add_of_add]; rfl]; exact hu 4 _ rfl
    · rw [show (⟨(ad.add (k * 6)).block, (ad.add (k * 6)).off + 5, none⟩ : Addr) = ad.add (k * 6 + 5) by rw [← add_of_add]; rfl]; exact hu 5 _ rfl
end
set_option maxRecDepth 100000 in
theorem cells_bool : Tryz.prog.cellsOf 4 = 1 := by kernel_rfl
section
variable {H : Type} {enc : TypeId × Value → H} {W : World}
end
end Go.Proofs.YtikmcmoegigfhaaGreatDoor

namespace Go.Proofs.YtikmcmoegigfhaaGreatDoor
open Go.RowKit

def posI (es : List (UInt8 × Nat)) (b : Nat) : Nat := es.countP fun e => e.1.toNat < b
def hasI (es : List (UInt8 × Nat)) (b : Nat) : Bool := match es[posI es b]? with
  | some e => decide (e.1.toNat = b)
  | none => false
def setI (es : List (UInt8 × Nat)) (b : UInt8) (j : Nat) : List (UInt8 × Nat) :=
  if hasI es b.toNat then es.set (posI es b.toNat) (b, j) else es.take (posI es b.toNat) ++ (b, j) :: es.drop (posI es b.toNat)
def phi (gs : List Nat) (e : UInt8 × Nat) : Ent := (e.1, some ⟨gs.getD e.2 0, 0, none⟩)
theorem set_phi (gs : List Nat) (es : List (UInt8 × Nat)) (b : UInt8) (j : Nat) : setE (es.map (phi gs)) b (some ⟨gs.getD j 0, 0, none⟩) = (setI es b j).map (phi gs) := by
  have hp : ∀ n, pos (es.map (phi gs)) n = posI es n := fun n => by unfold pos posI; rw [List.countP_map]; rfl
  have hh : hasE (es.map (phi gs)) b.toNat = hasI es b.toNat := by
    unfold hasE look hasI
    rw [hp, List.getElem?_map]
    rcases es[posI es b.toNat]? with _ | e
    · rfl
    · simp only [Option.map_some]
      by_cases h : e.1.toNat = b.toNat
      · rw [if_pos (show (phi gs e).1.toNat = b.toNat from h), decide_eq_true h]; rfl
      · rw [if_neg (show ¬ (phi gs e).1.toNat = b.toNat from h), decide_eq_false h]; rfl
  unfold setE setI
  rw [hh, hp]
  split
  · rw [List.map_set]; rfl
  · rw [List.map_append, List.map_cons, List.map_take, List.map_drop]; rfl
theorem mem_setI {es : List (UInt8 × Nat)} {b : UInt8} {j : Nat} {e : UInt8 × Nat} (h : e ∈ setI es b j) : e ∈ es ∨ e = (b, j) := by
  unfold setI at h
  split at h
  · exact List.mem_or_eq_of_mem_set h
  · rcases List.mem_append.1 h with q | q
    · exact .inl (List.mem_of_mem_take q)
    · rcases List.mem_cons.1 q with q | q
      · exact .inr q
      · exact .inl (List.mem_of_mem_drop q)

def nnR (r : Rw) : Nn := ⟨r.leaf, 1, r.part, if r.leaf || r.has then r.val else 0, r.leaf || r.has⟩
def parR (rs : List Rw) (i : Nat) : Nat := (rs.getD i dR).up.toNat % i
/-- The kids' places of the first i nodes. -/
def stR (rs : List Rw) : Nat → List (List (UInt8 × Nat))
  | 0 => []
  | i + 1 => if i = 0 ∨ (rs.getD (parR rs i) dR).leaf = true then stR rs i ++ [[]] else (stR rs i ++ [[]]).set (parR rs i) (setI ((stR rs i).getD (parR rs i) []) (rs.getD i dR).b i)
theorem stR_len (rs : List Rw) : ∀ i, (stR rs i).length = i
  | 0 => rfl
  | i + 1 => by
    unfold stR
    split
    · rw [List.length_append, stR_len rs i]; rfl
    · rw [List.length_set, List.length_append, stR_len rs i]; rfl
theorem getD_set {α : Type} (l : List α) (q k : Nat) (v d : α) : (l.set q v).getD k d = if q = k ∧ k < l.length then v else l.getD k d := by
  simp only [List.getD_eq_getElem?_getD, List.getElem?_set]
  by_cases h : q = k
  · subst h
    by_cases h2 : q < l.length
    · simp [h2]
    · simp [h2]
  · simp [h]
theorem getD_snoc {α : Type} (l : List α) (k : Nat) (d : α) : (l ++ [d]).getD k d = l.getD k d := by
  simp only [List.getD_eq_getElem?_getD]
  rcases Nat.lt_trichotomy k l.length with h | h | h
  · rw [List.getElem?_append_left h]
  · subst h
    rw [List.getElem?_append_right (Nat.le_refl _)]
    simp
  · rw [List.getElem?_append_right (by omega), List.getElem?_eq_none (by simp; omega), List.getElem?_eq_none (by omega)]
theorem stR_mem (rs : List Rw) : ∀ i k, ∀ e ∈ (stR rs i).getD k [], k < e.2 ∧ e.2 < i ∧ e.1 = (rs.getD e.2 dR).b ∧ (rs.getD k dR).leaf = false
  | 0, k, e, he => by simp [stR] at he
  | i + 1, k, e, he => by
    unfold stR at he
    split at he
    · rw [getD_snoc] at he
      obtain ⟨h1, h2, h3⟩ := stR_mem rs i k e he
      exact ⟨h1, by omega, h3⟩
    · rename_i hc
      have hc1 : ¬ i = 0 := fun q => hc (.inl q)
      have hc2 : (rs.getD (parR rs i) dR).leaf = false := by
        cases h : (rs.getD (parR rs i) dR).leaf with
        | false => rfl
        | true => exact absurd (.inr h) hc
      rw [getD_set, getD_snoc] at he
      split at he
      · rename_i hq
        rw [hq.1] at he hc2
        rcases mem_setI he with q | q
        · obtain ⟨h1, h2, h3⟩ := stR_mem rs i k e q
          exact ⟨h1, by omega, h3⟩
        · subst q
          have : parR rs i < i := Nat.mod_lt _ (by omega)
          exact ⟨by show k < i; omega, Nat.lt_succ_self i, rfl, hc2⟩
      · obtain ⟨h1, h2, h3⟩ := stR_mem rs i k e he
        exact ⟨h1, by omega, h3⟩

/-- The nodes in memory: gs are their blocks. -/
def nodeAt (rs : List Rw) (gs : List Nat) (st : List (List (UInt8 × Nat))) (k : Nat) : Nat × Nd := (gs.getD k 0, (nnR (rs.getD k dR)).nd ((st.getD k []).map (phi gs)))
def nodesL (rs : List Rw) (gs : List Nat) (st : List (List (UInt8 × Nat))) : List (Nat × Nd) := (List.range st.length).map (nodeAt rs gs st)
theorem nodesL_at {rs : List Rw} {gs : List Nat} {st : List (List (UInt8 × Nat))} {k : Nat} (h : k < st.length) : (nodesL rs gs st)[k]? = some (nodeAt rs gs st k) := by
  unfold nodesL
  rw [List.getElem?_map, List.getElem?_range h]
  rfl
theorem nodesL_snoc (rs : List Rw) (gs : List Nat) (i g : Nat) (hg : gs.length = i) : nodesL rs gs (stR rs i) ++ [(g, (nnR (rs.getD i dR)).nd [])] = nodesL rs (gs ++ [g]) (stR rs i ++ [[]]) := by
  have hl := stR_len rs i
  unfold nodesL
  rw [List.length_append, hl, List.length_singleton, List.range_succ, List.map_append, List.map_singleton]
  congr 1
  · refine List.map_congr_left fun k hk => ?_
    have hk' : k < i := List.mem_range.1 hk
    unfold nodeAt
    rw [getD_snoc]
    have e1 : (gs ++ [g]).getD k 0 = gs.getD k 0 := by
      simp only [List.getD_eq_getElem?_getD]
      rw [List.getElem?_append_left (by omega)]
    have e2 : ((stR rs i).getD k []).map (phi (gs ++ [g])) = ((stR rs i).getD k []).map (phi gs) := List.map_congr_left fun e he => by
      have := (stR_mem rs i k e he).2.1
      unfold phi
      simp only [List.getD_eq_getElem?_getD]
      rw [List.getElem?_append_left (by omega)]
    rw [e1, e2]
  · unfold nodeAt
    have e1 : (gs ++ [g]).getD i 0 = g := by
      simp only [List.getD_eq_getElem?_getD]
      rw [List.getElem?_append_right (by omega), hg, Nat.sub_self]
      rfl
    have e2 : (stR rs i ++ [[]]).getD i [] = [] := by
      rw [getD_snoc]
      simp only [List.getD_eq_getElem?_getD]
      rw [List.getElem?_eq_none (by omega)]
      rfl
    rw [e1, e2]
    rfl
theorem nodesL_kid (rs : List Rw) (gs : List Nat) (i : Nat) (h0 : i ≠ 0) :
    (nodesL rs gs (stR rs i ++ [[]])).set (parR rs i) (gs.getD (parR rs i) 0, nSetKid ((nnR (rs.getD (parR rs i) dR)).nd (((stR rs i ++ [[]]).getD (parR rs i) []).map (phi gs))) 1 (rs.getD i dR).b (some ⟨gs.getD i 0, 0, none⟩)) = nodesL rs gs (stR rs (i + 1)) := by
  have hl := stR_len rs i
  have hpi : parR rs i < i := Nat.mod_lt _ (by omega)
  have hlen : (stR rs i ++ [[]]).length = i + 1 := by rw [List.length_append, hl]; rfl
  cases hlf : (rs.getD (parR rs i) dR).leaf with
  | true =>
    have e1 : stR rs (i + 1) = stR rs i ++ [[]] := by
      conv => lhs; unfold stR
      rw [if_pos (.inr hlf)]
    rw [e1]
    have e2 : nSetKid ((nnR (rs.getD (parR rs i) dR)).nd (((stR rs i ++ [[]]).getD (parR rs i) []).map (phi gs))) 1 (rs.getD i dR).b (some ⟨gs.getD i 0, 0, none⟩) = (nnR (rs.getD (parR rs i) dR)).nd (((stR rs i ++ [[]]).getD (parR rs i) []).map (phi gs)) := by
      generalize rs.getD (parR rs i) dR = r at hlf
      unfold nSetKid
      rw [if_neg]
      simp [nnR, hlf]
    rw [e2]
    have hat := nodesL_at (rs := rs) (gs := gs) (st := stR rs i ++ [[]]) (k := parR rs i) (by omega)
    obtain ⟨h1, h2⟩ := List.getElem?_eq_some_iff.1 hat
    have h3 : (gs.getD (parR rs i) 0, (nnR (rs.getD (parR rs i) dR)).nd (((stR rs i ++ [[]]).getD (parR rs i) []).map (phi gs))) = (nodesL rs gs (stR rs i ++ [[]]))[parR rs i] := h2.symm
    rw [h3]
    exact List.set_getElem_self h1
  | false =>
    have e1 : stR rs (i + 1) = (stR rs i ++ [[]]).set (parR rs i) (setI ((stR rs i).getD (parR rs i) []) (rs.getD i dR).b i) := by
      conv => lhs; unfold stR
      rw [if_neg]
      rintro (q | q)
      · exact h0 q
      · rw [hlf] at q; cases q
    have e2 : nSetKid ((nnR (rs.getD (parR rs i) dR)).nd (((stR rs i ++ [[]]).getD (parR rs i) []).map (phi gs))) 1 (rs.getD i dR).b (some ⟨gs.getD i 0, 0, none⟩) = (nnR (rs.getD (parR rs i) dR)).nd ((setI ((stR rs i).getD (parR rs i) []) (rs.getD i dR).b i).map (phi gs)) := by
      generalize rs.getD (parR rs i) dR = r at hlf
      unfold nSetKid
      rw [if_pos (by simp [nnR, hlf, mineB])]
      show (nnR r).nd (setE _ _ _) = _
      rw [set_phi, getD_snoc]
    rw [e1, e2]
    refine List.ext_getElem? fun k => ?_
    rw [List.getElem?_set]
    by_cases hk : parR rs i = k
    · subst hk
      rw [if_pos rfl, if_pos (by unfold nodesL; rw [List.length_map, List.length_range]; omega), nodesL_at (by rw [List.length_set]; omega)]
      unfold nodeAt
      rw [getD_set, if_pos ⟨rfl, by omega⟩]
    · rw [if_neg hk]
      by_cases hk2 : k < i + 1
      · rw [nodesL_at (by omega), nodesL_at (by rw [List.length_set]; omega)]
        unfold nodeAt
        rw [getD_set, if_neg (fun q => hk q.1)]
      · rw [List.getElem?_eq_none (by unfold nodesL; simp; omega), List.getElem?_eq_none (by unfold nodesL; simp; omega)]

/-- The tree at a place. -/
def mkG (rs : List Rw) (c : Nat → Fo) : List (UInt8 × Nat) → Fo
  | [] => .nil
  | (b, j) :: es => .cons b (nnR (rs.getD j dR)) (c j) (mkG rs c es)
def growF (rs : List Rw) (n : Nat) : Nat → Nat → Fo
  | 0, _ => .nil
  | f + 1, k => mkG rs (growF rs n f) ((stR rs n).getD k [])
theorem root_wf {rs : List Rw} {n : Nat} (f k : Nat) (h1 : k < n) (h2 : n ≤ k + f) : wfN 1 (nnR (rs.getD k dR)) (growF rs n f k) := by
  have hm := stR_mem rs n k
  obtain ⟨f', rfl⟩ : ∃ f', f = f' + 1 := ⟨f - 1, by omega⟩
  unfold growF
  generalize rs.getD k dR = r at hm ⊢
  refine ⟨fun hl => ⟨?_, ?_⟩, fun hh => ?_, rfl⟩
  · rcases hes : (stR rs n).getD k [] with _ | ⟨e, es⟩
    · rfl
    · have := (hm e (by rw [hes]; simp)).2.2.2
      rw [show (nnR r).leaf = r.leaf from rfl, this] at hl
      cases hl
  · have : r.leaf = true := hl
    simp [nnR, this]
  · have : (r.leaf || r.has) = false := hh
    simp only [nnR, this]
    rfl
section
variable {w : World} {B : Nat} {N : Nat → Prop} {rs : List Rw} {gs : List Nat} {n : Nat} (h : Ns w B N (nodesL rs gs (stR rs n)))
include h
theorem node_nod {k : Nat} (hk : k < n) : ∃ b A, Nod w (gs.getD k 0) ((nnR (rs.getD k dR)).nd (((stR rs n).getD k []).map (phi gs))) b A := h.at_ (nodesL_at (by rw [stR_len]; exact hk))
theorem grow_is : ∀ (f k : Nat), k < n → n ≤ k + f → (growF rs n f k).Is w (· < w.heap.size) (((stR rs n).getD k []).map (phi gs))
  | 0, k, h1, h2 => by omega
  | f + 1, k, h1, h2 => by
    have hm := stR_mem rs n k
    unfold growF
    generalize (stR rs n).getD k [] = es at hm ⊢
    induction es with
    | nil => rfl
    | cons e es ih =>
      obtain ⟨b, j⟩ := e
      have hj := hm (b, j) (List.mem_cons_self ..)
      obtain ⟨be, A, hn⟩ := node_nod h (k := j) hj.2.1
      exact ⟨gs.getD j 0, be, A, _, _, rfl, hn, fun i hi => hi.elim (fun q => hn.lt q) (fun q => hn.ltA q), grow_is f j hj.2.1 (by have := hj.1; dsimp only at this; omega), ih (fun e he => hm e (List.mem_cons_of_mem _ he))⟩
theorem grow_tre (hn : 0 < n) : OTre w (· < w.heap.size) (some (nnR (rs.getD 0 dR), growF rs n n 0)) (some ⟨gs.getD 0 0, 0, none⟩) := by
  obtain ⟨be, A, hx⟩ := node_nod h hn
  exact ⟨_, rfl, be, A, _, hx, fun i hi => hi.elim (fun q => hx.lt q) (fun q => hx.ltA q), grow_is h n 0 hn (by omega)⟩
/-- Each node's kids' bytes rise. -/
theorem st_rise {k : Nat} (hk : k < n) : ((stR rs n).getD k []).Pairwise fun a b => a.1.toNat < b.1.toNat := by
  obtain ⟨be, A, hx⟩ := node_nod h hk
  have hu : Up (((stR rs n).getD k []).map (phi gs)) := hx.up
  rw [List.pairwise_iff_getElem]
  intro i j hi hj hij
  have e1 : (((stR rs n).getD k []).map (phi gs))[i]? = some (phi gs ((stR rs n).getD k [])[i]) := by rw [List.getElem?_map, List.getElem?_eq_getElem hi]; rfl
  have e2 : (((stR rs n).getD k []).map (phi gs))[j]? = some (phi gs ((stR rs n).getD k [])[j]) := by rw [List.getElem?_map, List.getElem?_eq_getElem hj]; rfl
  exact hu.at_ hij e1 e2
theorem grow_wf : ∀ (f k : Nat), k < n → n ≤ k + f → (growF rs n f k).wf 1
  | 0, k, h1, h2 => by omega
  | f + 1, k, h1, h2 => by
    have hm := stR_mem rs n k
    have hr := st_rise h h1
    unfold growF
    generalize (stR rs n).getD k [] = es at hm hr ⊢
    induction es with
    | nil => trivial
    | cons e es ih =>
      obtain ⟨b, j⟩ := e
      obtain ⟨r1, r2⟩ := List.pairwise_cons.1 hr
      have hj := hm (b, j) (List.mem_cons_self ..)
      refine ⟨?_, ?_, grow_wf f j hj.2.1 (by have := hj.1; dsimp only at this; omega), ih (fun e he => hm e (List.mem_cons_of_mem _ he)) r2⟩
      · cases es with
        | nil => trivial
        | cons e' es' => exact r1 e' (List.mem_cons_self ..)
      · exact root_wf f j hj.2.1 (by have := hj.1; dsimp only at this; omega)
end
end Go.Proofs.YtikmcmoegigfhaaGreatDoor

namespace Go.Proofs.YtikmcmoegigfhaaGreatDoor
open Go.RowKit

theorem stR_par (rs : List Rw) : ∀ i k, ∀ e ∈ (stR rs i).getD k [], parR rs e.2 = k
  | 0, k, e, he => by simp [stR] at he
  | i + 1, k, e, he => by
    unfold stR at he
    split at he
    · rw [getD_snoc] at he
      exact stR_par rs i k e he
    · rw [getD_set, getD_snoc] at he
      split at he
      · rename_i hq
        rw [hq.1] at he
        rcases mem_setI he with q | q
        · exact stR_par rs i k e q
        · subst q; exact hq.1
      · exact stR_par rs i k e he

def sumG (g : Nat → Nat) (P : Nat → Bool) : Nat → Nat → Nat
  | _, 0 => 0
  | i, c + 1 => (if P i = true then g i else 0) + sumG g P (i + 1) c
theorem sum_erase (g : Nat → Nat) {a : Nat} : ∀ {l : List Nat}, a ∈ l → (l.map g).sum = g a + ((l.erase a).map g).sum
  | [], h => by cases h
  | b :: l, h => by
    rw [List.erase_cons]
    by_cases hb : b = a
    · subst hb; simp
    · have hm : a ∈ l := by
        rcases List.mem_cons.1 h with q | q
        · exact absurd q.symm hb
        · exact q
      rw [if_neg (by simpa using hb)]
      simp only [List.map_cons, List.sum_cons, sum_erase g hm]
      omega
theorem sumG_le (g : Nat → Nat) (P : Nat → Bool) : ∀ (c i : Nat) (l : List Nat), l.Nodup → (∀ j ∈ l, i ≤ j ∧ j < i + c ∧ P j = true) → (l.map g).sum ≤ sumG g P i c
  | 0, i, l, _, h => by
    cases l with
    | nil => exact Nat.le_refl _
    | cons j l => have := h j (by simp); omega
  | c + 1, i, l, hd, h => by
    unfold sumG
    by_cases hi : i ∈ l
    · rw [sum_erase g hi, if_pos (h i hi).2.2]
      have := sumG_le g P c (i + 1) (l.erase i) (hd.erase _) (fun j hj => by
        have hj2 := (List.Nodup.mem_erase_iff hd).1 hj
        have h3 := h j hj2.2
        have h4 := hj2.1
        exact ⟨by omega, by omega, h3.2.2⟩)
      omega
    · have := sumG_le g P c (i + 1) l hd (fun j hj => by
        have h3 := h j hj
        have : j ≠ i := fun q => hi (q ▸ hj)
        exact ⟨by omega, by omega, h3.2.2⟩)
      omega
theorem sum_two (g : Nat → Nat) (P Q R : Nat → Bool) : ∀ c i, (∀ j, i ≤ j → (if P j = true then g j else 0) + (if Q j = true then g j else 0) ≤ (if R j = true then g j else 0)) → sumG g P i c + sumG g Q i c ≤ sumG g R i c
  | 0, _, _ => Nat.le_refl _
  | c + 1, i, h => by
    have h1 := h i (Nat.le_refl _)
    have h2 := sum_two g P Q R c (i + 1) (fun j hj => h j (by omega))
    unfold sumG
    omega
theorem mkG_tn (rs : List Rw) (c : Nat → Fo) : ∀ es, (mkG rs c es).tn = ((es.map Prod.snd).map fun j => 1 + (c j).tn).sum
  | [] => rfl
  | (b, j) :: es => by
    simp only [mkG, Fo.tn, mkG_tn rs c es, List.map_cons, List.sum_cons]
theorem mkG_congr (rs : List Rw) {c c' : Nat → Fo} : ∀ {es : List (UInt8 × Nat)}, (∀ e ∈ es, c e.2 = c' e.2) → mkG rs c es = mkG rs c' es
  | [], _ => rfl
  | (b, j) :: es, h => by
    simp only [mkG]
    rw [h (b, j) (List.mem_cons_self ..), mkG_congr rs (fun e he => h e (List.mem_cons_of_mem _ he))]
theorem growF_fuel {rs : List Rw} {n : Nat} : ∀ f f' k, k < n → n ≤ k + f → n ≤ k + f' → growF rs n f k = growF rs n f' k
  | 0, _, _, h1, h2, _ => by omega
  | _ + 1, 0, _, h1, _, h3 => by omega
  | f + 1, f' + 1, k, h1, h2, h3 => by
    unfold growF
    exact mkG_congr rs fun e he => by
      have hm := stR_mem rs n k e he
      exact growF_fuel f f' e.2 hm.2.1 (by omega) (by omega)
/-- How many nodes the tree at k has. -/
def gT (rs : List Rw) (n k : Nat) : Nat := 1 + (growF rs n (n - k) k).tn
section
variable {rs : List Rw} {n : Nat} (hr : ∀ k, k < n → ((stR rs n).getD k []).Pairwise fun a b => a.1.toNat < b.1.toNat)
include hr
theorem st_nodup {k : Nat} (hk : k < n) : (((stR rs n).getD k []).map Prod.snd).Nodup := by
  unfold List.Nodup
  rw [List.pairwise_map]
  refine List.Pairwise.imp_of_mem ?_ (hr k hk)
  intro a b ha hb hab e
  have h1 := (stR_mem rs n k a ha).2.2.1
  have h2 := (stR_mem rs n k b hb).2.2.1
  rw [h1, h2, e] at hab
  omega
theorem gT_le {k : Nat} (hk : k < n) : gT rs n k ≤ 1 + sumG (gT rs n) (fun j => decide (parR rs j = k)) (k + 1) (n - (k + 1)) := by
  obtain ⟨f, hf⟩ : ∃ f, n - k = f + 1 := ⟨n - k - 1, by omega⟩
  have e : (growF rs n (n - k) k).tn = ((((stR rs n).getD k []).map Prod.snd).map (gT rs n)).sum := by
    rw [hf]
    unfold growF
    rw [mkG_tn]
    congr 1
    refine List.map_congr_left fun j hj => ?_
    obtain ⟨e, he, rfl⟩ := List.mem_map.1 hj
    have hm := stR_mem rs n k e he
    unfold gT
    rw [growF_fuel f (n - e.2) e.2 hm.2.1 (by omega) (by omega)]
  have h1 := sumG_le (gT rs n) (fun j => decide (parR rs j = k)) (n - (k + 1)) (k + 1) _ (st_nodup hr hk) (fun j hj => by
    obtain ⟨e, he, rfl⟩ := List.mem_map.1 hj
    have hm := stR_mem rs n k e he
    exact ⟨by omega, by omega, decide_eq_true (stR_par rs n k e he)⟩)
  rw [show gT rs n k = 1 + (growF rs n (n - k) k).tn from rfl, e]
  omega
theorem gT_all : ∀ c i, i + c = n → sumG (gT rs n) (fun j => decide (parR rs j < i)) i c ≤ c
  | 0, i, _ => Nat.le_refl _
  | c + 1, i, hic => by
    have h1 := gT_le hr (k := i) (by omega)
    rw [show n - (i + 1) = c by omega] at h1
    have h2 := gT_all c (i + 1) (by omega)
    have h3 := sum_two (gT rs n) (fun j => decide (parR rs j < i)) (fun j => decide (parR rs j = i)) (fun j => decide (parR rs j < i + 1)) c (i + 1) (fun j _ => by
      simp only [decide_eq_true_eq]
      rcases Nat.lt_trichotomy (parR rs j) i with q | q | q
      · rw [if_pos q, if_neg (by omega), if_pos (by omega)]; omega
      · rw [if_neg (by omega), if_pos q, if_pos (by omega)]; omega
      · rw [if_neg (by omega), if_neg (by omega)]; omega)
    unfold sumG
    split <;> omega
theorem gT_root (hn : 0 < n) : 1 + (growF rs n n 0).tn ≤ n := by
  have h1 := gT_le hr hn
  have h2 := gT_all hr (n - 1) 1 (by omega)
  have e : (fun j => decide (parR rs j = 0)) = (fun j => decide (parR rs j < 1)) := funext fun j => decide_eq_decide.2 (by omega)
  rw [e] at h1
  have h3 : gT rs n 0 = 1 + (growF rs n n 0).tn := rfl
  simp only [Nat.zero_add] at h1
  omega
end
theorem grow_vis {rs : List Rw} {n : Nat} (hp : ∀ j, (rs.getD j dR).part.length ≤ 300) : ∀ (f k : Nat) (pw : List UInt8) (d : Nat) (v : Vt), v ∈ (growF rs n f k).vis pw d → v.way.length ≤ pw.length + 301 * f ∧ v.deep + 1 ≤ d + f
  | 0, k, pw, d, v, hv => by cases hv
  | f + 1, k, pw, d, v, hv => by
    unfold growF at hv
    generalize (stR rs n).getD k [] = es at hv
    induction es with
    | nil => cases hv
    | cons e es ih =>
      obtain ⟨b, j⟩ := e
      simp only [mkG, Fo.vis, List.mem_cons, List.mem_append] at hv
      have h1 : (nnR (rs.getD j dR)).part.length ≤ 300 := hp j
      rcases hv with rfl | hv | hv
      · refine ⟨?_, ?_⟩
        · show (pw ++ [b] ++ (nnR (rs.getD j dR)).part).length ≤ _
          rw [List.length_append, List.length_append, List.length_singleton]; omega
        · show d + 1 ≤ d + (f + 1)
          omega
      · have := grow_vis hp f j _ _ v hv
        rw [List.length_append, List.length_append, List.length_singleton] at this
        omega
      · exact ih hv
theorem grow_ok {rs : List Rw} {n : Nat} (ho : ∀ j, (nnR (rs.getD j dR)).ok) : ∀ f k, (growF rs n f k).ok
  | 0, _ => trivial
  | f + 1, k => by
    unfold growF
    generalize (stR rs n).getD k [] = es
    induction es with
    | nil => trivial
    | cons e es ih => exact ⟨ho e.2, grow_ok ho f e.2, ih⟩
theorem shL_len {x : Nn} {k : Fo} (hx : x.ok) {m : Nat} (hm : k.sh.length ≤ m) : (shL x k).length ≤ 140043 + m := by
  have h1 : (begL x k.len).length ≤ 21 := by
    unfold begL
    split
    · simp
    · have hk : kindN k.len ≤ 256 := by unfold kindN; split <;> (try split) <;> (try split) <;> omega
      have := dec_len (kindN k.len) (by omega)
      rw [List.length_append, List.length_singleton]
      omega
  have h2 : (valL x).length ≤ 21 := by
    unfold valL
    split
    · have := hx.2.2
      have := dec_len x.val.toNat (by omega)
      rw [List.length_cons]
      omega
    · simp
  have h3 : (endL x).length ≤ 1 := by unfold endL; split <;> simp
  have h4 := hx.1
  have h5 := textL_length x.part
  unfold shL
  simp only [List.length_append]
  omega
theorem sh_len : ∀ (f : Fo), f.ok → f.sh.length ≤ 140046 * f.tn
  | .nil, _ => Nat.le_refl _
  | .cons b x k r, ⟨h1, h2, h3⟩ => by
    have e1 := shL_len h1 (sh_len k h2)
    have e2 := sh_len r h3
    have e3 := textL_length [b]
    rw [Fo.sh_cons]
    simp only [List.length_append, List.length_cons, List.length_nil] at e3 ⊢
    simp only [Fo.tn]
    omega
theorem oshL_len {x : Nn} {k : Fo} (hx : x.ok) (hk : k.ok) {m : Nat} (hm : 1 + k.tn ≤ m) : (oshL (some (x, k))).length ≤ 140046 * m := by
  have e1 := shL_len hx (sh_len k hk)
  show (shL x k).length ≤ _
  have : 140046 * (1 + k.tn) ≤ 140046 * m := Nat.mul_le_mul_left _ hm
  omega

theorem gput_mem {b : UInt8} {p : KV} : ∀ {gs : List (UInt8 × List KV)} {x : UInt8 × List KV} {u : KV}, x ∈ gput b p gs → u ∈ x.2 → (x.1 = b ∧ u = p) ∨ ∃ y ∈ gs, y.1 = x.1 ∧ u ∈ y.2
  | [], x, u, hx, hu => by
    simp only [gput, List.mem_singleton] at hx
    subst hx
    exact .inl ⟨rfl, List.mem_singleton.1 hu⟩
  | (b', g) :: gs, x, u, hx, hu => by
    simp only [gput] at hx
    by_cases hb : b = b'
    · rw [if_pos hb] at hx
      rcases List.mem_cons.1 hx with q | q
      · subst q
        rcases List.mem_cons.1 hu with r | r
        · exact .inl ⟨rfl, r⟩
        · exact .inr ⟨_, List.mem_cons_self .., hb.symm, r⟩
      · exact .inr ⟨x, List.mem_cons_of_mem _ q, rfl, hu⟩
    · rw [if_neg hb] at hx
      rcases List.mem_cons.1 hx with q | q
      · subst q
        exact .inl ⟨rfl, List.mem_singleton.1 hu⟩
      · exact .inr ⟨x, q, rfl, hu⟩
theorem grp_mem : ∀ {L : List KV} {x : UInt8 × List KV} {u : KV}, x ∈ grp L → u ∈ x.2 → (x.1 :: u.1, u.2) ∈ L
  | [], x, u, hx, _ => by cases hx
  | (b :: k, v) :: r, x, u, hx, hu => by
    unfold grp at hx
    rcases gput_mem hx hu with ⟨e1, e2⟩ | ⟨y, hy, e, hu'⟩
    · subst e2; rw [e1]; exact List.mem_cons_self ..
    · rw [← e]; exact List.mem_cons_of_mem _ (grp_mem hy hu')
  | ([], _) :: r, x, u, hx, hu => List.mem_cons_of_mem _ (grp_mem (by unfold grp at hx; exact hx) hu)
theorem mkF_ok {c : List KV → Nn × Fo} : ∀ {gs : List (UInt8 × List KV)}, (∀ x ∈ gs, (c x.2).1.ok ∧ (c x.2).2.ok) → (mkF c gs).ok
  | [], _ => trivial
  | (b, g) :: _, h => ⟨(h (b, g) (List.mem_cons_self ..)).1, (h (b, g) (List.mem_cons_self ..)).2, mkF_ok fun x hx => h x (List.mem_cons_of_mem _ hx)⟩
def okP (p : KV) : Prop := p.1.length ≤ 70000 ∧ 0 ≤ p.2 ∧ p.2 ≤ 18446744073709551615
theorem cT_ok (o : Int) : ∀ (f : Nat) (L : List KV), (∀ p ∈ L, okP p) → (cT o f L).1.ok ∧ (cT o f L).2.ok
  | 0, [], _ => ⟨⟨by simp [cT], by simp [cT], by simp [cT]⟩, trivial⟩
  | _ + 1, [], _ => ⟨⟨by simp [cT], by simp [cT], by simp [cT]⟩, trivial⟩
  | 0, p :: L, h => ⟨h p (List.mem_cons_self ..), trivial⟩
  | _ + 1, [p], h => ⟨h p (List.mem_cons_self ..), trivial⟩
  | f + 1, p :: q :: r, h => by
    have hp := h p (List.mem_cons_self ..)
    have hc : ∀ (e : Nat) (L : List KV), (∀ u ∈ L, okP u) → (mkF (cT o f) (grp (cut e L))).ok := fun e L hL => mkF_ok fun x hx => cT_ok o f x.2 fun u hu => by
      have hm := grp_mem hx hu
      obtain ⟨v, hv, hq⟩ := List.mem_map.1 hm
      obtain ⟨e1, h2⟩ := Prod.mk.inj hq
      have h1 := congrArg List.length e1
      have h3 := hL v hv
      simp only [List.length_drop, List.length_cons] at h1
      exact ⟨by have := h3.1; omega, h2 ▸ h3.2⟩
    unfold cT
    simp only
    split
    · exact ⟨⟨by have := hp.1; show (List.take _ _).length ≤ _; rw [List.length_take]; omega, hp.2⟩, hc _ _ fun u hu => h u (List.mem_cons_of_mem _ hu)⟩
    · exact ⟨⟨by have := hp.1; show (List.take _ _).length ≤ _; rw [List.length_take]; omega, Int.le_refl _, (by decide : (0 : Int) ≤ 18446744073709551615)⟩, hc _ _ h⟩

/-- A tree that is fine is canonical. -/
theorem Fo.fine_good {o : Int} : ∀ (f : Fo) (pw : List UInt8) (d : Nat), f.wf o → (∀ v ∈ f.vis pw d, v.fine = true) → f.good
  | .nil, _, _, _, _ => trivial
  | .cons b x k r, pw, d, ⟨_, h2, h3, h4⟩, hv => by
    refine ⟨?_, Fo.fine_good k _ _ h3 fun v h => hv v (by simp only [Fo.vis, List.mem_cons, List.mem_append]; exact .inr (.inl h)), Fo.fine_good r _ _ h4 fun v h => hv v (by simp only [Fo.vis, List.mem_cons, List.mem_append]; exact .inr (.inr h))⟩
    have := hv _ (by simp only [Fo.vis]; exact List.mem_cons_self ..)
    unfold okN
    cases hl : x.leaf with
    | true => exact h2.1 hl
    | false =>
      simp only [Bool.false_eq_true, if_false]
      unfold Vt.fine Vt.occ at this
      rw [hl] at this
      simp only [Bool.false_or, Bool.and_eq_true, decide_eq_true_eq] at this
      exact this.2
theorem tree_fine_good {o : Int} {x : Nn} {k : Fo} (hx : wfN o x k) (hk : k.wf o) (h : (otvis (some (x, k))).all Vt.fine = true) : tgood x k := by
  rw [List.all_eq_true] at h
  refine ⟨?_, Fo.fine_good k _ _ hk fun v hv => h v (List.mem_cons_of_mem _ hv)⟩
  have := h _ (List.mem_cons_self ..)
  unfold okN
  cases hl : x.leaf with
  | true => exact hx.1 hl
  | false =>
    simp only [Bool.false_eq_true, if_false]
    unfold Vt.fine Vt.occ at this
    rw [hl] at this
    simp only [Bool.false_or, Bool.and_eq_true, decide_eq_true_eq] at this
    exact this.2
theorem Fo.good_lf : ∀ {f : Fo}, f.good → f.lf
  | .nil, _ => trivial
  | .cons b x k r, ⟨h1, h2, h3⟩ => ⟨fun hl => by unfold okN at h1; rw [hl] at h1; exact h1, Fo.good_lf h2, Fo.good_lf h3⟩
theorem okN_lf {x : Nn} {k : Fo} (h : okN x k) : lfN x k := fun hl => by unfold okN at h; rw [hl] at h; exact h
theorem shL_dot {x : Nn} {k : Fo} : shL x k ≠ [46] := by
  unfold shL begL
  cases x.leaf with
  | true => intro h; simp at h
  | false =>
    rcases hd : Lib.decDigits (kindN k.len) with _ | ⟨c, r⟩
    · exact absurd hd (dec_ne _)
    · intro h
      have hc := dec_isD (kindN k.len) c (by rw [hd]; exact List.mem_cons_self ..)
      simp only [Bool.false_eq_true, if_false, List.cons_append] at h
      have := (List.cons.inj h).1
      subst this
      have h9 : (46 : UInt8).toNat = 46 := rfl
      unfold isD at hc
      omega
/-- A tree is fine just if its shape is that of the canonical tree of its pairs. -/
theorem fine_shape {o : Int} {x : Nn} {k : Fo} (hx : wfN o x k) (hk : k.wf o) (o' : Int) (f : Nat) (hf : ∀ p ∈ tlist x k [], p.1.length < f) (hM : ∀ p ∈ tlist x k [], p.1.length ≤ 65535) :
    (otvis (some (x, k))).all Vt.fine = true ↔ oshL (some (x, k)) = oshL (bTr o' f (tlist x k [])) := by
  constructor
  · intro h
    have hg := tree_fine_good hx hk h
    have hne := tgood_ne hg
    have hc := canon_is hx hk hg f hf
    have hl := cT_like o o' f (tlist x k [])
    rw [hc] at hl
    unfold bTr
    rw [if_neg hne]
    exact shL_like hl.1 hl.2
  · intro h
    unfold bTr at h
    split at h
    · exact absurd h shL_dot
    · rename_i hne
      have hs := cT_spec o' f (tlist x k []) hne (tree_rise hk (Fo.rise hk)) hf
      generalize cT o' f (tlist x k []) = T at hs h
      obtain ⟨y, l⟩ := T
      have hg : tgood y l := hs.2
      obtain ⟨h1, h2⟩ := shape_eq (okN_lf hg.1) (Fo.good_lf hg.2) hx.1 (Fo.wf_lf hk) (show shL y l = shL x k from h.symm)
      have hgx : tgood x k := ⟨okN_like h1 h2 hg.1, Fo.good_like h2 hg.2⟩
      exact CanF.fine (T := (x, k)) (L := tlist x k []) ⟨rfl, hgx⟩ hM
theorem can_fine {o : Int} {x : Nn} {k : Fo} (hk : k.wf o) (o' : Int) (f : Nat) (hf : ∀ p ∈ tlist x k [], p.1.length < f) (hM : ∀ p ∈ tlist x k [], p.1.length ≤ 65535) :
    (otvis (bTr o' f (tlist x k []))).all Vt.fine = true := by
  unfold bTr
  split
  · rfl
  · rename_i hne
    have hs := cT_spec o' f (tlist x k []) hne (tree_rise hk (Fo.rise hk)) hf
    exact CanF.fine (T := cT o' f (tlist x k [])) (L := tlist x k []) ⟨by have := hs.1 []; simpa using this, hs.2⟩ hM
/-- How great the canonical tree is. -/
theorem can_fits {o : Int} {x : Nn} {k : Fo} (hk : k.wf o) (o' : Int) (f : Nat) (hf : ∀ p ∈ tlist x k [], p.1.length < f) (hM : ∀ p ∈ tlist x k [], okP p) (hL : (tlist x k []).length ≤ 24) :
    Fits (bTr o' f (tlist x k [])) ∧ ook (bTr o' f (tlist x k [])) ∧ (oshL (bTr o' f (tlist x k []))).length ≤ 10000000 ∧ otn (bTr o' f (tlist x k [])) ≤ 48 := by
  unfold bTr
  split
  · exact ⟨⟨fun v hv => (by cases hv), by decide⟩, trivial, by decide, by decide⟩
  · rename_i hne
    have hs := cT_spec o' f (tlist x k []) hne (tree_rise hk (Fo.rise hk)) hf
    have hF : CanF (tlist x k []) (cT o' f (tlist x k [])) := ⟨by have := hs.1 []; simpa using this, hs.2⟩
    have hok := cT_ok o' f (tlist x k []) hM
    have h1 := hF.points
    have h2 := hF.nodes
    have h3 := hF.fits (fun p hp => by have := (hM p hp).1; omega) (by omega)
    refine ⟨h3, hok, ?_, by show tnT _ ≤ _; omega⟩
    have h4 := oshL_len hok.1 hok.2 (m := 48) (by unfold tnT at h2; omega)
    show (oshL (some ((cT o' f (tlist x k [])).1, (cT o' f (tlist x k [])).2))).length ≤ _
    omega

theorem Fo.vis_ok : ∀ (f : Fo) (pw : List UInt8) (d : Nat), f.ok → ∀ v ∈ f.vis pw d, v.x.ok
  | .nil, _, _, _, v, hv => by cases hv
  | .cons b x k r, pw, d, ⟨h1, h2, h3⟩, v, hv => by
    simp only [Fo.vis, List.mem_cons, List.mem_append] at hv
    rcases hv with rfl | hv | hv
    · exact h1
    · exact Fo.vis_ok k _ _ h2 v hv
    · exact Fo.vis_ok r _ _ h3 v hv
theorem list_way {x : Nn} {k : Fo} {p : KV} (h : p ∈ tlist x k []) : ∃ v ∈ tvis x k [] 1, v.way = p.1 ∧ v.x.val = p.2 := by
  have h1 : (p.1, [Value.int .u64 p.2]) ∈ listV (tvis x k [] 1) := by rw [tvis_list]; exact List.mem_map.2 ⟨p, h, rfl⟩
  unfold listV at h1
  obtain ⟨v, hv, hq⟩ := List.mem_filterMap.1 h1
  split at hq
  · injection hq with hq
    injection hq with e1 e2
    simp only [List.cons.injEq, Value.int.injEq, true_and, and_true] at e2
    exact ⟨v, hv, e1, e2⟩
  · cases hq
/-- What is known of the tree that is told node by node. -/
structure Grown (x : Nn) (k : Fo) : Prop where
  top : wfN 1 x k
  wf : k.wf 1
  fits : Fits (some (x, k))
  ok : ook (some (x, k))
  sh : (oshL (some (x, k))).length ≤ 10000000
  keys : ∀ p ∈ tlist x k [], okP p ∧ p.1.length ≤ 7524
  many : (tlist x k []).length ≤ 24
theorem grown_all {w : World} {B : Nat} {N : Nat → Prop} {rs : List Rw} {gs : List Nat} {n : Nat} (h : Ns w B N (nodesL rs gs (stR rs n))) (hn : 0 < n) (hn24 : n ≤ 24) (hp : ∀ r ∈ rs, r.part.length ≤ 300 ∧ 0 ≤ r.val ∧ r.val ≤ 18446744073709551615) :
    Grown (nnR (rs.getD 0 dR)) (growF rs n n 0) := by
  have hd : ∀ j, (rs.getD j dR).part.length ≤ 300 ∧ 0 ≤ (rs.getD j dR).val ∧ (rs.getD j dR).val ≤ 18446744073709551615 := fun j => by
    rw [List.getD_eq_getElem?_getD]
    rcases hj : rs[j]? with _ | r
    · exact ⟨Nat.zero_le _, Int.le_refl _, (by decide : (0 : Int) ≤ 18446744073709551615)⟩
    · exact hp r (List.mem_of_getElem? hj)
  have ho : ∀ j, (nnR (rs.getD j dR)).ok := fun j => by
    have := hd j
    generalize rs.getD j dR = r at this
    refine ⟨by show r.part.length ≤ _; omega, ?_, ?_⟩ <;> (show _ ≤ _; unfold nnR; simp only; split <;> omega)
  have hr := fun k hk => st_rise h (k := k) hk
  have htn := gT_root hr hn
  have hw := root_wf (rs := rs) n 0 hn (by omega)
  have hwf := grow_wf h n 0 hn (by omega)
  have hok := grow_ok (n := n) ho n 0
  have hv := grow_vis (rs := rs) (n := n) (fun j => (hd j).1) n 0
  have h0 := ho 0
  have hp0 : (nnR (rs.getD 0 dR)).part.length ≤ 300 := (hd 0).1
  generalize nnR (rs.getD 0 dR) = x at hw h0 hp0 ⊢
  generalize growF rs n n 0 = k at htn hw hwf hok hv ⊢
  have hvis : ∀ v ∈ tvis x k [] 1, v.way.length ≤ 7524 ∧ v.deep ≤ 25 := fun v hv' => by
    unfold tvis at hv'
    rcases List.mem_cons.1 hv' with rfl | q
    · exact ⟨by show ([] ++ x.part).length ≤ _; rw [List.nil_append]; omega, by show 1 ≤ 25; omega⟩
    · have := hv _ _ v q
      rw [List.nil_append] at this
      omega
  have hl := tvis_len x k [] 1
  refine ⟨hw, hwf, ⟨fun v hv' => by have := hvis v hv'; omega, by show (tvis x k [] 1).length ≤ _; omega⟩, ⟨h0, hok⟩, ?_, fun p hp' => ?_, ?_⟩
  · have := oshL_len h0 hok (m := 24) (by omega)
    omega
  · obtain ⟨v, hv', e1, e2⟩ := list_way hp'
    have h1 := hvis v hv'
    rw [e1] at h1
    have h2 : v.x.ok := by
      unfold tvis at hv'
      rcases List.mem_cons.1 hv' with rfl | r
      · exact h0
      · exact Fo.vis_ok k _ _ hok v r
    exact ⟨⟨by omega, e2 ▸ h2.2⟩, h1.1⟩
  · have h1 := congrArg List.length (tvis_list x k [] 1)
    rw [List.length_map, listV_len] at h1
    have h2 := cntV_le (tvis x k [] 1)
    omega

end Go.Proofs.YtikmcmoegigfhaaGreatDoor
