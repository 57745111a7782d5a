/-
  What the calls of package canon tell of a canonical tree; how pairs that came in are read; pairs beside a meter.
  What a list of pairs is that was collected; a row that is kept.
  Trees that are told node by node: how they are read, what nodes and kids they come to.
  The tree that is told node by node: its nodes' kids, the tree, where it lies, how great it is.
  How great the tree is that is told node by node; what its shape tells. No program is run.
  The law's own raws: the tree that is told node by node, as the program's own calls make it.
-/
import Derived.Test.YtajpipaooaemdaaGreatDoorShapeP
import Derived.Test.YtajpipaooaemdaaGreatDoorBuild
import Derived.Test.YtajpipaooaemdaaGreatDoorCnLaw
import Derived.Test.YtajpipaooaemdaaGreatDoorRow
import Derived.Test.YtajpipaooaemdaaGreatDoorSort
import Derived.Deep.Slices
import Derived.Test.YtajpipaooaemdaaGreatDoorCanRead
import Derived.Test.YtajpipaooaemdaaGreatDoorTree
import Derived.Test.YtajpipaooaemdaaGreatDoorNdWrite
import Derived.Deep.RegionHeld3
import Derived.IntWalk
import Derived.Deep.CutBlock
import Derived.Deep.DeepCutAuto
namespace Go.Proofs.YtajpipaooaemdaaGreatDoor
open Go.ChangeShapes Go.WideShapes Go.ChangeAt Go.RowKit

theorem dpV_most {vs : List Vt} {M : Nat} (h : ∀ v ∈ vs, v.deep ≤ M) : dpV vs ≤ M := by
  unfold dpV
  have : ∀ (l : List Vt) (m : Nat), m ≤ M → (∀ v ∈ l, v.deep ≤ M) → l.foldl (fun m v => max m v.deep) m ≤ M := by
    intro l
    induction l with
    | nil => intro m hm _; exact hm
    | cons a r ih => intro m hm hl; exact ih _ (by have := hl a (by simp); show max m a.deep ≤ M; omega) (fun v hv => hl v (by simp [hv]))
  exact this vs 0 (Nat.zero_le _) h
theorem Fo.good_fine : ∀ (f : Fo) (pw : List UInt8) (d : Nat), f.good → ∀ v ∈ f.vis pw d, v.x.leaf = true ∨ 2 ≤ v.occ
  | .nil, _, _, _, v, hv => by cases hv
  | .cons b x k r, pw, d, ⟨h1, h2, h3⟩, v, hv => by
    simp only [Fo.vis, List.mem_cons, List.mem_append] at hv
    rcases hv with rfl | hv | hv
    · unfold okN at h1
      cases hl : x.leaf with
      | true => exact .inl rfl
      | false =>
        rw [hl] at h1
        simp only [Bool.false_eq_true, if_false] at h1
        exact .inr h1
    · exact Fo.good_fine k _ _ h2 v hv
    · exact Fo.good_fine r _ _ h3 v hv
theorem tgood_fine {x : Nn} {k : Fo} (h : tgood x k) (pw : List UInt8) (d : Nat) : ∀ v ∈ tvis x k pw d, v.x.leaf = true ∨ 2 ≤ v.occ := by
  obtain ⟨h1, h2⟩ := h
  intro v hv
  simp only [tvis, List.mem_cons] at hv
  rcases hv with rfl | hv
  · unfold okN at h1
    cases hl : x.leaf with
    | true => exact .inl rfl
    | false =>
      rw [hl] at h1
      simp only [Bool.false_eq_true, if_false] at h1
      exact .inr h1
  · exact Fo.good_fine k _ _ h2 v hv
theorem rsn_rel {ps : List PV} (h : Rsn ps) : Rise (rel 0 ps) := by
  rw [rel_zero]
  unfold Rise
  rw [List.pairwise_map]
  exact h
theorem rsn_keys {ps : List PV} (h : Rsn ps) : riseB (ps.map PV.key) = true := riseB_of (by rw [List.pairwise_map]; exact h)
/-- What is told of the canonical tree of pairs that rise. -/
structure CanF (L : List KV) (T : Nn × Fo) : Prop where
  list : tlist T.1 T.2 [] = L
  good : tgood T.1 T.2
theorem can_of (o : Int) {f : Nat} {ps : List PV} (hr : Rsn ps) (hne : ps ≠ []) (hf : ∀ p ∈ ps, p.key.length < f) : CanF (ps.map fun p => (p.key, p.val)) (cT o f (rel 0 ps)) := by
  have h := cT_spec o f (rel 0 ps) (by rw [rel_zero]; simpa using hne) (rsn_rel hr) (fun p hp => by
    rw [rel_zero] at hp
    obtain ⟨q, hq, rfl⟩ := List.mem_map.1 hp
    exact hf q hq)
  refine ⟨?_, h.2⟩
  rw [h.1, rel_zero]
  simp
section
variable {L : List KV} {T : Nn × Fo} (h : CanF L T)
include h
theorem CanF.points : (pointV (otvis (some T))).length + 1 ≤ L.length := by
  have := (tgood_points h.good [] 1).1
  rw [h.list] at this
  rw [pointV_len]
  exact this
theorem CanF.nodes : tnT T ≤ (pointV (otvis (some T))).length + L.length := by
  have := (tgood_points h.good [] 1).2
  rw [h.list, tvis_len] at this
  rw [pointV_len]
  exact this
theorem CanF.count : cntV (otvis (some T)) = L.length := by
  have := congrArg List.length (tvis_list T.1 T.2 [] 1)
  rw [h.list, List.length_map, listV_len] at this
  exact this
theorem CanF.way {M : Nat} (hM : ∀ p ∈ L, p.1.length ≤ M) : ∀ v ∈ otvis (some T), v.way.length ≤ M ∧ v.deep ≤ M + 1 := fun v hv => by
  obtain ⟨p, hp, hl⟩ := tgood_way h.good [] 1 v hv
  rw [h.list] at hp
  have h1 := tvis_deep hv
  have h2 := hM p hp
  omega
theorem CanF.depth {M : Nat} (hM : ∀ p ∈ L, p.1.length ≤ M) : dpV (otvis (some T)) ≤ M + 1 := dpV_most fun v hv => (h.way hM v hv).2
theorem CanF.fits (hM : ∀ p ∈ L, p.1.length ≤ 900000) (hL : L.length ≤ 400000) : Fits (some T) := by
  refine ⟨fun v hv => by have := h.way hM v hv; omega, ?_⟩
  have h1 := h.points
  have h2 := h.nodes
  have h3 := tvis_len T.1 T.2 [] 1
  show (tvis T.1 T.2 [] 1).length ≤ _
  unfold tnT at h2
  omega
theorem CanF.fine (hM : ∀ p ∈ L, p.1.length ≤ 65535) : (otvis (some T)).all Vt.fine = true := by
  rw [List.all_eq_true]
  intro v hv
  unfold Vt.fine
  rw [decide_eq_true (h.way hM v hv).1, Bool.true_and]
  rcases tgood_fine h.good [] 1 v hv with q | q
  · rw [q]; rfl
  · rw [decide_eq_true q, Bool.or_true]
theorem CanF.listed : listV (otvis (some T)) = L.map fun p => (p.1, [.int .u64 p.2]) := by
  have := tvis_list T.1 T.2 [] 1
  rw [h.list] at this
  exact this
end

set_option maxRecDepth 100000 in
theorem open_kps {H : Type} {enc : TypeId × Value → H} {W : World} {base : Nat} {v : Value} {d : DataW H} {p : List MemPlace}
    (hok : Value.okWide Tryz.prog W .any base 22 v) (h : DataW.Trod enc Tryz.prog W 0 (fun _ => true) true 22 v d p) :
    ∃ A n c ps, v = .slice A n c ∧ Prs W W.heap.size A n ps ∧ Kps W W.heap.size ps ∧ n ≤ c ∧ ∀ p ∈ ps, 0 ≤ p.val ∧ p.val ≤ 18446744073709551615 := by
  obtain ⟨a0, len0, cap0, rfl⟩ := okWide_slice Tryz.underlying22 hok
  obtain ⟨fuel, hf⟩ := h
  rcases Go.Deep.open_slice Tryz.underlying22 hf with ⟨hcs, _⟩ | ⟨a, len, cap, m, n, D, Pl, hcs, _, hl, hm, hmm, _, hi⟩
  · simp [Value.cells] at hcs
    obtain ⟨rfl, rfl, rfl⟩ := hcs
    exact ⟨none, 0, 0, [], rfl, Prs.none_, fun p hp => (by cases hp), Nat.le_refl _, fun p hp => (by cases hp)⟩
  · simp [Value.cells] at hcs
    obtain ⟨rfl, rfl, rfl⟩ := hcs
    simp only [if_true] at hmm
    subst hmm
    rw [cells_pair] at hi
    obtain ⟨ps, hps, hq⟩ := list_of (α := PV) (m := len0) (Q := fun j p => W.cell? (a.add (j * 2)) = some (.slice p.A p.n p.c) ∧ W.cell? (a.add (j * 2 + 1)) = some (.int .u64 p.val) ∧ Byt W W.heap.size p.A p.n p.key ∧ p.n ≤ p.c ∧ 0 ≤ p.val ∧ p.val ≤ 18446744073709551615) (fun j hj => by
      obtain ⟨cs', hc, ht'⟩ := hi j (by omega)
      obtain ⟨y0, y1, n', _, hlen, hy0, hy1⟩ := trod_struct2 Tryz.underlying53 ht'
      rw [cells_pair] at hlen
      obtain ⟨_, _, hat⟩ := World.cells?_some hc
      match cs', hlen with
      | [x0, x1], _ =>
        have e0 := hat 0 (by omega)
        have e1 := hat 1 (by omega)
        rw [cells_bytes] at hy0
        rw [cells_u64] at hy1
        simp at hy0 hy1
        obtain ⟨A, n, c, l, rfl, hb, hnc⟩ := trod_byt hy0
        obtain ⟨z, hz, _, hwf⟩ := DataW.trod_int Tryz.underlying24 hy1
        simp at hz
        subst hz
        refine ⟨⟨A, n, c, l, z⟩, ?_, ?_, hb, hnc, ?_⟩
        · have : (a.add (j * 2)).add 0 = a.add (j * 2) := by unfold Addr.add; simp
          rw [this] at e0
          simpa using e0
        · rw [add_of_add] at e1
          simpa using e1
        · have hz2 : 0 ≤ z ∧ z ≤ 18446744073709551615 := by simpa [Lit.wf, IntKind.min, IntKind.max, IntKind.signed, IntKind.bits] using hwf
          exact hz2)
    refine ⟨_, _, _, ps, rfl, ⟨hps, by omega, fun j p hj => (hq j p hj).2.2.1, fun hn => ⟨a, rfl, ?_, fun j p hj => ⟨(hq j p hj).1, (hq j p hj).2.1⟩⟩⟩, fun p hp => ?_, by omega, fun p hp => ?_⟩
    · have hp0 : ps[0]? = some (ps[0]'(by omega)) := List.getElem?_eq_getElem (by omega)
      have := lt_of_cell (hq 0 _ hp0).1
      rwa [block_of_add] at this
    · obtain ⟨j, hj⟩ := List.mem_iff_getElem?.1 hp
      exact ⟨(hq j p hj).2.2.1, (hq j p hj).2.2.2.1⟩
    · obtain ⟨j, hj⟩ := List.mem_iff_getElem?.1 hp
      exact (hq j p hj).2.2.2.2

end Go.Proofs.YtajpipaooaemdaaGreatDoor

namespace Go.Proofs.YtajpipaooaemdaaGreatDoor
open Go.RowKit

/-- Pairs that were listed are pairs. -/
theorem kys_pvs {w : World} {B : Nat} : ∀ {ys : List Ky} {L : List KV}, (∀ y ∈ ys, Byt w B y.A y.key.length y.key ∧ y.key.length ≤ y.c) → ys.map (fun y => (y.key, y.more)) = L.map (fun p => (p.1, [Value.int .u64 p.2])) →
    ∃ ps : List PV, ps.map pvc = ys.map Ky.cells ∧ Kps w B ps ∧ ps.map (fun p => (p.key, p.val)) = L
  | [], [], _, _ => ⟨[], rfl, fun _ h => (by cases h), rfl⟩
  | y :: ys, p :: L, h, e => by
    simp only [List.map_cons, List.cons.injEq, Prod.mk.injEq] at e
    obtain ⟨⟨e1, e2⟩, e3⟩ := e
    obtain ⟨ps, h1, h2, h3⟩ := kys_pvs (fun y hy => h y (List.mem_cons_of_mem _ hy)) e3
    have hy := h y (List.mem_cons_self ..)
    refine ⟨⟨y.A, y.key.length, y.c, y.key, p.2⟩ :: ps, ?_, fun q hq => ?_, ?_⟩
    · rw [List.map_cons, List.map_cons, h1]
      unfold Ky.cells
      rw [e2]
    · rcases List.mem_cons.1 hq with rfl | hq
      · exact hy
      · exact h2 q hq
    · rw [List.map_cons, h3, e1]
  | [], p :: L, _, e => by simp at e
  | y :: ys, [], _, e => by simp at e
theorem Kys.prs {w : World} {B : Nat} {A : Option Addr} {ys : List Ky} {L : List KV} (h : Kys w B A 2 ys) (e : ys.map (fun y => (y.key, y.more)) = L.map (fun p => (p.1, [Value.int .u64 p.2]))) :
    ∃ ps : List PV, Prs w B A ys.length ps ∧ Kps w B ps ∧ ps.map (fun p => (p.key, p.val)) = L := by
  obtain ⟨ps, h1, h2, h3⟩ := kys_pvs h.2 e
  have h4 := h.1
  rw [← h1] at h4
  exact ⟨ps, Prs.of_rws h4 h2, h2, h3⟩
theorem MineR.keptK {D : Nat → Prop} {w w' : World} {base k n : Nat} {e : TypeId} {v : Value} {css : List (List Value)} (h : MineR w base e k v n css) (hk : Kept D w w') (hD : ∀ i, v.ownBlock = some i → ¬ D i) : MineR w' base e k v n css := by
  refine ⟨⟨h.1.1, ?_⟩, h.2⟩
  rcases h.1.2 with q | ⟨g, cap, cur, rfl, h1, h2, h3⟩
  · exact .inl q
  · exact .inr ⟨g, cap, cur, rfl, h1, (hk.block g (Array.getElem?_eq_some_iff.1 h2).1 (hD g rfl)).trans h2, h3⟩
end Go.Proofs.YtajpipaooaemdaaGreatDoor

namespace Go.Proofs.YtajpipaooaemdaaGreatDoor
open Go.ChangeShapes Go.WideShapes Go.ChangeAt Go.RowKit

structure Rw where
  leaf : Bool
  A : Option Addr
  n : Nat
  c : Nat
  part : List UInt8
  has : Bool
  val : Int
  up : UInt8
  b : UInt8
def dR : Rw := ⟨true, none, 0, 0, [], true, 0, 0, 0⟩
def Rw.cells (r : Rw) : List Value := [.bool r.leaf, .slice r.A r.n r.c, .bool r.has, .int .u64 r.val, .int .u8 (r.up.toNat : Int), .int .u8 (r.b.toNat : Int)]
def Rzs (w : World) (B : Nat) (A : Option Addr) (n : Nat) (rs : List Rw) : Prop := Rws w B A n 6 (rs.map Rw.cells) ∧ ∀ r ∈ rs, Byt w B r.A r.n r.part ∧ r.n ≤ r.c ∧ 0 ≤ r.val ∧ r.val ≤ 18446744073709551615
section
variable {w w' : World} {B B' n : Nat} {A : Option Addr} {rs : List Rw}
theorem Rzs.none_ : Rzs w B A 0 [] := ⟨Rws.none_, fun _ h => by cases h⟩
theorem Rzs.length (h : Rzs w B A n rs) : rs.length = n := by have := h.1.1; simpa using this
theorem Rzs.below (h : Rzs w B A n rs) (hb : Below B w w') : Rzs w' B A n rs := ⟨h.1.below hb, fun r hr => ⟨(h.2 r hr).1.below hb, (h.2 r hr).2⟩⟩
end
section
variable {H : Type} {enc : TypeId × Value → H} {W : World}
end
end Go.Proofs.YtajpipaooaemdaaGreatDoor

namespace Go.Proofs.YtajpipaooaemdaaGreatDoor
open Go.RowKit

def posI (es : List (UInt8 × Nat)) (b : Nat) : Nat := es.countP fun e => e.1.toNat < b
def hasI (es : List (UInt8 × Nat)) (b : Nat) : Bool := match es[posI es b]? with
  | some e => decide (e.1.toNat = b)
  | none => false
def setI (es : List (UInt8 × Nat)) (b : UInt8) (j : Nat) : List (UInt8 × Nat) :=
  if hasI es b.toNat then es.set (posI es b.toNat) (b, j) else es.take (posI es b.toNat) ++ (b, j) :: es.drop (posI es b.toNat)
def phi (gs : List Nat) (e : UInt8 × Nat) : Ent := (e.1, some ⟨gs.getD e.2 0, 0, none⟩)
theorem set_phi (gs : List Nat) (es : List (UInt8 × Nat)) (b : UInt8) (j : Nat) : setE (es.map (phi gs)) b (some ⟨gs.getD j 0, 0, none⟩) = (setI es b j).map (phi gs) := by
  have hp : ∀ n, pos (es.map (phi gs)) n = posI es n := fun n => by unfold pos posI; rw [List.countP_map]; rfl
  have hh : hasE (es.map (phi gs)) b.toNat = hasI es b.toNat := by
    unfold hasE look hasI
    rw [hp, List.getElem?_map]
    rcases es[posI es b.toNat]? with _ | e
    · rfl
    · simp only [Option.map_some]
      by_cases h : e.1.toNat = b.toNat
      · rw [if_pos (show (phi gs e).1.toNat = b.toNat from h), decide_eq_true h]; rfl
      · rw [if_neg (show ¬ (phi gs e).1.toNat = b.toNat from h), decide_eq_false h]; rfl
  unfold setE setI
  rw [hh, hp]
  split
  · rw [List.map_set]; rfl
  · rw [List.map_append, List.map_cons, List.map_take, List.map_drop]; rfl
def nnR (r : Rw) : Nn := ⟨r.leaf, 1, r.part, if r.leaf || r.has then r.val else 0, r.leaf || r.has⟩
def parR (rs : List Rw) (i : Nat) : Nat := (rs.getD i dR).up.toNat % i
/-- The kids' places of the first i nodes. -/
def stR (rs : List Rw) : Nat → List (List (UInt8 × Nat))
  | 0 => []
  | i + 1 => if i = 0 ∨ (rs.getD (parR rs i) dR).leaf = true then stR rs i ++ [[]] else (stR rs i ++ [[]]).set (parR rs i) (setI ((stR rs i).getD (parR rs i) []) (rs.getD i dR).b i)
theorem stR_len (rs : List Rw) : ∀ i, (stR rs i).length = i
  | 0 => rfl
  | i + 1 => by
    unfold stR
    split
    · rw [List.length_append, stR_len rs i]; rfl
    · rw [List.length_set, List.length_append, stR_len rs i]; rfl
theorem getD_set {α : Type} (l : List α) (q k : Nat) (v d : α) : (l.set q v).getD k d = if q = k ∧ k < l.length then v else l.getD k d := by
  simp only [List.getD_eq_getElem?_getD, List.getElem?_set]
  by_cases h : q = k
  · subst h
    by_cases h2 : q < l.length
    · simp [h2]
    · simp [h2]
  · simp [h]
theorem getD_snoc {α : Type} (l : List α) (k : Nat) (d : α) : (l ++ [d]).getD k d = l.getD k d := by
  simp only [List.getD_eq_getElem?_getD]
  rcases Nat.lt_trichotomy k l.length with h | h | h
  · rw [List.getElem?_append_left h]
  · subst h
    rw [List.getElem?_append_right (Nat.le_refl _)]
    simp
  · rw [List.getElem?_append_right (by omega), List.getElem?_eq_none (by simp; omega), List.getElem?_eq_none (by omega)]
/-- The nodes in memory: gs are their blocks. -/
def nodeAt (rs : List Rw) (gs : List Nat) (st : List (List (UInt8 × Nat))) (k : Nat) : Nat × Nd := (gs.getD k 0, (nnR (rs.getD k dR)).nd ((st.getD k []).map (phi gs)))
def nodesL (rs : List Rw) (gs : List Nat) (st : List (List (UInt8 × Nat))) : List (Nat × Nd) := (List.range st.length).map (nodeAt rs gs st)
theorem nodesL_at {rs : List Rw} {gs : List Nat} {st : List (List (UInt8 × Nat))} {k : Nat} (h : k < st.length) : (nodesL rs gs st)[k]? = some (nodeAt rs gs st k) := by
  unfold nodesL
  rw [List.getElem?_map, List.getElem?_range h]
  rfl
theorem nodesL_kid (rs : List Rw) (gs : List Nat) (i : Nat) (h0 : i ≠ 0) :
    (nodesL rs gs (stR rs i ++ [[]])).set (parR rs i) (gs.getD (parR rs i) 0, nSetKid ((nnR (rs.getD (parR rs i) dR)).nd (((stR rs i ++ [[]]).getD (parR rs i) []).map (phi gs))) 1 (rs.getD i dR).b (some ⟨gs.getD i 0, 0, none⟩)) = nodesL rs gs (stR rs (i + 1)) := by
  have hl := stR_len rs i
  have hpi : parR rs i < i := Nat.mod_lt _ (by omega)
  have hlen : (stR rs i ++ [[]]).length = i + 1 := by rw [List.length_append, hl]; rfl
  cases hlf : (rs.getD (parR rs i) dR).leaf with
  | true =>
    have e1 : stR rs (i + 1) = stR rs i ++ [[]] := by
      conv => lhs; unfold stR
      rw [if_pos (.inr hlf)]
    rw [e1]
    have e2 : nSetKid ((nnR (rs.getD (parR rs i) dR)).nd (((stR rs i ++ [[]]).getD (parR rs i) []).map (phi gs))) 1 (rs.getD i dR).b (some ⟨gs.getD i 0, 0, none⟩) = (nnR (rs.getD (parR rs i) dR)).nd (((stR rs i ++ [[]]).getD (parR rs i) []).map (phi gs)) := by
      generalize rs.getD (parR rs i) dR = r at hlf
      unfold nSetKid
      rw [if_neg]
      simp [nnR, hlf]
    rw [e2]
    have hat := nodesL_at (rs := rs) (gs := gs) (st := stR rs i ++ [[]]) (k := parR rs i) (by omega)
    obtain ⟨h1, h2⟩ := List.getElem?_eq_some_iff.1 hat
    have h3 : (gs.getD (parR rs i) 0, (nnR (rs.getD (parR rs i) dR)).nd (((stR rs i ++ [[]]).getD (parR rs i) []).map (phi gs))) = (nodesL rs gs (stR rs i ++ [[]]))[parR rs i] := h2.symm
    rw [h3]
    exact List.set_getElem_self h1
  | false =>
    have e1 : stR rs (i + 1) = (stR rs i ++ [[]]).set (parR rs i) (setI ((stR rs i).getD (parR rs i) []) (rs.getD i dR).b i) := by
      conv => lhs; unfold stR
      rw [if_neg]
      rintro (q | q)
      · exact h0 q
      · rw [hlf] at q; cases q
    have e2 : nSetKid ((nnR (rs.getD (parR rs i) dR)).nd (((stR rs i ++ [[]]).getD (parR rs i) []).map (phi gs))) 1 (rs.getD i dR).b (some ⟨gs.getD i 0, 0, none⟩) = (nnR (rs.getD (parR rs i) dR)).nd ((setI ((stR rs i).getD (parR rs i) []) (rs.getD i dR).b i).map (phi gs)) := by
      generalize rs.getD (parR rs i) dR = r at hlf
      unfold nSetKid
      rw [if_pos (by simp [nnR, hlf, mineB])]
      show (nnR r).nd (setE _ _ _) = _
      rw [set_phi, getD_snoc]
    rw [e1, e2]
    refine List.ext_getElem? fun k => ?_
    rw [List.getElem?_set]
    by_cases hk : parR rs i = k
    · subst hk
      rw [if_pos rfl, if_pos (by unfold nodesL; rw [List.length_map, List.length_range]; omega), nodesL_at (by rw [List.length_set]; omega)]
      unfold nodeAt
      rw [getD_set, if_pos ⟨rfl, by omega⟩]
    · rw [if_neg hk]
      by_cases hk2 : k < i + 1
      · rw [nodesL_at (by omega), nodesL_at (by rw [List.length_set]; omega)]
        unfold nodeAt
        rw [getD_set, if_neg (fun q => hk q.1)]
      · rw [List.getElem?_eq_none (by unfold nodesL; simp; omega), List.getElem?_eq_none (by unfold nodesL; simp; omega)]

/-- The tree at a place. -/
def mkG (rs : List Rw) (c : Nat → Fo) : List (UInt8 × Nat) → Fo
  | [] => .nil
  | (b, j) :: es => .cons b (nnR (rs.getD j dR)) (c j) (mkG rs c es)
def growF (rs : List Rw) (n : Nat) : Nat → Nat → Fo
  | 0, _ => .nil
  | f + 1, k => mkG rs (growF rs n f) ((stR rs n).getD k [])
section
variable {w : World} {B : Nat} {N : Nat → Prop} {rs : List Rw} {gs : List Nat} {n : Nat} (h : Ns w B N (nodesL rs gs (stR rs n)))
include h
end
end Go.Proofs.YtajpipaooaemdaaGreatDoor

namespace Go.Proofs.YtajpipaooaemdaaGreatDoor
open Go.RowKit

def sumG (g : Nat → Nat) (P : Nat → Bool) : Nat → Nat → Nat
  | _, 0 => 0
  | i, c + 1 => (if P i = true then g i else 0) + sumG g P (i + 1) c
/-- How many nodes the tree at k has. -/
def gT (rs : List Rw) (n k : Nat) : Nat := 1 + (growF rs n (n - k) k).tn
section
variable {rs : List Rw} {n : Nat} (hr : ∀ k, k < n → ((stR rs n).getD k []).Pairwise fun a b => a.1.toNat < b.1.toNat)
include hr
end
theorem shL_len {x : Nn} {k : Fo} (hx : x.ok) {m : Nat} (hm : k.sh.length ≤ m) : (shL x k).length ≤ 140043 + m := by
  have h1 : (begL x k.len).length ≤ 21 := by
    unfold begL
    split
    · simp
    · have hk : kindN k.len ≤ 256 := by unfold kindN; split <;> (try split) <;> (try split) <;> omega
      have := dec_len (kindN k.len) (by omega)
      rw [List.length_append, List.length_singleton]
      omega
  have h2 : (valL x).length ≤ 21 := by
    unfold valL
    split
    · have := hx.2.2
      have := dec_len x.val.toNat (by omega)
      rw [List.length_cons]
      omega
    · simp
  have h3 : (endL x).length ≤ 1 := by unfold endL; split <;> simp
  have h4 := hx.1
  have h5 := textL_length x.part
  unfold shL
  simp only [List.length_append]
  omega
theorem sh_len : ∀ (f : Fo), f.ok → f.sh.length ≤ 140046 * f.tn
  | .nil, _ => Nat.le_refl _
  | .cons b x k r, ⟨h1, h2, h3⟩ => by
    have e1 := shL_len h1 (sh_len k h2)
    have e2 := sh_len r h3
    have e3 := textL_length [b]
    rw [Fo.sh_cons]
    simp only [List.length_append, List.length_cons, List.length_nil] at e3 ⊢
    simp only [Fo.tn]
    omega
theorem oshL_len {x : Nn} {k : Fo} (hx : x.ok) (hk : k.ok) {m : Nat} (hm : 1 + k.tn ≤ m) : (oshL (some (x, k))).length ≤ 140046 * m := by
  have e1 := shL_len hx (sh_len k hk)
  show (shL x k).length ≤ _
  have : 140046 * (1 + k.tn) ≤ 140046 * m := Nat.mul_le_mul_left _ hm
  omega

theorem gput_mem {b : UInt8} {p : KV} : ∀ {gs : List (UInt8 × List KV)} {x : UInt8 × List KV} {u : KV}, x ∈ gput b p gs → u ∈ x.2 → (x.1 = b ∧ u = p) ∨ ∃ y ∈ gs, y.1 = x.1 ∧ u ∈ y.2
  | [], x, u, hx, hu => by
    simp only [gput, List.mem_singleton] at hx
    subst hx
    exact .inl ⟨rfl, List.mem_singleton.1 hu⟩
  | (b', g) :: gs, x, u, hx, hu => by
    simp only [gput] at hx
    by_cases hb : b = b'
    · rw [if_pos hb] at hx
      rcases List.mem_cons.1 hx with q | q
      · subst q
        rcases List.mem_cons.1 hu with r | r
        · exact .inl ⟨rfl, r⟩
        · exact .inr ⟨_, List.mem_cons_self .., hb.symm, r⟩
      · exact .inr ⟨x, List.mem_cons_of_mem _ q, rfl, hu⟩
    · rw [if_neg hb] at hx
      rcases List.mem_cons.1 hx with q | q
      · subst q
        exact .inl ⟨rfl, List.mem_singleton.1 hu⟩
      · exact .inr ⟨x, q, rfl, hu⟩
theorem grp_mem : ∀ {L : List KV} {x : UInt8 × List KV} {u : KV}, x ∈ grp L → u ∈ x.2 → (x.1 :: u.1, u.2) ∈ L
  | [], x, u, hx, _ => by cases hx
  | (b :: k, v) :: r, x, u, hx, hu => by
    unfold grp at hx
    rcases gput_mem hx hu with ⟨e1, e2⟩ | ⟨y, hy, e, hu'⟩
    · subst e2; rw [e1]; exact List.mem_cons_self ..
    · rw [← e]; exact List.mem_cons_of_mem _ (grp_mem hy hu')
  | ([], _) :: r, x, u, hx, hu => List.mem_cons_of_mem _ (grp_mem (by unfold grp at hx; exact hx) hu)
theorem mkF_ok {c : List KV → Nn × Fo} : ∀ {gs : List (UInt8 × List KV)}, (∀ x ∈ gs, (c x.2).1.ok ∧ (c x.2).2.ok) → (mkF c gs).ok
  | [], _ => trivial
  | (b, g) :: _, h => ⟨(h (b, g) (List.mem_cons_self ..)).1, (h (b, g) (List.mem_cons_self ..)).2, mkF_ok fun x hx => h x (List.mem_cons_of_mem _ hx)⟩
def okP (p : KV) : Prop := p.1.length ≤ 70000 ∧ 0 ≤ p.2 ∧ p.2 ≤ 18446744073709551615
theorem cT_ok (o : Int) : ∀ (f : Nat) (L : List KV), (∀ p ∈ L, okP p) → (cT o f L).1.ok ∧ (cT o f L).2.ok
  | 0, [], _ => ⟨⟨by simp [cT], by simp [cT], by simp [cT]⟩, trivial⟩
  | _ + 1, [], _ => ⟨⟨by simp [cT], by simp [cT], by simp [cT]⟩, trivial⟩
  | 0, p :: L, h => ⟨h p (List.mem_cons_self ..), trivial⟩
  | _ + 1, [p], h => ⟨h p (List.mem_cons_self ..), trivial⟩
  | f + 1, p :: q :: r, h => by
    have hp := h p (List.mem_cons_self ..)
    have hc : ∀ (e : Nat) (L : List KV), (∀ u ∈ L, okP u) → (mkF (cT o f) (grp (cut e L))).ok := fun e L hL => mkF_ok fun x hx => cT_ok o f x.2 fun u hu => by
      have hm := grp_mem hx hu
      obtain ⟨v, hv, hq⟩ := List.mem_map.1 hm
      obtain ⟨e1, h2⟩ := Prod.mk.inj hq
      have h1 := congrArg List.length e1
      have h3 := hL v hv
      simp only [List.length_drop, List.length_cons] at h1
      exact ⟨by have := h3.1; omega, h2 ▸ h3.2⟩
    unfold cT
    simp only
    split
    · exact ⟨⟨by have := hp.1; show (List.take _ _).length ≤ _; rw [List.length_take]; omega, hp.2⟩, hc _ _ fun u hu => h u (List.mem_cons_of_mem _ hu)⟩
    · exact ⟨⟨by have := hp.1; show (List.take _ _).length ≤ _; rw [List.length_take]; omega, Int.le_refl _, (by decide : (0 : Int) ≤ 18446744073709551615)⟩, hc _ _ h⟩

/-- What is known of the tree that is told node by node. -/
structure Grown (x : Nn) (k : Fo) : Prop where
  top : wfN 1 x k
  wf : k.wf 1
  fits : Fits (some (x, k))
  ok : ook (some (x, k))
  sh : (oshL (some (x, k))).length ≤ 10000000
  keys : ∀ p ∈ tlist x k [], okP p ∧ p.1.length ≤ 7524
  many : (tlist x k []).length ≤ 24
end Go.Proofs.YtajpipaooaemdaaGreatDoor

namespace Go.Proofs.YtajpipaooaemdaaGreatDoor
open Go.RowKit

theorem Rzs.more {w : World} {B B' n : Nat} {A : Option Addr} {rs : List Rw} (h : Rzs w B A n rs) (hB : B ≤ B') : Rzs w B' A n rs := ⟨h.1.more hB, fun r hr => ⟨(h.2 r hr).1.more hB, (h.2 r hr).2⟩⟩
abbrev ptrG (g : Nat) : List Value := [.pointer (some ⟨g, 0, none⟩)]
/-- Where the loop stands, k nodes made. -/
def RwS (w : World) (rs : List Rw) (k : Nat) (v : Value) (wr : World) : Prop :=
  ∃ gs : List Nat, gs.length = k ∧ MineR wr w.heap.size 28 1 v k (gs.map ptrG) ∧ Ns wr w.heap.size (fun i => v.ownBlock = some i) (nodesL rs gs (stR rs k)) ∧ Below w.heap.size w wr
def rwC (r : Rw) : Array Value := #[.bool r.leaf, .slice r.A r.n r.c, .bool r.has, .int .u64 r.val, .int .u8 (r.up.toNat : Int), .int .u8 (r.b.toNat : Int)]
/-- In a round: nodes l, the box of the one that is told in block q. -/
structure RwM (w : World) (k : Nat) (gs : List Nat) (r : Rw) (v : Value) (q : Nat) (l : List (Nat × Nd)) (wc : World) : Prop where
  row : MineR wc w.heap.size 28 1 v k (gs.map ptrG)
  nodes : Ns wc w.heap.size (fun i => v.ownBlock = some i ∨ i = q) l
  box : Blk wc q (rwC r)
  below : Below w.heap.size w wc
  apart : ¬ v.ownBlock = some q
section
variable {w wr wc w' : World} {rs : List Rw} {k q : Nat} {gs : List Nat} {r : Rw} {v : Value} {l : List (Nat × Nd)}
/-- A box is made. -/
theorem RwM.start (h1 : MineR wr w.heap.size 28 1 v k (gs.map ptrG)) (h2 : Ns wr w.heap.size (fun i => v.ownBlock = some i) l) (h3 : Below w.heap.size w wr) (t : TypeId) :
    RwM w k gs r v wr.heap.size l (wr.alloc (.cells (rwC r) t)) := by
  have hb : Below wr.heap.size wr (wr.alloc (.cells (rwC r) t)) := (Below.refl _ _).alloc (Nat.le_refl _) _
  exact ⟨h1.alloc _, (h2.more fun i hi => hi.elim .inl fun q => .inr (by omega)).below hb, Blk.new _ _ _, h3.alloc h3.size _, fun e => by have := (h1.lt _ e).2; omega⟩
theorem RwM.no (h : RwM w k gs r v q l wc) : ∀ i, (v.ownBlock = some i ∨ i = q) → i < wc.heap.size := fun i hi => by
  rcases hi with hi | hi
  · exact (h.row.lt i hi).2
  · have := h.box.lt; omega
/-- What turns nodes alone. -/
theorem RwM.on (h : RwM w k gs r v q l wc) {D : Nat → Prop} {l' : List (Nat × Nd)} (hk : Kept D wc w') (hD : ∀ i, D i → w.heap.size ≤ i ∧ ¬ (v.ownBlock = some i ∨ i = q)) (hn : Ns w' w.heap.size (fun i => v.ownBlock = some i ∨ i = q) l') : RwM w k gs r v q l' w' :=
  ⟨h.row.keptK hk (fun i hi q => (hD i q).2 (.inl hi)), hn, hk.blk h.box (fun q => (hD _ q).2 (.inr rfl)), h.below.trans (hk.below h.below.size fun i hi => (hD i hi).1), h.apart⟩
set_option maxRecDepth 100000 in
theorem RwM.leaf (h : RwM w k gs r v q l wc) {A : Option Addr} {n c B : Nat} {p : List UInt8} (x : Int) (ha : Byt wc B A n p) (hB : B ≤ wc.heap.size) (hn : n ≤ 300) :
    Calls Tryz.prog 20 #[.pointer none, .int .u64 1, .slice A n c, .int .u64 x] wc fun e w' => ∃ g, e = .returned (.pointer (some ⟨g, 0, none⟩)) ∧ RwM w k gs r v q (l ++ [(g, ⟨true, 1, p, x, true, []⟩)]) w' := by
  refine (h.nodes.leaf_ (rest := []) h.below.size h.no none 0 1 x n c B p (fun g q => (by cases q)) (fun i q => (by cases q)) ha hB (by omega) (fun i _ q => (by cases q))).mono ?_
  rintro e w' ⟨g, rfl, h1, h2, _⟩
  have hD : ∀ i : Nat, (none : Option Nat) = some i → w.heap.size ≤ i ∧ ¬ (v.ownBlock = some i ∨ i = q) := fun i q => (by cases q)
  exact ⟨g, rfl, h.on h2 hD h1⟩
/-- The node is put behind the others. -/
theorem RwM.app (h : RwM w k gs r v q l wc) {W w2 : World} {v2 : Value} (g : Nat) (hW : Below wc.heap.size wc W) (hm : MineR w2 w.heap.size 28 1 v2 (k + 1) (gs.map ptrG ++ [ptrG g])) (hg : W.grownBy w2 v.ownBlock) (ho : v2.ownBlock = v.ownBlock ∨ v2.ownBlock = some W.heap.size) :
    RwM w (k + 1) (gs ++ [g]) r v2 q l w2 := by
  have hK := Kept.of_grown hg
  refine ⟨by rw [List.map_append]; exact hm, ?_, hK.blk (h.box.below hW h.box.lt) h.apart, ?_, fun e => ?_⟩
  · have h1 : Ns W w.heap.size (fun i => v2.ownBlock = some i ∨ v.ownBlock = some i ∨ i = q) l := (h.nodes.below hW).more fun i hi => by
      rcases hi with hi | hi
      · rcases ho with e | e
        · exact .inl (.inl (e ▸ hi))
        · rw [e] at hi; injection hi with hi; exact .inr (by omega)
      · exact .inl hi
    have h2 := h1.kept hK (fun i hi => .inr (.inr (.inl hi)))
    exact h2.more fun i hi => hi.elim (fun q => .inl (.inl q)) (fun q => .inl (.inr (.inr q)))
  · exact (h.below.trans (hW.mono h.below.size)).trans (hK.below (Nat.le_trans h.below.size hW.size) (fun i hi => (h.row.lt i hi).1))
  · rcases ho with q' | q'
    · exact h.apart (q' ▸ e)
    · rw [q'] at e
      injection e with e
      have := h.box.lt
      have := hW.size
      omega
set_option maxRecDepth 100000 in
/-- It is a kid of another one. -/
theorem RwM.kid (h : RwM w (k + 1) gs r v q (nodesL rs gs (stR rs k ++ [[]])) wc) (h0 : k ≠ 0) (z : Int) (hz : z = ((rs.getD k dR).b.toNat : Int)) :
    Calls Tryz.prog 71 #[.pointer (some ⟨gs.getD (parR rs k) 0, 0, none⟩), .int .u64 1, .int .u8 z, .pointer (some ⟨gs.getD k 0, 0, none⟩)] wc fun e w' => (∃ y, e = .returned (.int .i64 y)) ∧ RwM w (k + 1) gs r v q (nodesL rs gs (stR rs (k + 1))) w' := by
  have hpk : parR rs k < k := Nat.mod_lt _ (by omega)
  have hl : (stR rs k ++ [[]]).length = k + 1 := by rw [List.length_append, stR_len]; rfl
  refine (h.nodes.setkid (nodesL_at (by omega)) (nodesL_at (by omega)) h.below.size h.no 1 (rs.getD k dR).b z hz).mono ?_
  rintro e w' ⟨rfl, h1, h2⟩
  refine ⟨⟨_, rfl⟩, h.on h2 (fun _ hi => hi) ?_⟩
  rw [nodesL_kid rs gs k h0] at h1
  exact h1
theorem RwM.done (h : RwM w k gs r v q (nodesL rs gs (stR rs k)) wc) (hg : gs.length = k) : RwS w rs k v wc :=
  ⟨gs, hg, h.row, h.nodes.more fun _ hi => .inl (.inl hi), h.below⟩
end

end Go.Proofs.YtajpipaooaemdaaGreatDoor
