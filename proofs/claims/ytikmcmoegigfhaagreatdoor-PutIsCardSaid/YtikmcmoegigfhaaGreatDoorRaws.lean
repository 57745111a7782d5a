/-
  The law's own raws: the tree that is told node by node, as the program's own calls make it.
-/
import Derived.Test.YtikmcmoegigfhaaGreatDoorRaw
import Derived.Deep.RegionHeld3
import Derived.IntWalk
import Derived.Deep.CutBlock
import Derived.Deep.DeepCutAuto
namespace Go.Proofs.YtikmcmoegigfhaaGreatDoor
open Go.RowKit

set_option maxRecDepth 100000 in
theorem info_nodep : (Tryz.prog.info? 30).map (fun i => (i.zero, i.size, i.bytes)) = some (some (.pointer none), 1, 8) := by kernel_rfl
theorem Rzs.more {w : World} {B B' n : Nat} {A : Option Addr} {rs : List Rw} (h : Rzs w B A n rs) (hB : B ≤ B') : Rzs w B' A n rs := ⟨h.1.more hB, fun r hr => ⟨(h.2 r hr).1.more hB, (h.2 r hr).2⟩⟩
abbrev ptrG (g : Nat) : List Value := [.pointer (some ⟨g, 0, none⟩)]
/-- Where the loop stands, k nodes made. -/
def RwS (w : World) (rs : List Rw) (k : Nat) (v : Value) (wr : World) : Prop :=
  ∃ gs : List Nat, gs.length = k ∧ MineR wr w.heap.size 30 1 v k (gs.map ptrG) ∧ Ns wr w.heap.size (fun i => v.ownBlock = some i) (nodesL rs gs (stR rs k)) ∧ Below w.heap.size w wr
def rwC (r : Rw) : Array Value := #[.bool r.leaf, .slice r.A r.n r.c, .bool r.has, .int .u64 r.val, .int .u8 (r.up.toNat : Int), .int .u8 (r.b.toNat : Int)]
/-- In a round: nodes l, the box of the one that is told in block q. -/
structure RwM (w : World) (k : Nat) (gs : List Nat) (r : Rw) (v : Value) (q : Nat) (l : List (Nat × Nd)) (wc : World) : Prop where
  row : MineR wc w.heap.size 30 1 v k (gs.map ptrG)
  nodes : Ns wc w.heap.size (fun i => v.ownBlock = some i ∨ i = q) l
  box : Blk wc q (rwC r)
  below : Below w.heap.size w wc
  apart : ¬ v.ownBlock = some q
section
variable {w wr wc w' : World} {rs : List Rw} {k q : Nat} {gs : List Nat} {r : Rw} {v : Value} {l : List (Nat × Nd)}
/-- A box is made. -/
theorem RwM.start (h1 : MineR wr w.heap.size 30 1 v k (gs.map ptrG)) (h2 : Ns wr w.heap.size (fun i => v.ownBlock = some i) l) (h3 : Below w.heap.size w wr) (t : TypeId) :
    RwM w k gs r v wr.heap.size l (wr.alloc (.cells (rwC r) t)) := by
  have hb : Below wr.heap.size wr (wr.alloc (.cells (rwC r) t)) := (Below.refl _ _).alloc (Nat.le_refl _) _
  exact ⟨h1.alloc _, (h2.more fun i hi => hi.elim .inl fun q => .inr (by omega)).below hb, Blk.new _ _ _, h3.alloc h3.size _, fun e => by have := (h1.lt _ e).2; omega⟩
theorem RwM.no (h : RwM w k gs r v q l wc) : ∀ i, (v.ownBlock = some i ∨ i = q) → i < wc.heap.size := fun i hi => by
  rcases hi with hi | hi
  · exact (h.row.lt i hi).2
  · have := h.box.lt; omega
/-- What turns nodes alone. -/
theorem RwM.on (h : RwM w k gs r v q l wc) {D : Nat → Prop} {l' : List (Nat × Nd)} (hk : Kept D wc w') (hD : ∀ i, D i → w.heap.size ≤ i ∧ ¬ (v.ownBlock = some i ∨ i = q)) (hn : Ns w' w.heap.size (fun i => v.ownBlock = some i ∨ i = q) l') : RwM w k gs r v q l' w' :=
  ⟨h.row.keptK hk (fun i hi q => (hD i q).2 (.inl hi)), hn, hk.blk h.box (fun q => (hD _ q).2 (.inr rfl)), h.below.trans (hk.below h.below.size fun i hi => (hD i hi).1), h.apart⟩
set_option maxRecDepth 100000 in
theorem RwM.inner (h : RwM w k gs r v q l wc) {A : Option Addr} {n c B : Nat} {p : List UInt8} (ha : Byt wc B A n p) (hB : B ≤ wc.heap.size) (hn : n ≤ 300) :
    Calls Tryz.prog 71 #[.pointer none, .int .u64 1, .slice A n c] wc fun e w' => ∃ g, e = .returned (.pointer (some ⟨g, 0, none⟩)) ∧ RwM w k gs r v q (l ++ [(g, ⟨false, 1, p, 0, false, []⟩)]) w' ∧ RwM w k gs r v q l w' := by
  refine (h.nodes.inner_ (rest := []) h.below.size h.no none 0 1 n c B p (fun g q => (by cases q)) (fun i q => (by cases q)) ha hB (by omega) (fun i _ q => (by cases q))).mono ?_
  rintro e w' ⟨g, rfl, h1, h2, _⟩
  have hD : ∀ i : Nat, (none : Option Nat) = some i → w.heap.size ≤ i ∧ ¬ (v.ownBlock = some i ∨ i = q) := fun i q => (by cases q)
  exact ⟨g, rfl, h.on h2 hD h1, h.on h2 hD (h.nodes.kept h2 (fun i q => (by cases q)))⟩
set_option maxRecDepth 100000 in
theorem RwM.leaf (h : RwM w k gs r v q l wc) {A : Option Addr} {n c B : Nat} {p : List UInt8} (x : Int) (ha : Byt wc B A n p) (hB : B ≤ wc.heap.size) (hn : n ≤ 300) :
    Calls Tryz.prog 46 #[.pointer none, .int .u64 1, .slice A n c, .int .u64 x] wc fun e w' => ∃ g, e = .returned (.pointer (some ⟨g, 0, none⟩)) ∧ RwM w k gs r v q (l ++ [(g, ⟨true, 1, p, x, true, []⟩)]) w' := by
  refine (h.nodes.leaf_ (rest := []) h.below.size h.no none 0 1 x n c B p (fun g q => (by cases q)) (fun i q => (by cases q)) ha hB (by omega) (fun i _ q => (by cases q))).mono ?_
  rintro e w' ⟨g, rfl, h1, h2, _⟩
  have hD : ∀ i : Nat, (none : Option Nat) = some i → w.heap.size ≤ i ∧ ¬ (v.ownBlock = some i ∨ i = q) := fun i q => (by cases q)
  exact ⟨g, rfl, h.on h2 hD h1⟩
set_option maxRecDepth 100000 in
theorem RwM.setval (g : Nat) (x : Nd) (h : RwM w k gs r v q (l ++ [(g, x)]) wc) (y : Int) :
    Calls Tryz.prog 50 #[.pointer (some ⟨g, 0, none⟩), .int .u64 1, .int .u64 y] wc fun e w' => e = .returned (.int .i64 (closN x 1)) ∧ RwM w k gs r v q (l ++ [(g, nSetVal x 1 y)]) w' := by
  have hat : (l ++ [(g, x)])[l.length]? = some (g, x) := by rw [List.getElem?_append_right (Nat.le_refl _), Nat.sub_self]; rfl
  refine (h.nodes.setval hat h.below.size h.no 1 y).mono ?_
  rintro e w' ⟨rfl, h1, h2⟩
  rw [List.set_append_right _ _ (Nat.le_refl _), Nat.sub_self] at h1
  exact ⟨rfl, h.on h2 (fun i hi => hi) h1⟩
/-- The node is put behind the others. -/
theorem RwM.app (h : RwM w k gs r v q l wc) {W w2 : World} {v2 : Value} (g : Nat) (hW : Below wc.heap.size wc W) (hm : MineR w2 w.heap.size 30 1 v2 (k + 1) (gs.map ptrG ++ [ptrG g])) (hg : W.grownBy w2 v.ownBlock) (ho : v2.ownBlock = v.ownBlock ∨ v2.ownBlock = some W.heap.size) :
    RwM w (k + 1) (gs ++ [g]) r v2 q l w2 := by
  have hK := Kept.of_grown hg
  refine ⟨by rw [List.map_append]; exact hm, ?_, hK.blk (h.box.below hW h.box.lt) h.apart, ?_, fun e => ?_⟩
  · have h1 : Ns W w.heap.size (fun i => v2.ownBlock = some i ∨ v.ownBlock = some i ∨ i = q) l := (h.nodes.below hW).more fun i hi => by
      rcases hi with hi | hi
      · rcases ho with e | e
        · exact .inl (.inl (e ▸ hi))
        · rw [e] at hi; injection hi with hi; exact .inr (by omega)
      · exact .inl hi
    have h2 := h1.kept hK (fun i hi => .inr (.inr (.inl hi)))
    exact h2.more fun i hi => hi.elim (fun q => .inl (.inl q)) (fun q => .inl (.inr (.inr q)))
  · exact (h.below.trans (hW.mono h.below.size)).trans (hK.below (Nat.le_trans h.below.size hW.size) (fun i hi => (h.row.lt i hi).1))
  · rcases ho with q' | q'
    · exact h.apart (q' ▸ e)
    · rw [q'] at e
      injection e with e
      have := h.box.lt
      have := hW.size
      omega
set_option maxRecDepth 100000 in
/-- It is a kid of another one. -/
theorem RwM.kid (h : RwM w (k + 1) gs r v q (nodesL rs gs (stR rs k ++ [[]])) wc) (h0 : k ≠ 0) (z : Int) (hz : z = ((rs.getD k dR).b.toNat : Int)) :
    Calls Tryz.prog 52 #[.pointer (some ⟨gs.getD (parR rs k) 0, 0, none⟩), .int .u64 1, .int .u8 z, .pointer (some ⟨gs.getD k 0, 0, none⟩)] wc fun e w' => (∃ y, e = .returned (.int .i64 y)) ∧ RwM w (k + 1) gs r v q (nodesL rs gs (stR rs (k + 1))) w' := by
  have hpk : parR rs k < k := Nat.mod_lt _ (by omega)
  have hl : (stR rs k ++ [[]]).length = k + 1 := by rw [List.length_append, stR_len]; rfl
  refine (h.nodes.setkid (nodesL_at (by omega)) (nodesL_at (by omega)) h.below.size h.no 1 (rs.getD k dR).b z hz).mono ?_
  rintro e w' ⟨rfl, h1, h2⟩
  refine ⟨⟨_, rfl⟩, h.on h2 (fun _ hi => hi) ?_⟩
  rw [nodesL_kid rs gs k h0] at h1
  exact h1
theorem RwM.done (h : RwM w k gs r v q (nodesL rs gs (stR rs k)) wc) (hg : gs.length = k) : RwS w rs k v wc :=
  ⟨gs, hg, h.row, h.nodes.more fun _ hi => .inl (.inl hi), h.below⟩
theorem row_ptr {g n c j base : Nat} (h : MineR w base 30 1 (.slice (some ⟨g, 0, none⟩) n c) n (gs.map ptrG)) (hj : j < n) : w.cell? ⟨g, j, none⟩ = some (.pointer (some ⟨gs.getD j 0, 0, none⟩)) := by
  have hl : gs.length = n := by have := h.2.1; rwa [List.length_map] at this
  have hc : (gs.map ptrG)[j]? = some (ptrG (gs.getD j 0)) := by
    rw [List.getElem?_map, List.getD_eq_getElem?_getD, List.getElem?_eq_getElem (by omega)]
    rfl
  have e0 := World.ownsRow.cells h.1 (g := g) rfl (j * 1 + 0) _ (by rw [flatten_at h.2.2 hc (by omega)]; rfl)
  have z : (⟨g, 0, none⟩ : Addr).add (j * 1 + 0) = ⟨g, j, none⟩ := by
    unfold Addr.add
    split
    · rename_i q; rw [← show j = 0 by omega]
    · simp
  rwa [z] at e0
end

end Go.Proofs.YtikmcmoegigfhaaGreatDoor
