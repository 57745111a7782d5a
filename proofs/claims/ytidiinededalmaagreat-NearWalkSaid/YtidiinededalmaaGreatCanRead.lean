/-
  Words for a row of structs that begin with bytes, as a loop collects it: its own cells, and the bytes' blocks. Nothing of the program is used.
  What canon.Count, Depth, Fine, List and Points tell: by one round for each node.
-/
import Derived.Test.YtidiinededalmaaGreatTree
import Derived.Test.YtidiinededalmaaGreatStops
import Derived.Test.YtidiinededalmaaGreatCmp
import Derived.Test.YtidiinededalmaaGreatText
import Derived.Laws.ResultCell
import Derived.Deep.RegionHeld3
namespace Go.Proofs.YtidiinededalmaaGreat
open Go.RowKit

/-- A struct that begins with bytes. -/
structure Ky where
  A : Option Addr
  c : Nat
  key : List UInt8
  more : List Value
def Ky.cells (y : Ky) : List Value := .slice y.A y.key.length y.c :: y.more
/-- A slice of such in memory. -/
def Kys (w : World) (B : Nat) (A : Option Addr) (k : Nat) (ys : List Ky) : Prop :=
  Rws w B A ys.length k (ys.map Ky.cells) ∧ ∀ y ∈ ys, Byt w B y.A y.key.length y.key ∧ y.key.length ≤ y.c
theorem Kys.below {w w' : World} {B k : Nat} {A : Option Addr} {ys : List Ky} (h : Kys w B A k ys) (hb : Below B w w') : Kys w' B A k ys := ⟨h.1.below hb, fun y hy => ⟨(h.2 y hy).1.below hb, (h.2 y hy).2⟩⟩
theorem Kys.more {w : World} {B B' k : Nat} {A : Option Addr} {ys : List Ky} (h : Kys w B A k ys) (hB : B ≤ B') : Kys w B' A k ys := ⟨h.1.more hB, fun y hy => ⟨(h.2 y hy).1.more hB, (h.2 y hy).2⟩⟩

theorem cell_step {n₀ : Nat} {N : Nat → Prop} {A B : World} (hs : Stp1 n₀ N A B) {p : Addr} {v : Value} (h : A.cell? p = some v) (hN : ¬ N p.block) : B.cell? p = some v := by
  have hlt := lt_cell h
  have ho : A.heap[p.block]? = some A.heap[p.block] := Array.getElem?_eq_getElem hlt
  have hc : (A.heap[p.block]).isCells = true := by
    unfold World.cell? at h
    rw [ho] at h
    cases hx : A.heap[p.block] <;> rw [hx] at h <;> first | rfl | (simp at h)
  have hb := hs.same _ _ ho hc hN
  unfold World.cell? at h ⊢
  rw [ho] at h
  rw [hb]
  exact h
theorem Byt.step {n₀ : Nat} {N : Nat → Prop} {A B : World} {p : Option Addr} {l : List UInt8} (h : Byt A A.heap.size p l.length l) (hs : Stp1 n₀ N A B) (hN : ∀ i, Pb p l i → ¬ N i) : Byt B B.heap.size p l.length l :=
  ⟨h.1, h.2.1, fun hn => by
    obtain ⟨ad, e, hb, hc⟩ := h.2.2 hn
    refine ⟨ad, e, Nat.lt_of_lt_of_le hb hs.size, fun j u hu => cell_step hs (hc j u hu) ?_⟩
    rw [block_of_add]
    exact hN _ ⟨List.length_pos_iff.1 hn, ad, e, rfl⟩⟩
theorem MineR.step {n₀ base k n : Nat} {N : Nat → Prop} {A B : World} {e : TypeId} {v : Value} {css : List (List Value)} (h : MineR A base e k v n css) (hs : Stp1 n₀ N A B) (hN : ∀ i, v.ownBlock = some i → ¬ N i) : MineR B base e k v n css := by
  refine ⟨⟨h.1.1, ?_⟩, h.2⟩
  rcases h.1.2 with q | ⟨g, cap, cur, rfl, h1, h2, h3⟩
  · exact .inl q
  · exact .inr ⟨g, cap, cur, rfl, h1, hs.same g _ h2 rfl (hN g rfl), h3⟩

/-- A row that is collected: cell C holds it; none of it lies in N. -/
structure Krow (n₀ : Nat) (W : World) (N : Nat → Prop) (C : Nat) (e : TypeId) (k : Nat) (ys : List Ky) : Prop where
  row : ∃ A c, Blk W C #[.slice A ys.length c] ∧ MineR W n₀ e k (.slice A ys.length c) ys.length (ys.map Ky.cells) ∧ ∀ i, (Value.slice A ys.length c).ownBlock = some i → ¬ N i ∧ i ≠ C ∧ ∀ y ∈ ys, ¬ Pb y.A y.key i
  nC : ¬ N C
  lo : n₀ ≤ C
  byt : ∀ y ∈ ys, Byt W W.heap.size y.A y.key.length y.key ∧ y.key.length ≤ y.c ∧ ∀ i, Pb y.A y.key i → n₀ ≤ i ∧ ¬ N i ∧ i ≠ C
theorem Krow.step {n₀ C k : Nat} {N N' : Nat → Prop} {A B : World} {e : TypeId} {ys : List Ky} (h : Krow n₀ A N C e k ys) (hs : Stp1 n₀ N A B) (hN : ∀ i, N' i → N i ∨ A.heap.size ≤ i) : Krow n₀ B N' C e k ys := by
  obtain ⟨⟨A1, c, h1, h2, h3⟩, h4, h5, h6⟩ := h
  refine ⟨⟨A1, c, h1.step hs h4, h2.step hs (fun i hi => (h3 i hi).1), fun i hi => ⟨fun q => ?_, (h3 i hi).2⟩⟩, fun q => ?_, h5, fun y hy => ⟨(h6 y hy).1.step hs (fun i hi => ((h6 y hy).2.2 i hi).2.1), (h6 y hy).2.1, fun i hi => ⟨((h6 y hy).2.2 i hi).1, fun q => ?_, ((h6 y hy).2.2 i hi).2.2⟩⟩⟩
  · rcases hN _ q with q | q
    · exact (h3 i hi).1 q
    · have := (h2.lt i hi).2; omega
  · rcases hN _ q with q | q
    · exact h4 q
    · have := h1.lt; omega
  · rcases hN _ q with q | q
    · exact ((h6 y hy).2.2 i hi).2.1 q
    · have := (h6 y hy).1.ltPb hi; omega
/-- One more is collected. -/
theorem Krow.more {n₀ C k : Nat} {N : Nat → Prop} {U U2 U3 : World} {e : TypeId} {ys : List Ky} (h : Krow n₀ U N C e k ys) (hb : Below U.heap.size U U2) (hN : ∀ i, N i → i < U.heap.size) (y : Ky) (hy : Byt U2 U2.heap.size y.A y.key.length y.key) (hnew : ∀ i, Pb y.A y.key i → U.heap.size ≤ i) (hr : y.key.length ≤ y.c)
    {v v3 : Value} (hv : U.cell? ⟨C, 0, none⟩ = some v) (m3 : MineR U3 n₀ e k v3 (ys.length + 1) (ys.map Ky.cells ++ [y.cells])) (g3 : U2.grownBy U3 v.ownBlock) (o3 : v3.ownBlock = v.ownBlock ∨ v3.ownBlock = some U2.heap.size) :
    U3.cell? ⟨C, 0, none⟩ = some v ∧ U3.frozen? ⟨C, 0, none⟩ = false ∧ Krow n₀ (U3.setCell ⟨C, 0, none⟩ v3) N C e k (ys ++ [y]) ∧ Kept (fun i => n₀ ≤ i ∧ ¬ N i) U (U3.setCell ⟨C, 0, none⟩ v3) ∧ KeepsOthers U (U3.setCell ⟨C, 0, none⟩ v3) ∧ Kept (fun i => v.ownBlock = some i) U U3 ∧ ∀ i, v.ownBlock = some i → ¬ N i := by
  obtain ⟨⟨A1, c, h1, h2, h3⟩, h4, h5, h6⟩ := h
  have e1 : (some v : Option Value) = some (.slice A1 ys.length c) := by rw [← hv]; exact h1.cell 0
  injection e1 with e1
  subst e1
  have s2 := hb.size
  have s3 := g3.size
  have k2 : Kept (fun _ => False) U U2 := Kept.of_below hb
  have k3 : Kept (fun i => (Value.slice A1 ys.length c).ownBlock = some i) U2 U3 := ⟨g3.os, g3.tape, g3.output, g3.size, fun i hi hn => g3.block i hi (fun q => hn q.symm)⟩
  have k23 := (k2.mono (D' := fun i => (Value.slice A1 ys.length c).ownBlock = some i) (fun _ q => q.elim)).trans k3
  have hCl := h1.lt
  have b3 : Blk U3 C #[.slice A1 ys.length c] := k23.blk h1 (fun q => (h3 C q).2.1 rfl)
  have lo3 : ∀ i, (Value.slice A1 ys.length c).ownBlock = some i → n₀ ≤ i ∧ i < U.heap.size := fun i hi => h2.lt i hi
  obtain ⟨A3, c3, rfl, _⟩ := m3.slice
  have own3 : ∀ i, (Value.slice A3 (ys.length + 1) c3).ownBlock = some i → (Value.slice A1 ys.length c).ownBlock = some i ∨ i = U2.heap.size := fun i hi => by
    rcases o3 with q | q
    · rw [q] at hi; exact .inl hi
    · rw [q] at hi; injection hi with hi; exact .inr hi.symm
  have ks : Kept (· = C) U3 (U3.setCell ⟨C, 0, none⟩ (.slice A3 (ys.length + 1) c3)) := Kept.set_ _ _ _ rfl
  have ss := ks.size
  have byt3 : ∀ z ∈ ys ++ [y], Byt (U3.setCell ⟨C, 0, none⟩ (.slice A3 (ys.length + 1) c3)) (U3.setCell ⟨C, 0, none⟩ (.slice A3 (ys.length + 1) c3)).heap.size z.A z.key.length z.key ∧ z.key.length ≤ z.c ∧ ∀ i, Pb z.A z.key i → n₀ ≤ i ∧ ¬ N i ∧ i ≠ C := fun z hz => by
    simp only [List.mem_append, List.mem_singleton] at hz
    have two : ∀ (W : World), Byt W W.heap.size z.A z.key.length z.key → (∀ i, Pb z.A z.key i → i ≠ C) → Kept (fun i => i = C) W (W.setCell ⟨C, 0, none⟩ (.slice A3 (ys.length + 1) c3)) → Byt (W.setCell ⟨C, 0, none⟩ (.slice A3 (ys.length + 1) c3)) (W.setCell ⟨C, 0, none⟩ (.slice A3 (ys.length + 1) c3)).heap.size z.A z.key.length z.key := fun W hW hne hk =>
      (hW.keepPb fun p hp => hk.cell (hW.ltPb hp) (hne _ hp)).more hk.size
    rcases hz with hz | rfl
    · obtain ⟨q1, q2, q3⟩ := h6 z hz
      have q4 : Byt U3 U3.heap.size z.A z.key.length z.key := (q1.keepPb fun p hp => k23.cell (q1.ltPb hp) (fun e => (h3 _ e).2.2 z hz hp)).more k23.size
      exact ⟨two _ q4 (fun i hi => (q3 i hi).2.2) ks, q2, q3⟩
    · have q4 : Byt U3 U3.heap.size z.A z.key.length z.key := (hy.keepPb fun p hp => k3.cell (hy.ltPb hp) (fun e => by have := hnew _ hp; have := (lo3 _ e).2; omega)).more k3.size
      exact ⟨two _ q4 (fun i hi => by have := hnew i hi; omega) ks, hr, fun i hi => ⟨by have := hnew i hi; omega, fun q => by have := hnew i hi; have := hN i q; omega, by have := hnew i hi; omega⟩⟩
  refine ⟨b3.cell 0, b3.fz 0, ⟨⟨A3, c3, ?_, ?_, fun i hi => ?_⟩, h4, h5, byt3⟩, ?_, ?_, k23, fun i hi => (h3 i hi).1⟩
  · have := b3.set_ 0 (.slice A3 (ys.length + 1) c3)
    simpa using this
  · rw [List.length_append, List.length_singleton, List.map_append, List.map_singleton]
    refine ⟨⟨m3.1.1, ?_⟩, m3.2⟩
    rcases m3.1.2 with q | ⟨g, cap, cur, q1, q2, q3, q4⟩
    · exact .inl q
    · refine .inr ⟨g, cap, cur, q1, q2, (ks.block g (Array.getElem?_eq_some_iff.1 q3).1 (fun e => ?_)).trans q3, q4⟩
      have hown : (Value.slice A3 (ys.length + 1) c3).ownBlock = some g := by rw [q1]; rfl
      rcases own3 g hown with q | q
      · exact (h3 g q).2.1 e
      · omega
  · rw [List.length_append, List.length_singleton] at hi
    have hi' : (Value.slice A3 (ys.length + 1) c3).ownBlock = some i := hi
    rcases own3 i hi' with q | q
    · refine ⟨(h3 i q).1, (h3 i q).2.1, fun z hz hp => ?_⟩
      simp only [List.mem_append, List.mem_singleton] at hz
      rcases hz with hz | rfl
      · exact (h3 i q).2.2 z hz hp
      · have := hnew i hp; have := (lo3 i q).2; omega
    · refine ⟨fun hn => by have := hN i hn; omega, by omega, fun z hz hp => ?_⟩
      simp only [List.mem_append, List.mem_singleton] at hz
      rcases hz with hz | rfl
      · have := (h6 z hz).1.ltPb hp; omega
      · have := hy.ltPb hp; omega
  · refine (k23.mono (fun i hi => ⟨(lo3 i hi).1, (h3 i hi).1⟩)).trans (ks.mono (fun i e => e ▸ ⟨h5, h4⟩))
  · refine ⟨by omega, fun j o hj ho => ?_⟩
    have hjl := (Array.getElem?_eq_some_iff.1 hj).1
    have e2 := (hb.block j hjl).trans hj
    have e3 : U3.heap[j]? = some o := (g3.block j (by omega) (fun q => ?_)).trans e2
    · exact (KeepsOthers.setCell U3 ⟨C, 0, none⟩ _).same j o e3 ho
    · rcases h2.1.2 with ⟨q', _⟩ | ⟨g, cap, cur, q1, _, q3, _⟩
      · rw [q'] at q; cases q
      · rw [q1] at q
        have hjg : j = g := by simpa [Value.ownBlock] using q
        rw [hjg, q3] at hj
        cases hj
        cases ho
theorem Krow.nil {n₀ C : Nat} {W : World} {N : Nat → Prop} (e : TypeId) (k : Nat) (hb : Blk W C #[.slice none 0 0]) (hN : ¬ N C) (hC : n₀ ≤ C) : Krow n₀ W N C e k [] :=
  ⟨⟨none, 0, hb, MineR.nil _ _ _ _, fun i q => by simp [Value.ownBlock] at q⟩, hN, hC, fun y hy => by cases hy⟩
theorem Krow.kys {n₀ C k : Nat} {W : World} {N : Nat → Prop} {e : TypeId} {ys : List Ky} (h : Krow n₀ W N C e k ys) : ∃ A c, W.cell? ⟨C, 0, none⟩ = some (.slice A ys.length c) ∧ ys.length ≤ c ∧ Kys W W.heap.size A k ys := by
  obtain ⟨⟨A1, c, h1, h2, h3⟩, h4, h5, h6⟩ := h
  obtain ⟨A', c', e, hr⟩ := h2.slice
  injection e with e1 e2 e3
  subst e1 e3
  exact ⟨A1, c, h1.cell 0, hr, h2.rws, fun y hy => ⟨(h6 y hy).1, (h6 y hy).2.1⟩⟩
theorem noDefer_of {ops : Array Oper} (h : ops.all (fun o => match o.op with | .defer _ => false | _ => true) = true) : ∀ (i : Nat) (o : Oper), ops[i]? = some o → ∀ c, o.op ≠ Op.defer c := by
  intro i o ho c hc
  obtain ⟨hi, rfl⟩ := Array.getElem?_eq_some_iff.1 ho
  have := Array.all_eq_true.1 h i hi
  rw [hc] at this
  cases this
end Go.Proofs.YtidiinededalmaaGreat

namespace Go.Proofs.YtidiinededalmaaGreat
open Go.RowKit Go.Shelf
attribute [local go_sem] Oper.semAt_some

def cntV (vs : List Vt) : Nat := vs.countP (·.x.has)
theorem cntV_snoc (vs : List Vt) (v : Vt) : cntV (vs ++ [v]) = cntV vs + (if v.x.has then 1 else 0) := by simp [cntV, List.countP_append, List.countP_singleton]
theorem cntV_le (vs : List Vt) : cntV vs ≤ vs.length := List.countP_le_length
def dpV (vs : List Vt) : Nat := vs.foldl (fun m v => max m v.deep) 0
theorem dpV_snoc (vs : List Vt) (v : Vt) : dpV (vs ++ [v]) = max (dpV vs) v.deep := by simp [dpV]
theorem dpV_le {vs : List Vt} (h : ∀ v ∈ vs, v.deep ≤ 1000000) : dpV vs ≤ 1000000 := by
  unfold dpV
  have : ∀ (l : List Vt) (m : Nat), m ≤ 1000000 → (∀ v ∈ l, v.deep ≤ 1000000) → l.foldl (fun m v => max m v.deep) m ≤ 1000000 := by
    intro l
    induction l with
    | nil => intro m hm _; exact hm
    | cons a r ih => intro m hm hl; exact ih _ (by have := hl a (by simp); show max m a.deep ≤ 1000000; omega) (fun v hv => hl v (by simp [hv]))
  exact this vs 0 (by omega) h
def Vt.occ (v : Vt) : Nat := v.nk + (if v.x.has then 1 else 0)
def Vt.fine (v : Vt) : Bool := decide (v.way.length ≤ 65535) && (v.x.leaf || decide (2 ≤ v.occ))
def Vt.kind (v : Vt) : Int := if v.x.leaf then 1 else kindN v.nk
theorem round_deep {l m : Nat} : (Fence.wide.inRound l).depth.isSome = true → 1 ≤ m := fun h => by simp [Fence.wide, Fence.inRound] at h
/-- A tree that is not too great to be gone through. -/
def Fits (t : Option (Nn × Fo)) : Prop := (∀ v ∈ otvis t, v.way.length ≤ 1000000 ∧ v.deep ≤ 1000000) ∧ (otvis t).length ≤ 16777216

theorem below_put {n₀ : Nat} {w W : World} (h : Below n₀ w W) {D : Nat} {o o' : Obj} (hD : n₀ ≤ D) (hK : W.heap[D]? = some o) : Below n₀ w (W.putObj D o') := by
  have hlt := (Array.getElem?_eq_some_iff.1 hK).1
  exact h.trans ((Kept.put_obj W D o').below (by omega) (fun i e => by omega))
theorem Blk.put_far {W : World} {g D : Nat} {cs : Array Value} {o o' : Obj} (h : Blk W g cs) (hK : W.heap[D]? = some o) (ho : o.isCells = false) : Blk (W.putObj D o') g cs := by
  obtain ⟨t, h⟩ := h
  refine ⟨t, (World.putObj_heap_other (fun e => ?_)).trans h⟩
  subst e
  rw [h] at hK
  cases hK
  cases ho
theorem Still.others {w w' : World} (h : Still w w') : KeepsOthers w w' := by
  obtain ⟨k, rfl⟩ := h
  exact ⟨Nat.le_refl _, fun _ _ h _ => h⟩
theorem KeepsOthers.of_below {w w' : World} (h : Below w.heap.size w w') : KeepsOthers w w' := ⟨h.size, fun k _ h1 _ => (h.block k (Array.getElem?_eq_some_iff.1 h1).1).trans h1⟩
theorem kind_vt (v : Vt) (ek : List Ent) (h : ek.length = v.nk) : kindD (v.x.nd ek) = v.kind := by unfold kindD Vt.kind; rw [← h]
theorem occ_vt (v : Vt) (ek : List Ent) (h : ek.length = v.nk) : occN (v.x.nd ek) = (v.occ : Int) := by
  show (if v.x.has = true then (ek.length : Int) + 1 else (ek.length : Int)) = _
  unfold Vt.occ
  rw [← h]
  cases v.x.has <;> simp
def listV (vs : List Vt) : List (List UInt8 × List Value) := vs.filterMap fun v => if v.x.has then some (v.way, [.int .u64 v.x.val]) else none
theorem listV_snoc (vs : List Vt) (v : Vt) : listV (vs ++ [v]) = if v.x.has then listV vs ++ [(v.way, [.int .u64 v.x.val])] else listV vs := by
  unfold listV
  rw [List.filterMap_append]
  cases h : v.x.has <;> simp [h]
def pointV (vs : List Vt) : List (List UInt8 × List Value) := vs.filterMap fun v => if v.x.leaf then none else some (v.way, [.int .i64 v.kind, .bool v.x.has])
theorem pointV_snoc (vs : List Vt) (v : Vt) : pointV (vs ++ [v]) = if v.x.leaf then pointV vs else pointV vs ++ [(v.way, [.int .i64 v.kind, .bool v.x.has])] := by
  unfold pointV
  rw [List.filterMap_append]
  cases h : v.x.leaf <;> simp [h]
theorem lit_cells {w : World} {g : Nat} {cs : List Value} (h : Blk w g cs.toArray) : ∀ (j : Nat) (u : Value), cs[j]? = some u → w.cell? ((⟨g, 0, none⟩ : Addr).add j) = some u := fun j u hj => by
  have e : (⟨g, 0, none⟩ : Addr).add j = ⟨g, j, none⟩ := by
    unfold Addr.add
    split
    · rename_i h0; rw [h0]
    · simp
  rw [e, h.cell j]
  simpa using hj
set_option maxRecDepth 100000 in
theorem info_pair : (Tryz.prog.info? 31).map (fun i => (i.zero, i.size, i.bytes)) = some (some (.agg #[.slice none 0 0, .int .u64 0]), 2, 32) := by kernel_rfl
/-- bytes.Clone, with the room that stands behind. -/
def CrPost (w : World) (l : List UInt8) (e : Ending) (w' : World) : Prop :=
  ∃ A c, e = .returned (.slice A l.length c) ∧ Byt w' w'.heap.size A l.length l ∧ (∀ i, Pb A l i → w.heap.size ≤ i) ∧ Below w.heap.size w w' ∧ l.length ≤ c
set_option maxRecDepth 100000 in
set_option maxHeartbeats 400000 in
theorem bcloner_any (A : Option Addr) (n c B : Nat) (l : List UInt8) (w : World) (ha : Byt w B A n l) (hB : B ≤ w.heap.size) (hn : n ≤ 140737488355328) : Calls Tryz.prog 44 #[.slice A n c] w (CrPost w l) := by
  cases A with
  | none =>
    have h0 : l = [] := by
      cases l with
      | nil => rfl
      | cons u l => obtain ⟨ad, e, _⟩ := ha.2.2 (by have := ha.1; simp at this; omega); cases e
    subst h0
    clear ha
    have hnil := nilb_yes n c
    go_enter Tryz.func44, Tryz.ntmps44
    go_wp2
    go_ret
    exact ⟨none, 0, rfl, Byt.none_, fun i q => absurd rfl q.1, Below.refl _ _, Nat.le_refl _⟩
  | some ad =>
    have HA := Lib.hid ha
    clear ha
    have hnil := nilb_no ad n c
    go_enter Tryz.func44, Tryz.ntmps44
    go_wp2_with (at_builtin
                 refine wpList_append_byt _ rfl (.tmp 5) (.tmp 6) _ rfl Tryz.underlying23 info_u8 w.heap.size (.slice (some ⟨w.heap.size, 0, none⟩) 0 0) 0 [] rfl (Mine.made w _ _ 0 (by unfold maxLen; omega) (Nat.le_refl _)) B (some ad) n c l rfl (HA.out.alloc hB _) (by omega) (by simp) ?_
                 intro v2 w2 hm2 hg2 _
                 rw [Nat.zero_add, List.nil_append] at hm2
                 have HM2 := Lib.hid hm2
                 have C2 := Lib.hid (((Below.refl w.heap.size w).alloc (Nat.le_refl _) _).grown hg2 (by simp) (by simp [Value.ownBlock]))
                 clear hm2 hg2)
    go_wp2
    go_ret
    obtain ⟨A2, c2, rfl⟩ := HM2.out.slice
    have hl := HA.out.1
    subst hl
    refine ⟨A2, c2, rfl, HM2.out.byt, fun i hi => ?_, C2.out, HM2.out.room⟩
    obtain ⟨hne, ad2, rfl, rfl⟩ := hi
    obtain ⟨g2, cap, hv, hlo, _⟩ := World.ownsRow.form HM2.out (List.length_pos_iff.2 hne)
    injection hv with hv
    injection hv with hv
    subst hv
    exact hlo
theorem kindN_ne (n : Nat) : ¬ (kindN n : Int) = 1 := by unfold kindN; split <;> (try split) <;> (try split) <;> omega

set_option maxRecDepth 100000 in
set_option maxHeartbeats 2000000 in
theorem clist_any (t : Option (Nn × Fo)) (p : Option Addr) (w : World) (ht : OTre w (· < w.heap.size) t p) (hf : Fits t) :
    Calls Tryz.prog 23 #[.pointer p] w fun e w' => ∃ A c ys, e = .returned (.slice A ys.length c) ∧ ys.length ≤ c ∧ Kys w' w'.heap.size A 2 ys ∧ ys.map (fun y => (y.key, y.more)) = listV (otvis t) ∧ Below w.heap.size w w' := by
  obtain ⟨n, hn1⟩ : ∃ n : Nat, 1 ≤ n := ⟨1, Nat.le_refl _⟩
  have HN1 := Lib.hid hn1
  clear hn1
  refine (callsIn_wide (n := n)).1 ?_
  refine callsIn_of_wp_marks Tryz.func23 rfl trivial ?_
  simp only [Tryz.ntmps23, List.size_toArray, List.length_cons, List.length_nil, Nat.reduceAdd, Nat.reduceSub, Array.replicate_succ, Array.replicate_zero, List.push_toArray, List.append_toArray, List.nil_append, List.cons_append]
  obtain ⟨W0, hW0⟩ : ∃ W, w.alloc (.cells #[.slice none 0 0] 41) = W := ⟨_, rfl⟩
  have b0 : Below w.heap.size w W0 := by rw [← hW0]; exact (Below.refl _ _).alloc (Nat.le_refl _) _
  have s0 : W0.heap.size = w.heap.size + 1 := by rw [← hW0]; simp
  have c0 : Blk W0 w.heap.size #[.slice none 0 0] := by rw [← hW0]; exact Blk.new w 41 _
  have H1 := Lib.hid (stops_any p W0)
  have HW0 := Lib.hid hW0
  clear hW0
  gi_wp2_with fail
  rw [HW0.out]
  refine ⟨trivial, wide_deep, ?_⟩
  refine (callsIn_wide.2 H1.out).mono ?_
  rintro e W1 ⟨rfl, rfl⟩
  gi_wp2_with fail
  obtain ⟨W2, hW2⟩ : ∃ W, W0.alloc (.cells #[.pointer p] 27) = W := ⟨_, rfl⟩
  have b2 : Below W0.heap.size W0 W2 := by rw [← hW2]; exact (Below.refl _ _).alloc (Nat.le_refl _) _
  have s2 : W2.heap.size = w.heap.size + 2 := by rw [← hW2]; simp; omega
  have bw : Below w.heap.size w W2 := b0.trans (b2.mono (by omega))
  have c2 : W2.cell? ⟨w.heap.size + 1, 0, none⟩ = some (.pointer p) := by rw [← hW2, ← s0]; exact (Blk.new W0 27 #[.pointer p]).cell 0
  have tw : OTre W2 (· < w.heap.size) t p := by
    cases t with
    | none => exact ht
    | some xk => obtain ⟨g, e, h⟩ := ht; exact ⟨g, e, h.below (fun _ q => q) bw⟩
  have hseq := stops1_seqs (n₀ := w.heap.size) (Bx := w.heap.size + 1) t (by omega) c2 tw hf.1
  have cI := c0.below b2 (by omega)
  rw [hW2]
  refine range_mine (n₀ := w.heap.size) HN1.out (gf := 58) (lb := #[.pointer (some ⟨w.heap.size + 1, 0, none⟩)]) rfl (enters_of Tryz.func58 (by kernel_rfl) rfl) (by omega) hseq
    (fun pre N W => Below w.heap.size w W ∧ ∃ ys, Krow w.heap.size W N w.heap.size 31 2 ys ∧ ys.map (fun y => (y.key, y.more)) = listV pre) (fun _ _ => False) ?hI (fun _ _ _ q _ => q) ⟨bw, [], Krow.nil _ _ cI (fun q => q) (Nat.le_refl _), rfl⟩
    (fun bx gg A k c d => { tmps := #[.pointer p, undef, .slice none 0 0, .pointer (some ⟨w.heap.size, 0, none⟩), .pointer (some ⟨bx, 0, none⟩), undef, undef, .pointer p, .func (.func 58) #[] #[.pointer (some ⟨w.heap.size + 1, 0, none⟩)], visV gg A k c d, undef, undef, undef, undef, undef, undef, undef, undef, undef, undef, undef, undef, undef, undef, undef, undef], defers := [] }) ?assign ?body ?done ?stop
  case hI =>
    rintro pre N N' A B ⟨i1, ys, i2, i3⟩ hs hN
    exact ⟨i1.trans hs.below, ys, i2.step hs hN, i3⟩
  case assign =>
    intro l gg A k c d W K hK
    gi_wp2_with fail
    exact hK _ (Blk.new _ _ _) ((Below.refl _ _).alloc (Nat.le_refl _) _) (KeepsOthers.alloc _ _) (by simp)
  case body =>
    rintro l pre v N bx gg A k c U ⟨i1, ys, i2, i3⟩ ⟨post, hpost⟩ hN hnU hv hb hbx hNx
    obtain ⟨be, A', ek, t1, _, _⟩ := hv.nod
    have e0 : U.cell? ⟨bx, 0, none⟩ = some (.pointer (some ⟨gg, 0, none⟩)) := hb.cell 0
    have H := Lib.hid (show Calls Tryz.prog 43 #[.pointer (some ⟨gg, 0, none⟩)] U fun e w' => e = .returned (.tuple #[.int .u64 v.x.val, .bool v.x.has]) ∧ Still U w' from val_any t1)
    have hwl : v.way.length ≤ 1000000 := (hf.1 v (by rw [hpost]; simp)).1
    have hys : ys.length ≤ pre.length := by
      have := congrArg List.length i3
      rw [List.length_map] at this
      rw [this]
      exact List.length_filterMap_le _ _
    have hpl : pre.length + 1 ≤ 16777216 := by have h2 := hf.2; rw [hpost] at h2; simp at h2; omega
    obtain rfl : v.way.length = k := hv.byt.1
    have hbn0 : bx < U.heap.size := hb.lt
    have hNl : ∀ i, (N i ∨ i = bx) → i < U.heap.size := fun i q => q.elim (fun q => (hN i q).2) (fun e => e ▸ hbn0)
    have hbC : ¬ bx = w.heap.size := fun e => i2.nC (.inr e.symm)
    obtain ⟨A0, c0', r1, r2, r3⟩ := i2.row
    have ES0 : U.cell? ⟨bx, 0, none⟩ = some (.pointer (some ⟨gg, 0, none⟩)) ∧ U.cell? ⟨bx, 1, none⟩ = some (.slice A v.way.length c) := ⟨hb.cell 0, hb.cell 1⟩
    have HN2 := Lib.hid (show listV (pre ++ [v]) = if v.x.has then listV pre ++ [(v.way, [.int .u64 v.x.val])] else listV pre from listV_snoc pre v)
    have HX := Lib.hid (fun (U1 : World) (hs : Still U U1) => show KeepsOthers U U1 ∧ Kept (fun i => w.heap.size ≤ i ∧ ¬ N i) U U1 ∧ Below w.heap.size w U1 ∧ ∃ ys, Krow w.heap.size U1 N w.heap.size 31 2 ys ∧ ys.map (fun y => (y.key, y.more)) = listV pre from
      ⟨hs.others, Kept.still hs, i1.trans (hs.below _), ys, i2.step (Stp1.of_kept (Kept.still hs) (fun i q => q.elim (fun q => (hN i q).1) (fun e => e ▸ hbx)) hnU) (fun i q => .inl (.inl q)), i3⟩)
    have HW := Lib.hid (fun (U1 : World) (hs : Still U U1) => show (U1.heap.size = U.heap.size) ∧ Krow w.heap.size U1 (fun i => N i ∨ i = bx) w.heap.size 31 2 ys ∧ (U1.cell? ⟨bx, 0, none⟩ = some (.pointer (some ⟨gg, 0, none⟩)) ∧ U1.cell? ⟨bx, 1, none⟩ = some (.slice A v.way.length c)) ∧ Byt U1 U1.heap.size A v.way.length v.way ∧ U1.cell? ⟨w.heap.size, 0, none⟩ = some (.slice A0 ys.length c0') ∧ MineR U1 w.heap.size 31 2 (.slice A0 ys.length c0') ys.length (ys.map Ky.cells) from by
      obtain ⟨q, rfl⟩ := hs
      exact ⟨rfl, i2.step (Stp1.of_kept (Kept.still ⟨q, rfl⟩) (fun i q => q.elim (fun q => (hN i q).1) (fun e => e ▸ hbx)) hnU) (fun i q => .inl q), ES0, hv.byt, r1.cell 0, r2⟩)
    have HB1 := Lib.hid (Below.trans i1 (Below.refl w.heap.size U))
    have I3 := Lib.hid i3
    have HNU := Lib.hid hnU
    have HNN := Lib.hid hN
    have HNL := Lib.hid hNl
    have HYS := Lib.hid (show ys.length + 1 ≤ 16777216 by omega)
    clear t1 i1 i2 i3 r1 r2 r3 ES0 hv hb hpost hseq tw hN hNl hys hpl
    generalize v.x.has = hh at H HN2
    obtain ⟨vv, hvv⟩ : ∃ vv, v.x.val = vv := ⟨_, rfl⟩
    rw [hvv] at H HN2
    clear hvv
    gi_wp2_with fail
    refine ⟨trivial, round_deep (l := l), ?_⟩
    refine (CallsIn.inRound l (callsIn_wide.2 H.out)).mono ?_
    rintro e U1 ⟨rfl, hs⟩
    have HS1 := Lib.hid hs
    obtain ⟨y1, y2, y3, y4, y5, y6⟩ := HW.out U1 hs
    obtain ⟨x1, x2, x3, x4⟩ := HX.out U1 hs
    have X1 := Lib.hid x1
    have X2 := Lib.hid x2
    have X3 := Lib.hid x3
    have X4 := Lib.hid x4
    have K2 := Lib.hid y2
    have ES := Lib.hid y3
    have hbn : bx < U1.heap.size := by omega
    have KP := Lib.hid (fun (W' : World) (hb : Below U1.heap.size U1 W') => show W'.cell? ⟨bx, 0, none⟩ = some (.pointer (some ⟨gg, 0, none⟩)) ∧ W'.cell? ⟨bx, 1, none⟩ = some (.slice A v.way.length c) from ⟨(hb.cell (p := ⟨bx, 0, none⟩) hbn).trans y3.1, (hb.cell (p := ⟨bx, 1, none⟩) hbn).trans y3.2⟩)
    have KC := Lib.hid (fun (W' : World) (hb : Below U1.heap.size U1 W') => show W'.cell? ⟨w.heap.size, 0, none⟩ = some (.slice A0 ys.length c0') from (hb.cell (p := ⟨w.heap.size, 0, none⟩) (lt_cell y5)).trans y5)
    have HC := Lib.hid (fun (W' : World) (hb : Below U1.heap.size U1 W') => bcloner_any A v.way.length c _ v.way W' ((y4.below hb).more hb.size) (Nat.le_refl _) (by omega))
    have MR := Lib.hid (fun (W' : World) (hb : Below U1.heap.size U1 W') => show MineR W' w.heap.size 31 2 (.slice A0 ys.length c0') ys.length (ys.map Ky.cells) from y6.below hb (fun g hg => (y6.lt g hg).2))
    have KM := Lib.hid (fun (A2 : Option Addr) (c2 : Nat) (U3 U4 : World) (v3 : Value) (hb : Below U1.heap.size U1 U3) (z1 : Byt U3 U3.heap.size A2 v.way.length v.way) (z2 : ∀ i, Pb A2 v.way i → U1.heap.size ≤ i) (z4 : v.way.length ≤ c2) (m3 : MineR U4 w.heap.size 31 2 v3 (ys.length + 1) (ys.map Ky.cells ++ [[.slice A2 v.way.length c2, .int .u64 vv]])) (g3 : U3.grownBy U4 (Value.slice A0 ys.length c0').ownBlock) (o3 : v3.ownBlock = (Value.slice A0 ys.length c0').ownBlock ∨ v3.ownBlock = some U3.heap.size) => Krow.more y2 hb (fun i q => by have := HNL.out i q; omega) ⟨A2, c2, v.way, [.int .u64 vv]⟩ z1 z2 z4 y5 m3 g3 o3)
    have HNU1 := Lib.hid (show w.heap.size ≤ U1.heap.size by omega)
    clear hs y1 y2 y3 y4 y5 y6 x1 x2 x3 x4 H HW HX HNU
    cases hh with
    | false =>
      gi_wp2
      exact ⟨X1.out, X2.out, X3.out, by obtain ⟨ys', q1, q2⟩ := X4.out; exact ⟨ys', q1, by rw [HN2.out]; exact q2⟩⟩
    | true =>
      gi_wp2_with fail
      refine region_round (fun w' => w'.cell? ⟨bx, 0, none⟩ = some (.pointer (some ⟨gg, 0, none⟩)) ∧ w'.cell? ⟨bx, 1, none⟩ = some (.slice A v.way.length c)) (by kernel_rfl) (fun ⟨_, _, h⟩ => h) (noDefer_of (by kernel_rfl)) (KP.out _ (Below.refl U1.heap.size U1).drew) (fun hHeld => ?_)
      refine wpAnyH_take (i := 1) (oi := { dst := some 18, op := Op.fieldAddr 70 (Operand.tmp 4) 1, type := 0, pos := "canon.go:45", after := #[], guard := none }) (v := ?v1) rfl (by kernel_rfl) (by kernel_rfl) (by kernel_rfl) (fun _ _ _ h => h) (Or.inl ⟨by rfl, ?hy1⟩) hHeld ?rest1
      case hy1 => (intro w' hSw; (try dsimp only at hSw); go_simp; (try with_reducible rfl))
      try simp only [Act.put, List.setIfInBounds_toArray, List.set_cons_zero, List.set_cons_succ]
      refine wpAnyH_take (i := 2) (oi := { dst := some 19, op := Op.load 23 (Operand.tmp 18), type := 23, pos := "canon.go:45", after := #[{ on := 1, ground := Ground.data }], guard := none }) (v := ?v2) rfl (by kernel_rfl) (by kernel_rfl) (by kernel_rfl) (fun _ _ _ h => h) (Or.inl ⟨by rfl, ?hy2⟩) hHeld ?rest2
      case hy2 => (intro w' hSw; (try dsimp only at hSw); go_simp; (try with_reducible rfl))
      try simp only [Act.put, List.setIfInBounds_toArray, List.set_cons_zero, List.set_cons_succ]
      refine wpAnyH_take (i := 4) (oi := { dst := some 21, op := Op.move (Operand.tmp 5), type := 29, pos := "canon.go:45", after := #[], guard := none }) (v := ?v3) rfl (by kernel_rfl) (by kernel_rfl) (by kernel_rfl) (fun _ _ _ h => h) (Or.inl ⟨by rfl, ?hy3⟩) hHeld ?rest3
      case hy3 => (intro w' hSw; (try dsimp only at hSw); go_simp; (try with_reducible rfl))
      try simp only [Act.put, List.setIfInBounds_toArray, List.set_cons_zero, List.set_cons_succ]
      refine wpAnyH_ready (rs := [0, 3]) (by kernel_rfl) (by simp) (AllReadyH.cons (o := { dst := some 17, op := Op.load 41 (Operand.tmp 3), type := 41, pos := "canon.go:45", after := #[], guard := none }) rfl (fun K hK => ?_) (AllReadyH.cons (o := { dst := some 20, op := Op.call { callee := Callee.value (Operand.func 44), args := #[Operand.tmp 19], argTypes := #[23] }, type := 23, pos := "canon.go:45", after := #[{ on := 2, ground := Ground.data }], guard := none }) rfl (fun K hK => ?_) AllReadyH.nil))
      · have cz := KC.out _ ((Below.refl U1.heap.size U1).drew)
        go_simp
        refine hK.out _ _ (KP.out _ (Below.refl U1.heap.size U1).drew) (fun hHeld' => ?_)
        clear hK K hHeld
        have hHeld := hHeld'
        clear hHeld'
        try simp only [Act.put, List.setIfInBounds_toArray, List.set_cons_zero, List.set_cons_succ]
        refine wpAnyH_ready (rs := [3]) (by kernel_rfl) (by simp) (AllReadyH.cons (o := { dst := some 20, op := Op.call { callee := Callee.value (Operand.func 44), args := #[Operand.tmp 19], argTypes := #[23] }, type := 23, pos := "canon.go:45", after := #[{ on := 2, ground := Ground.data }], guard := none }) rfl (fun K hK => ?_) AllReadyH.nil)
        go_simp
        (with_reducible refine (HC.out _ (Below.refl U1.heap.size U1).drew).mono ?_)
        rintro e U2 ⟨A2, c2, rfl, z1, z2, z3, z4⟩
        have Z1 := Lib.hid z1
        have Z2 := Lib.hid z2
        have Z3 := Lib.hid (((Below.refl U1.heap.size U1).drew).trans (z3.mono ((Below.refl U1.heap.size U1).drew).size))
        have Z4 := Lib.hid z4
        clear z1 z2 z3 z4
        go_wp2_with fail
        refine hK.out _ _ (KP.out _ Z3.out) (fun hHeld' => ?_)
        clear hK K hHeld
        have hHeld := hHeld'
        clear hHeld'
        try simp only [Act.put, List.setIfInBounds_toArray, List.set_cons_zero, List.set_cons_succ]
        refine wpAnyH_take (i := 5) (oi := { dst := some 22, op := Op.build 31 #[(0, Operand.tmp 20), (1, Operand.tmp 21)], type := 31, pos := "canon.go:45", after := #[{ on := 3, ground := Ground.data }, { on := 4, ground := Ground.data }], guard := none }) (v := ?v4) rfl (by kernel_rfl) (by kernel_rfl) (by kernel_rfl) (fun _ _ _ h => h) (Or.inl ⟨by rfl, ?hy4⟩) hHeld ?rest4
        case hy4 => (intro w' hSw; (try dsimp only at hSw); go_simp; (try with_reducible rfl))
        try simp only [Act.put, List.setIfInBounds_toArray, List.set_cons_zero, List.set_cons_succ]
        refine wpAnyH_ready (rs := [6]) (by kernel_rfl) (by simp) (AllReadyH.cons (o := { dst := some 23, op := Op.buildSlice 41 1 #[(0, Operand.tmp 22)], type := 41, pos := "canon.go:45", after := #[{ on := 5, ground := Ground.data }], guard := none }) rfl (fun K hK => ?_) AllReadyH.nil)
        go_simp
        obtain ⟨U3, hU3⟩ : ∃ W, U2.alloc (.cells #[.slice A2 v.way.length c2, .int .u64 vv] 31) = W := ⟨_, rfl⟩
        have B3 := Lib.hid (show Below U1.heap.size U1 U3 by rw [← hU3]; exact (Z3.out).alloc (Z3.out).size _)
        have LB := Lib.hid (show Blk U3 U2.heap.size #[.slice A2 v.way.length c2, .int .u64 vv] by rw [← hU3]; exact Blk.new _ _ _)
        have Z1' := Lib.hid (show Byt U3 U3.heap.size A2 v.way.length v.way by rw [← hU3]; exact (Byt.alloc (B := U2.heap.size) ((Z1.out).more (Nat.le_refl _)) (Nat.le_refl _) _).more (by simp))
        rw [hU3]
        clear hU3
        refine hK.out _ _ (KP.out _ B3.out) (fun hHeld' => ?_)
        clear hK K hHeld
        have hHeld := hHeld'
        clear hHeld'
        try simp only [Act.put, List.setIfInBounds_toArray, List.set_cons_zero, List.set_cons_succ]
        refine wpAnyH_ready (rs := [7]) (by kernel_rfl) (by simp) (AllReadyH.cons (o := { dst := some 24, op := Op.call { callee := Callee.builtin Builtin.append, args := #[Operand.tmp 17, Operand.tmp 23], argTypes := #[41, 41] }, type := 41, pos := "canon.go:45", after := #[{ on := 0, ground := Ground.data }, { on := 6, ground := Ground.data }, { on := 3, ground := Ground.chain }], guard := none }) rfl (fun K hK => ?_) AllReadyH.nil)
        rw [if_pos (by rfl)]
        refine wp_append_rws _ (.tmp 17) (.tmp 23) _ rfl Tryz.underlying41 info_pair (by rfl) (by decide) w.heap.size (.slice A0 ys.length c0') ys.length (ys.map Ky.cells) (by rfl) (MR.out _ B3.out) ⟨U2.heap.size, 0, none⟩ 1 [.slice A2 v.way.length c2, .int .u64 vv] (by rfl) (by rfl) (lit_cells LB.out) (by intro u hu; simp at hu; rcases hu with rfl | rfl <;> rfl) (by have := HYS.out; omega) (by have := HYS.out; unfold maxLen; omega) (by have := B3.out.size; have := HNU1.out; omega) ?_
        intro v3 U4 m3 g3 o3
        obtain ⟨A3, c3, rfl, _⟩ := m3.slice
        obtain ⟨x1, x2, x3, x4, x5, x6, x7⟩ := KM.out A2 c2 U3 U4 _ B3.out Z1'.out Z2.out Z4.out m3 g3 o3
        have E1 := Lib.hid x3
        have E2 := Lib.hid x4
        have E3 := Lib.hid x5
        have S4 := Lib.hid (show U4.cell? ⟨bx, 0, none⟩ = some (.pointer (some ⟨gg, 0, none⟩)) ∧ U4.cell? ⟨bx, 1, none⟩ = some (.slice A v.way.length c) from ⟨(x6.cell (p := ⟨bx, 0, none⟩) hbn (fun q => x7 _ q (.inr rfl))).trans ES.out.1, (x6.cell (p := ⟨bx, 1, none⟩) hbn (fun q => x7 _ q (.inr rfl))).trans ES.out.2⟩)
        have S6 := Lib.hid (show (U4.setCell ⟨w.heap.size, 0, none⟩ (.slice A3 (ys.length + 1) c3)).cell? ⟨bx, 0, none⟩ = some (.pointer (some ⟨gg, 0, none⟩)) ∧ (U4.setCell ⟨w.heap.size, 0, none⟩ (.slice A3 (ys.length + 1) c3)).cell? ⟨bx, 1, none⟩ = some (.slice A v.way.length c) from ⟨(World.cell?_setCell_far _ _ _ _ (fun e => hbC e.symm)).trans S4.out.1, (World.cell?_setCell_far _ _ _ _ (fun e => hbC e.symm)).trans S4.out.2⟩)
        have c4 := x1
        have z4 := x2
        clear m3 g3 o3 x1 x2 x3 x4 x5 x6 x7
        refine hK.out _ _ S4.out (fun hHeld' => ?_)
        clear hK K hHeld
        have hHeld := hHeld'
        clear hHeld'
        try simp only [Act.put, List.setIfInBounds_toArray, List.set_cons_zero, List.set_cons_succ]
        refine wpAnyH_ready (rs := [8]) (by kernel_rfl) (by simp) (AllReadyH.cons (o := { dst := none, op := Op.store 41 (Operand.tmp 3) (Operand.tmp 24), type := 0, pos := "canon.go:45", after := #[{ on := 7, ground := Ground.data }, { on := 7, ground := Ground.chain }, { on := 0, ground := Ground.phase }, { on := 1, ground := Ground.phase }, { on := 2, ground := Ground.phase }, { on := 3, ground := Ground.phase }, { on := 4, ground := Ground.phase }, { on := 5, ground := Ground.phase }, { on := 6, ground := Ground.phase }, { on := 7, ground := Ground.phase }], guard := none }) rfl (fun K hK => ?_) AllReadyH.nil)
        go_simp
        refine hK.out _ _ S6.out (fun hHeld' => ?_)
        clear hK K hHeld
        have hHeld := hHeld'
        clear hHeld'
        try simp only [Act.put, List.setIfInBounds_toArray, List.set_cons_zero, List.set_cons_succ]
        refine wpAnyH_done (by kernel_rfl) ?_ _
        gi_wp2
        exact ⟨X1.out.trans E3.out, X2.out.trans (E2.out.mono (fun i q => ⟨q.1, fun z => q.2 (.inl z)⟩)), X3.out.trans (E2.out.below HNU1.out (fun i q => q.1)), ys ++ [⟨A2, c2, v.way, [.int .u64 vv]⟩], E1.out.step (Stp1.of_kept (Kept.refl _ _) (fun i q => q.elim (fun q => (HNN.out i q).1) (fun e => e ▸ hbx)) (E2.out.size |> Nat.le_trans HNU1.out)) (fun i q => .inl (.inl q)), by rw [HN2.out, List.map_append, I3.out]; rfl⟩
      · go_simp
        (with_reducible refine (HC.out _ (Below.refl U1.heap.size U1).drew).mono ?_)
        rintro e U2 ⟨A2, c2, rfl, z1, z2, z3, z4⟩
        have Z1 := Lib.hid z1
        have Z2 := Lib.hid z2
        have Z3 := Lib.hid (((Below.refl U1.heap.size U1).drew).trans (z3.mono ((Below.refl U1.heap.size U1).drew).size))
        have Z4 := Lib.hid z4
        clear z1 z2 z3 z4
        go_wp2_with fail
        refine hK.out _ _ (KP.out _ Z3.out) (fun hHeld' => ?_)
        clear hK K hHeld
        have hHeld := hHeld'
        clear hHeld'
        try simp only [Act.put, List.setIfInBounds_toArray, List.set_cons_zero, List.set_cons_succ]
        refine wpAnyH_take (i := 5) (oi := { dst := some 22, op := Op.build 31 #[(0, Operand.tmp 20), (1, Operand.tmp 21)], type := 31, pos := "canon.go:45", after := #[{ on := 3, ground := Ground.data }, { on := 4, ground := Ground.data }], guard := none }) (v := ?v5) rfl (by kernel_rfl) (by kernel_rfl) (by kernel_rfl) (fun _ _ _ h => h) (Or.inl ⟨by rfl, ?hy5⟩) hHeld ?rest5
        case hy5 => (intro w' hSw; (try dsimp only at hSw); go_simp; (try with_reducible rfl))
        try simp only [Act.put, List.setIfInBounds_toArray, List.set_cons_zero, List.set_cons_succ]
        refine wpAnyH_ready (rs := [0, 6]) (by kernel_rfl) (by simp) (AllReadyH.cons (o := { dst := some 17, op := Op.load 41 (Operand.tmp 3), type := 41, pos := "canon.go:45", after := #[], guard := none }) rfl (fun K hK => ?_) (AllReadyH.cons (o := { dst := some 23, op := Op.buildSlice 41 1 #[(0, Operand.tmp 22)], type := 41, pos := "canon.go:45", after := #[{ on := 5, ground := Ground.data }], guard := none }) rfl (fun K hK => ?_) AllReadyH.nil))
        · have cz := KC.out _ (Z3.out)
          go_simp
          refine hK.out _ _ (KP.out _ Z3.out) (fun hHeld' => ?_)
          clear hK K hHeld
          have hHeld := hHeld'
          clear hHeld'
          try simp only [Act.put, List.setIfInBounds_toArray, List.set_cons_zero, List.set_cons_succ]
          refine wpAnyH_ready (rs := [6]) (by kernel_rfl) (by simp) (AllReadyH.cons (o := { dst := some 23, op := Op.buildSlice 41 1 #[(0, Operand.tmp 22)], type := 41, pos := "canon.go:45", after := #[{ on := 5, ground := Ground.data }], guard := none }) rfl (fun K hK => ?_) AllReadyH.nil)
          go_simp
          obtain ⟨U3, hU3⟩ : ∃ W, U2.alloc (.cells #[.slice A2 v.way.length c2, .int .u64 vv] 31) = W := ⟨_, rfl⟩
          have B3 := Lib.hid (show Below U1.heap.size U1 U3 by rw [← hU3]; exact (Z3.out).alloc (Z3.out).size _)
          have LB := Lib.hid (show Blk U3 U2.heap.size #[.slice A2 v.way.length c2, .int .u64 vv] by rw [← hU3]; exact Blk.new _ _ _)
          have Z1' := Lib.hid (show Byt U3 U3.heap.size A2 v.way.length v.way by rw [← hU3]; exact (Byt.alloc (B := U2.heap.size) ((Z1.out).more (Nat.le_refl _)) (Nat.le_refl _) _).more (by simp))
          rw [hU3]
          clear hU3
          refine hK.out _ _ (KP.out _ B3.out) (fun hHeld' => ?_)
          clear hK K hHeld
          have hHeld := hHeld'
          clear hHeld'
          try simp only [Act.put, List.setIfInBounds_toArray, List.set_cons_zero, List.set_cons_succ]
          refine wpAnyH_ready (rs := [7]) (by kernel_rfl) (by simp) (AllReadyH.cons (o := { dst := some 24, op := Op.call { callee := Callee.builtin Builtin.append, args := #[Operand.tmp 17, Operand.tmp 23], argTypes := #[41, 41] }, type := 41, pos := "canon.go:45", after := #[{ on := 0, ground := Ground.data }, { on := 6, ground := Ground.data }, { on := 3, ground := Ground.chain }], guard := none }) rfl (fun K hK => ?_) AllReadyH.nil)
          rw [if_pos (by rfl)]
          refine wp_append_rws _ (.tmp 17) (.tmp 23) _ rfl Tryz.underlying41 info_pair (by rfl) (by decide) w.heap.size (.slice A0 ys.length c0') ys.length (ys.map Ky.cells) (by rfl) (MR.out _ B3.out) ⟨U2.heap.size, 0, none⟩ 1 [.slice A2 v.way.length c2, .int .u64 vv] (by rfl) (by rfl) (lit_cells LB.out) (by intro u hu; simp at hu; rcases hu with rfl | rfl <;> rfl) (by have := HYS.out; omega) (by have := HYS.out; unfold maxLen; omega) (by have := B3.out.size; have := HNU1.out; omega) ?_
          intro v3 U4 m3 g3 o3
          obtain ⟨A3, c3, rfl, _⟩ := m3.slice
          obtain ⟨x1, x2, x3, x4, x5, x6, x7⟩ := KM.out A2 c2 U3 U4 _ B3.out Z1'.out Z2.out Z4.out m3 g3 o3
          have E1 := Lib.hid x3
          have E2 := Lib.hid x4
          have E3 := Lib.hid x5
          have S4 := Lib.hid (show U4.cell? ⟨bx, 0, none⟩ = some (.pointer (some ⟨gg, 0, none⟩)) ∧ U4.cell? ⟨bx, 1, none⟩ = some (.slice A v.way.length c) from ⟨(x6.cell (p := ⟨bx, 0, none⟩) hbn (fun q => x7 _ q (.inr rfl))).trans ES.out.1, (x6.cell (p := ⟨bx, 1, none⟩) hbn (fun q => x7 _ q (.inr rfl))).trans ES.out.2⟩)
          have S6 := Lib.hid (show (U4.setCell ⟨w.heap.size, 0, none⟩ (.slice A3 (ys.length + 1) c3)).cell? ⟨bx, 0, none⟩ = some (.pointer (some ⟨gg, 0, none⟩)) ∧ (U4.setCell ⟨w.heap.size, 0, none⟩ (.slice A3 (ys.length + 1) c3)).cell? ⟨bx, 1, none⟩ = some (.slice A v.way.length c) from ⟨(World.cell?_setCell_far _ _ _ _ (fun e => hbC e.symm)).trans S4.out.1, (World.cell?_setCell_far _ _ _ _ (fun e => hbC e.symm)).trans S4.out.2⟩)
          have c4 := x1
          have z4 := x2
          clear m3 g3 o3 x1 x2 x3 x4 x5 x6 x7
          refine hK.out _ _ S4.out (fun hHeld' => ?_)
          clear hK K hHeld
          have hHeld := hHeld'
          clear hHeld'
          try simp only [Act.put, List.setIfInBounds_toArray, List.set_cons_zero, List.set_cons_succ]
          refine wpAnyH_ready (rs := [8]) (by kernel_rfl) (by simp) (AllReadyH.cons (o := { dst := none, op := Op.store 41 (Operand.tmp 3) (Operand.tmp 24), type := 0, pos := "canon.go:45", after := #[{ on := 7, ground := Ground.data }, { on := 7, ground := Ground.chain }, { on := 0, ground := Ground.phase }, { on := 1, ground := Ground.phase }, { on := 2, ground := Ground.phase }, { on := 3, ground := Ground.phase }, { on := 4, ground := Ground.phase }, { on := 5, ground := Ground.phase }, { on := 6, ground := Ground.phase }, { on := 7, ground := Ground.phase }], guard := none }) rfl (fun K hK => ?_) AllReadyH.nil)
          go_simp
          refine hK.out _ _ S6.out (fun hHeld' => ?_)
          clear hK K hHeld
          have hHeld := hHeld'
          clear hHeld'
          try simp only [Act.put, List.setIfInBounds_toArray, List.set_cons_zero, List.set_cons_succ]
          refine wpAnyH_done (by kernel_rfl) ?_ _
          gi_wp2
          exact ⟨X1.out.trans E3.out, X2.out.trans (E2.out.mono (fun i q => ⟨q.1, fun z => q.2 (.inl z)⟩)), X3.out.trans (E2.out.below HNU1.out (fun i q => q.1)), ys ++ [⟨A2, c2, v.way, [.int .u64 vv]⟩], E1.out.step (Stp1.of_kept (Kept.refl _ _) (fun i q => q.elim (fun q => (HNN.out i q).1) (fun e => e ▸ hbx)) (E2.out.size |> Nat.le_trans HNU1.out)) (fun i q => .inl (.inl q)), by rw [HN2.out, List.map_append, I3.out]; rfl⟩
        · go_simp
          obtain ⟨U3, hU3⟩ : ∃ W, U2.alloc (.cells #[.slice A2 v.way.length c2, .int .u64 vv] 31) = W := ⟨_, rfl⟩
          have B3 := Lib.hid (show Below U1.heap.size U1 U3 by rw [← hU3]; exact (Z3.out).alloc (Z3.out).size _)
          have LB := Lib.hid (show Blk U3 U2.heap.size #[.slice A2 v.way.length c2, .int .u64 vv] by rw [← hU3]; exact Blk.new _ _ _)
          have Z1' := Lib.hid (show Byt U3 U3.heap.size A2 v.way.length v.way by rw [← hU3]; exact (Byt.alloc (B := U2.heap.size) ((Z1.out).more (Nat.le_refl _)) (Nat.le_refl _) _).more (by simp))
          rw [hU3]
          clear hU3
          refine hK.out _ _ (KP.out _ B3.out) (fun hHeld' => ?_)
          clear hK K hHeld
          have hHeld := hHeld'
          clear hHeld'
          try simp only [Act.put, List.setIfInBounds_toArray, List.set_cons_zero, List.set_cons_succ]
          refine wpAnyH_ready (rs := [0]) (by kernel_rfl) (by simp) (AllReadyH.cons (o := { dst := some 17, op := Op.load 41 (Operand.tmp 3), type := 41, pos := "canon.go:45", after := #[], guard := none }) rfl (fun K hK => ?_) AllReadyH.nil)
          have cz := KC.out _ (B3.out)
          go_simp
          refine hK.out _ _ (KP.out _ B3.out) (fun hHeld' => ?_)
          clear hK K hHeld
          have hHeld := hHeld'
          clear hHeld'
          try simp only [Act.put, List.setIfInBounds_toArray, List.set_cons_zero, List.set_cons_succ]
          refine wpAnyH_ready (rs := [7]) (by kernel_rfl) (by simp) (AllReadyH.cons (o := { dst := some 24, op := Op.call { callee := Callee.builtin Builtin.append, args := #[Operand.tmp 17, Operand.tmp 23], argTypes := #[41, 41] }, type := 41, pos := "canon.go:45", after := #[{ on := 0, ground := Ground.data }, { on := 6, ground := Ground.data }, { on := 3, ground := Ground.chain }], guard := none }) rfl (fun K hK => ?_) AllReadyH.nil)
          rw [if_pos (by rfl)]
          refine wp_append_rws _ (.tmp 17) (.tmp 23) _ rfl Tryz.underlying41 info_pair (by rfl) (by decide) w.heap.size (.slice A0 ys.length c0') ys.length (ys.map Ky.cells) (by rfl) (MR.out _ B3.out) ⟨U2.heap.size, 0, none⟩ 1 [.slice A2 v.way.length c2, .int .u64 vv] (by rfl) (by rfl) (lit_cells LB.out) (by intro u hu; simp at hu; rcases hu with rfl | rfl <;> rfl) (by have := HYS.out; omega) (by have := HYS.out; unfold maxLen; omega) (by have := B3.out.size; have := HNU1.out; omega) ?_
          intro v3 U4 m3 g3 o3
          obtain ⟨A3, c3, rfl, _⟩ := m3.slice
          obtain ⟨x1, x2, x3, x4, x5, x6, x7⟩ := KM.out A2 c2 U3 U4 _ B3.out Z1'.out Z2.out Z4.out m3 g3 o3
          have E1 := Lib.hid x3
          have E2 := Lib.hid x4
          have E3 := Lib.hid x5
          have S4 := Lib.hid (show U4.cell? ⟨bx, 0, none⟩ = some (.pointer (some ⟨gg, 0, none⟩)) ∧ U4.cell? ⟨bx, 1, none⟩ = some (.slice A v.way.length c) from ⟨(x6.cell (p := ⟨bx, 0, none⟩) hbn (fun q => x7 _ q (.inr rfl))).trans ES.out.1, (x6.cell (p := ⟨bx, 1, none⟩) hbn (fun q => x7 _ q (.inr rfl))).trans ES.out.2⟩)
          have S6 := Lib.hid (show (U4.setCell ⟨w.heap.size, 0, none⟩ (.slice A3 (ys.length + 1) c3)).cell? ⟨bx, 0, none⟩ = some (.pointer (some ⟨gg, 0, none⟩)) ∧ (U4.setCell ⟨w.heap.size, 0, none⟩ (.slice A3 (ys.length + 1) c3)).cell? ⟨bx, 1, none⟩ = some (.slice A v.way.length c) from ⟨(World.cell?_setCell_far _ _ _ _ (fun e => hbC e.symm)).trans S4.out.1, (World.cell?_setCell_far _ _ _ _ (fun e => hbC e.symm)).trans S4.out.2⟩)
          have c4 := x1
          have z4 := x2
          clear m3 g3 o3 x1 x2 x3 x4 x5 x6 x7
          refine hK.out _ _ S4.out (fun hHeld' => ?_)
          clear hK K hHeld
          have hHeld := hHeld'
          clear hHeld'
          try simp only [Act.put, List.setIfInBounds_toArray, List.set_cons_zero, List.set_cons_succ]
          refine wpAnyH_ready (rs := [8]) (by kernel_rfl) (by simp) (AllReadyH.cons (o := { dst := none, op := Op.store 41 (Operand.tmp 3) (Operand.tmp 24), type := 0, pos := "canon.go:45", after := #[{ on := 7, ground := Ground.data }, { on := 7, ground := Ground.chain }, { on := 0, ground := Ground.phase }, { on := 1, ground := Ground.phase }, { on := 2, ground := Ground.phase }, { on := 3, ground := Ground.phase }, { on := 4, ground := Ground.phase }, { on := 5, ground := Ground.phase }, { on := 6, ground := Ground.phase }, { on := 7, ground := Ground.phase }], guard := none }) rfl (fun K hK => ?_) AllReadyH.nil)
          go_simp
          refine hK.out _ _ S6.out (fun hHeld' => ?_)
          clear hK K hHeld
          have hHeld := hHeld'
          clear hHeld'
          try simp only [Act.put, List.setIfInBounds_toArray, List.set_cons_zero, List.set_cons_succ]
          refine wpAnyH_done (by kernel_rfl) ?_ _
          gi_wp2
          exact ⟨X1.out.trans E3.out, X2.out.trans (E2.out.mono (fun i q => ⟨q.1, fun z => q.2 (.inl z)⟩)), X3.out.trans (E2.out.below HNU1.out (fun i q => q.1)), ys ++ [⟨A2, c2, v.way, [.int .u64 vv]⟩], E1.out.step (Stp1.of_kept (Kept.refl _ _) (fun i q => q.elim (fun q => (HNN.out i q).1) (fun e => e ▸ hbx)) (E2.out.size |> Nat.le_trans HNU1.out)) (fun i q => .inl (.inl q)), by rw [HN2.out, List.map_append, I3.out]; rfl⟩
  case done =>
    rintro D N W hD ⟨i1, ys, i2, i3⟩ hK
    obtain ⟨A0, c0', r1', r2, r3⟩ := (i2.step (N' := fun i => N i) (Stp1.put_obj N (.deferred none) hK rfl (by omega)) (fun i q => .inl q)).kys
    have hCl : w.heap.size < W.heap.size := by obtain ⟨_, _, q, _⟩ := i2.row; exact q.lt
    have r1 : W.cell? ⟨w.heap.size, 0, none⟩ = some (.slice A0 ys.length c0') := ((Kept.put_obj W D (.deferred none)).cell (p := ⟨w.heap.size, 0, none⟩) hCl (fun e => by simp at e; omega)).symm.trans r1'
    have HE := Lib.hid (below_put i1 (o' := .deferred none) (by omega) hK)
    have HY := Lib.hid r3
    have HK := Lib.hid hK
    have I3 := Lib.hid i3
    clear i1 i2 i3 r1' r3 hK hseq tw
    gi_wp2
    refine ⟨by simp, .inl ⟨_, _, rfl, run_takeDeferred HK.out, ?_⟩⟩
    exact ⟨_, results_tmp rfl _ _ _, A0, c0', ys, rfl, r2, HY.out, I3.out, HE.out⟩
  case stop =>
    rintro D c W hD h hK
    exact h.elim

end Go.Proofs.YtidiinededalmaaGreat
