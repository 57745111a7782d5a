/-
  Words for a row of structs that begin with bytes, as a loop collects it: its own cells, and the bytes' blocks. Nothing of the program is used.
  What canon.Count, Depth, Fine, List and Points tell: by one round for each node.
-/
import Derived.Test.YtajpipaooaemdaaGreatDoorTree
import Derived.Test.YtajpipaooaemdaaGreatDoorStops
import Derived.Test.YtajpipaooaemdaaGreatDoorCmp
import Derived.Test.YtajpipaooaemdaaGreatDoorText
import Derived.Laws.ResultCell
import Derived.Deep.RegionHeld3
namespace Go.Proofs.YtajpipaooaemdaaGreatDoor
open Go.RowKit

/-- A struct that begins with bytes. -/
structure Ky where
  A : Option Addr
  c : Nat
  key : List UInt8
  more : List Value
def Ky.cells (y : Ky) : List Value := .slice y.A y.key.length y.c :: y.more
/-- A slice of such in memory. -/
def Kys (w : World) (B : Nat) (A : Option Addr) (k : Nat) (ys : List Ky) : Prop :=
  Rws w B A ys.length k (ys.map Ky.cells) ∧ ∀ y ∈ ys, Byt w B y.A y.key.length y.key ∧ y.key.length ≤ y.c
theorem Kys.below {w w' : World} {B k : Nat} {A : Option Addr} {ys : List Ky} (h : Kys w B A k ys) (hb : Below B w w') : Kys w' B A k ys := ⟨h.1.below hb, fun y hy => ⟨(h.2 y hy).1.below hb, (h.2 y hy).2⟩⟩
theorem Kys.more {w : World} {B B' k : Nat} {A : Option Addr} {ys : List Ky} (h : Kys w B A k ys) (hB : B ≤ B') : Kys w B' A k ys := ⟨h.1.more hB, fun y hy => ⟨(h.2 y hy).1.more hB, (h.2 y hy).2⟩⟩

theorem cell_step {n₀ : Nat} {N : Nat → Prop} {A B : World} (hs : Stp1 n₀ N A B) {p : Addr} {v : Value} (h : A.cell? p = some v) (hN : ¬ N p.block) : B.cell? p = some v := by
  have hlt := lt_cell h
  have ho : A.heap[p.block]? = some A.heap[p.block] := Array.getElem?_eq_getElem hlt
  have hc : (A.heap[p.block]).isCells = true := by
    unfold World.cell? at h
    rw [ho] at h
    cases hx : A.heap[p.block] <;> rw [hx] at h <;> first | rfl | (simp at h)
  have hb := hs.same _ _ ho hc hN
  unfold World.cell? at h ⊢
  rw [ho] at h
  rw [hb]
  exact h
theorem Byt.step {n₀ : Nat} {N : Nat → Prop} {A B : World} {p : Option Addr} {l : List UInt8} (h : Byt A A.heap.size p l.length l) (hs : Stp1 n₀ N A B) (hN : ∀ i, Pb p l i → ¬ N i) : Byt B B.heap.size p l.length l :=
  ⟨h.1, h.2.1, fun hn => by
    obtain ⟨ad, e, hb, hc⟩ := h.2.2 hn
    refine ⟨ad, e, Nat.lt_of_lt_of_le hb hs.size, fun j u hu => cell_step hs (hc j u hu) ?_⟩
    rw [block_of_add]
    exact hN _ ⟨List.length_pos_iff.1 hn, ad, e, rfl⟩⟩
theorem MineR.step {n₀ base k n : Nat} {N : Nat → Prop} {A B : World} {e : TypeId} {v : Value} {css : List (List Value)} (h : MineR A base e k v n css) (hs : Stp1 n₀ N A B) (hN : ∀ i, v.ownBlock = some i → ¬ N i) : MineR B base e k v n css := by
  refine ⟨⟨h.1.1, ?_⟩, h.2⟩
  rcases h.1.2 with q | ⟨g, cap, cur, rfl, h1, h2, h3⟩
  · exact .inl q
  · exact .inr ⟨g, cap, cur, rfl, h1, hs.same g _ h2 rfl (hN g rfl), h3⟩

/-- A row that is collected: cell C holds it; none of it lies in N. -/
structure Krow (n₀ : Nat) (W : World) (N : Nat → Prop) (C : Nat) (e : TypeId) (k : Nat) (ys : List Ky) : Prop where
  row : ∃ A c, Blk W C #[.slice A ys.length c] ∧ MineR W n₀ e k (.slice A ys.length c) ys.length (ys.map Ky.cells) ∧ ∀ i, (Value.slice A ys.length c).ownBlock = some i → ¬ N i ∧ i ≠ C ∧ ∀ y ∈ ys, ¬ Pb y.A y.key i
  nC : ¬ N C
  lo : n₀ ≤ C
  byt : ∀ y ∈ ys, Byt W W.heap.size y.A y.key.length y.key ∧ y.key.length ≤ y.c ∧ ∀ i, Pb y.A y.key i → n₀ ≤ i ∧ ¬ N i ∧ i ≠ C
theorem Krow.step {n₀ C k : Nat} {N N' : Nat → Prop} {A B : World} {e : TypeId} {ys : List Ky} (h : Krow n₀ A N C e k ys) (hs : Stp1 n₀ N A B) (hN : ∀ i, N' i → N i ∨ A.heap.size ≤ i) : Krow n₀ B N' C e k ys := by
  obtain ⟨⟨A1, c, h1, h2, h3⟩, h4, h5, h6⟩ := h
  refine ⟨⟨A1, c, h1.step hs h4, h2.step hs (fun i hi => (h3 i hi).1), fun i hi => ⟨fun q => ?_, (h3 i hi).2⟩⟩, fun q => ?_, h5, fun y hy => ⟨(h6 y hy).1.step hs (fun i hi => ((h6 y hy).2.2 i hi).2.1), (h6 y hy).2.1, fun i hi => ⟨((h6 y hy).2.2 i hi).1, fun q => ?_, ((h6 y hy).2.2 i hi).2.2⟩⟩⟩
  · rcases hN _ q with q | q
    · exact (h3 i hi).1 q
    · have := (h2.lt i hi).2; omega
  · rcases hN _ q with q | q
    · exact h4 q
    · have := h1.lt; omega
  · rcases hN _ q with q | q
    · exact ((h6 y hy).2.2 i hi).2.1 q
    · have := (h6 y hy).1.ltPb hi; omega
/-- One more is collected. -/
theorem Krow.more {n₀ C k : Nat} {N : Nat → Prop} {U U2 U3 : World} {e : TypeId} {ys : List Ky} (h : Krow n₀ U N C e k ys) (hb : Below U.heap.size U U2) (hN : ∀ i, N i → i < U.heap.size) (y : Ky) (hy : Byt U2 U2.heap.size y.A y.key.length y.key) (hnew : ∀ i, Pb y.A y.key i → U.heap.size ≤ i) (hr : y.key.length ≤ y.c)
    {v v3 : Value} (hv : U.cell? ⟨C, 0, none⟩ = some v) (m3 : MineR U3 n₀ e k v3 (ys.length + 1) (ys.map Ky.cells ++ [y.cells])) (g3 : U2.grownBy U3 v.ownBlock) (o3 : v3.ownBlock = v.ownBlock ∨ v3.ownBlock = some U2.heap.size) :
    U3.cell? ⟨C, 0, none⟩ = some v ∧ U3.frozen? ⟨C, 0, none⟩ = false ∧ Krow n₀ (U3.setCell ⟨C, 0, none⟩ v3) N C e k (ys ++ [y]) ∧ Kept (fun i => n₀ ≤ i ∧ ¬ N i) U (U3.setCell ⟨C, 0, none⟩ v3) ∧ KeepsOthers U (U3.setCell ⟨C, 0, none⟩ v3) ∧ Kept (fun i => v.ownBlock = some i) U U3 ∧ ∀ i, v.ownBlock = some i → ¬ N i := by
  obtain ⟨⟨A1, c, h1, h2, h3⟩, h4, h5, h6⟩ := h
  have e1 : (some v : Option Value) = some (.slice A1 ys.length c) := by rw [← hv]; exact h1.cell 0
  injection e1 with e1
  subst e1
  have s2 := hb.size
  have s3 := g3.size
  have k2 : Kept (fun _ => False) U U2 := Kept.of_below hb
  have k3 : Kept (fun i => (Value.slice A1 ys.length c).ownBlock = some i) U2 U3 := ⟨g3.os, g3.tape, g3.output, g3.size, fun i hi hn => g3.block i hi (fun q => hn q.symm)⟩
  have k23 := (k2.mono (D' := fun i => (Value.slice A1 ys.length c).ownBlock = some i) (fun _ q => q.elim)).trans k3
  have hCl := h1.lt
  have b3 : Blk U3 C #[.slice A1 ys.length c] := k23.blk h1 (fun q => (h3 C q).2.1 rfl)
  have lo3 : ∀ i, (Value.slice A1 ys.length c).ownBlock = some i → n₀ ≤ i ∧ i < U.heap.size := fun i hi => h2.lt i hi
  obtain ⟨A3, c3, rfl, _⟩ := m3.slice
  have own3 : ∀ i, (Value.slice A3 (ys.length + 1) c3).ownBlock = some i → (Value.slice A1 ys.length c).ownBlock = some i ∨ i = U2.heap.size := fun i hi => by
    rcases o3 with q | q
    · rw [q] at hi; exact .inl hi
    · rw [q] at hi; injection hi with hi; exact .inr hi.symm
  have ks : Kept (· = C) U3 (U3.setCell ⟨C, 0, none⟩ (.slice A3 (ys.length + 1) c3)) := Kept.set_ _ _ _ rfl
  have ss := ks.size
  have byt3 : ∀ z ∈ ys ++ [y], Byt (U3.setCell ⟨C, 0, none⟩ (.slice A3 (ys.length + 1) c3)) (U3.setCell ⟨C, 0, none⟩ (.slice A3 (ys.length + 1) c3)).heap.size z.A z.key.length z.key ∧ z.key.length ≤ z.c ∧ ∀ i, Pb z.A z.key i → n₀ ≤ i ∧ ¬ N i ∧ i ≠ C := fun z hz => by
    simp only [List.mem_append, List.mem_singleton] at hz
    have two : ∀ (W : World), Byt W W.heap.size z.A z.key.length z.key → (∀ i, Pb z.A z.key i → i ≠ C) → Kept (fun i => i = C) W (W.setCell ⟨C, 0, none⟩ (.slice A3 (ys.length + 1) c3)) → Byt (W.setCell ⟨C, 0, none⟩ (.slice A3 (ys.length + 1) c3)) (W.setCell ⟨C, 0, none⟩ (.slice A3 (ys.length + 1) c3)).heap.size z.A z.key.length z.key := fun W hW hne hk =>
      (hW.keepPb fun p hp => hk.cell (hW.ltPb hp) (hne _ hp)).more hk.size
    rcases hz with hz | rfl
    · obtain ⟨q1, q2, q3⟩ := h6 z hz
      have q4 : Byt U3 U3.heap.size z.A z.key.length z.key := (q1.keepPb fun p hp => k23.cell (q1.ltPb hp) (fun e => (h3 _ e).2.2 z hz hp)).more k23.size
      exact ⟨two _ q4 (fun i hi => (q3 i hi).2.2) ks, q2, q3⟩
    · have q4 : Byt U3 U3.heap.size z.A z.key.length z.key := (hy.keepPb fun p hp => k3.cell (hy.ltPb hp) (fun e => by have := hnew _ hp; have := (lo3 _ e).2; omega)).more k3.size
      exact ⟨two _ q4 (fun i hi => by have := hnew i hi; omega) ks, hr, fun i hi => ⟨by have := hnew i hi; omega, fun q => by have := hnew i hi; have := hN i q; omega, by have := hnew i hi; omega⟩⟩
  refine ⟨b3.cell 0, b3.fz 0, ⟨⟨A3, c3, ?_, ?_, fun i hi => ?_⟩, h4, h5, byt3⟩, ?_, ?_, k23, fun i hi => (h3 i hi).1⟩
  · have := b3.set_ 0 (.slice A3 (ys.length + 1) c3)
    simpa using this
  · rw [List.length_append, List.length_singleton, List.map_append, List.map_singleton]
    refine ⟨⟨m3.1.1, ?_⟩, m3.2⟩
    rcases m3.1.2 with q | ⟨g, cap, cur, q1, q2, q3, q4⟩
    · exact .inl q
    · refine .inr ⟨g, cap, cur, q1, q2, (ks.block g (Array.getElem?_eq_some_iff.1 q3).1 (fun e => ?_)).trans q3, q4⟩
      have hown : (Value.slice A3 (ys.length + 1) c3).ownBlock = some g := by rw [q1]; rfl
      rcases own3 g hown with q | q
      · exact (h3 g q).2.1 e
      · omega
  · rw [List.length_append, List.length_singleton] at hi
    have hi' : (Value.slice A3 (ys.length + 1) c3).ownBlock = some i := hi
    rcases own3 i hi' with q | q
    · refine ⟨(h3 i q).1, (h3 i q).2.1, fun z hz hp => ?_⟩
      simp only [List.mem_append, List.mem_singleton] at hz
      rcases hz with hz | rfl
      · exact (h3 i q).2.2 z hz hp
      · have := hnew i hp; have := (lo3 i q).2; omega
    · refine ⟨fun hn => by have := hN i hn; omega, by omega, fun z hz hp => ?_⟩
      simp only [List.mem_append, List.mem_singleton] at hz
      rcases hz with hz | rfl
      · have := (h6 z hz).1.ltPb hp; omega
      · have := hy.ltPb hp; omega
  · refine (k23.mono (fun i hi => ⟨(lo3 i hi).1, (h3 i hi).1⟩)).trans (ks.mono (fun i e => e ▸ ⟨h5, h4⟩))
  · refine ⟨by omega, fun j o hj ho => ?_⟩
    have hjl := (Array.getElem?_eq_some_iff.1 hj).1
    have e2 := (hb.block j hjl).trans hj
    have e3 : U3.heap[j]? = some o := (g3.block j (by omega) (fun q => ?_)).trans e2
    · exact (KeepsOthers.setCell U3 ⟨C, 0, none⟩ _).same j o e3 ho
    · rcases h2.1.2 with ⟨q', _⟩ | ⟨g, cap, cur, q1, _, q3, _⟩
      · rw [q'] at q; cases q
      · rw [q1] at q
        have hjg : j = g := by simpa [Value.ownBlock] using q
        rw [hjg, q3] at hj
        cases hj
        cases ho
theorem Krow.nil {n₀ C : Nat} {W : World} {N : Nat → Prop} (e : TypeId) (k : Nat) (hb : Blk W C #[.slice none 0 0]) (hN : ¬ N C) (hC : n₀ ≤ C) : Krow n₀ W N C e k [] :=
  ⟨⟨none, 0, hb, MineR.nil _ _ _ _, fun i q => by simp [Value.ownBlock] at q⟩, hN, hC, fun y hy => by cases hy⟩
end Go.Proofs.YtajpipaooaemdaaGreatDoor

namespace Go.Proofs.YtajpipaooaemdaaGreatDoor
open Go.RowKit Go.Shelf
attribute [local go_sem] Oper.semAt_some

def cntV (vs : List Vt) : Nat := vs.countP (·.x.has)
def dpV (vs : List Vt) : Nat := vs.foldl (fun m v => max m v.deep) 0
def Vt.occ (v : Vt) : Nat := v.nk + (if v.x.has then 1 else 0)
def Vt.fine (v : Vt) : Bool := decide (v.way.length ≤ 65535) && (v.x.leaf || decide (2 ≤ v.occ))
def Vt.kind (v : Vt) : Int := if v.x.leaf then 1 else kindN v.nk
/-- A tree that is not too great to be gone through. -/
def Fits (t : Option (Nn × Fo)) : Prop := (∀ v ∈ otvis t, v.way.length ≤ 1000000 ∧ v.deep ≤ 1000000) ∧ (otvis t).length ≤ 16777216

theorem KeepsOthers.of_below {w w' : World} (h : Below w.heap.size w w') : KeepsOthers w w' := ⟨h.size, fun k _ h1 _ => (h.block k (Array.getElem?_eq_some_iff.1 h1).1).trans h1⟩
def listV (vs : List Vt) : List (List UInt8 × List Value) := vs.filterMap fun v => if v.x.has then some (v.way, [.int .u64 v.x.val]) else none
def pointV (vs : List Vt) : List (List UInt8 × List Value) := vs.filterMap fun v => if v.x.leaf then none else some (v.way, [.int .i64 v.kind, .bool v.x.has])
theorem lit_cells {w : World} {g : Nat} {cs : List Value} (h : Blk w g cs.toArray) : ∀ (j : Nat) (u : Value), cs[j]? = some u → w.cell? ((⟨g, 0, none⟩ : Addr).add j) = some u := fun j u hj => by
  have e : (⟨g, 0, none⟩ : Addr).add j = ⟨g, j, none⟩ := by
    unfold Addr.add
    split
    · rename_i h0; rw [h0]
    · simp
  rw [e, h.cell j]
  simpa using hj
set_option maxRecDepth 100000 in
theorem info_pair : (Tryz.prog.info? 58).map (fun i => (i.zero, i.size, i.bytes)) = some (some (.agg #[.slice none 0 0, .int .u64 0]), 2, 32) := by kernel_rfl
/-- bytes.Clone, with the room that stands behind. -/
def CrPost (w : World) (l : List UInt8) (e : Ending) (w' : World) : Prop :=
  ∃ A c, e = .returned (.slice A l.length c) ∧ Byt w' w'.heap.size A l.length l ∧ (∀ i, Pb A l i → w.heap.size ≤ i) ∧ Below w.heap.size w w' ∧ l.length ≤ c
theorem kindN_ne (n : Nat) : ¬ (kindN n : Int) = 1 := by unfold kindN; split <;> (try split) <;> (try split) <;> omega

end Go.Proofs.YtajpipaooaemdaaGreatDoor
