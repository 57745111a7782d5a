/-
  Trees as they are asked behind each other; the tree of the two keys that every statement asks.
  The two keys that every statement asks.
  A row of pairs of a call's own: what is appended to it, what is stored in it; how pairs that came in are read.
  Layer 13's own far, pairs, same.
-/
import Derived.Test.YtajpipaooaemdaaGreatDoorBuild
import Derived.Test.YtajpipaooaemdaaGreatDoorShape
import Derived.Test.YtajpipaooaemdaaGreatDoorTree
import Derived.Test.YtajpipaooaemdaaGreatDoorText
import Derived.Test.YtajpipaooaemdaaGreatDoorCanRead
import Derived.Test.YtajpipaooaemdaaGreatDoorCanon
namespace Go.Proofs.YtajpipaooaemdaaGreatDoor
open Go.RowKit Go.Shelf

theorem OTre.below {w w' : World} {t : Option (Nn × Fo)} {p : Option Addr} (h : OTre w (· < w.heap.size) t p) (hb : Below w.heap.size w w') : OTre w' (· < w'.heap.size) t p := by
  cases t with
  | none => exact h
  | some xk =>
    obtain ⟨g, e, h1⟩ := h
    exact ⟨g, e, (h1.below (fun _ q => q) hb).mono (fun i hi => Nat.lt_of_lt_of_le hi hb.size)⟩
theorem OTre.mono {w : World} {S S' : Nat → Prop} {t : Option (Nn × Fo)} {p : Option Addr} (h : OTre w S t p) (hS : ∀ i, S i → S' i) : OTre w S' t p := by
  cases t with
  | none => exact h
  | some xk =>
    obtain ⟨g, e, h1⟩ := h
    exact ⟨g, e, h1.mono hS⟩
theorem OTre.here {w : World} {S : Nat → Prop} {t : Option (Nn × Fo)} {p : Option Addr} (h : OTre w S t p) : OTre w (· < w.heap.size) t p := by
  cases t with
  | none => exact h
  | some xk =>
    obtain ⟨g, e, h1⟩ := h
    exact ⟨g, e, h1.there.mono (fun i hi => hi.2)⟩
def alT : Nn × Fo := (⟨false, 1, [1], 5, true⟩, .cons 2 ⟨true, 1, [], 6, true⟩ .nil .nil)
end Go.Proofs.YtajpipaooaemdaaGreatDoor

namespace Go.Proofs.YtajpipaooaemdaaGreatDoor
open Go.RowKit Go.Shelf

end Go.Proofs.YtajpipaooaemdaaGreatDoor

namespace Go.Proofs.YtajpipaooaemdaaGreatDoor
open Go.RowKit

abbrev pvc (p : PV) : List Value := [.slice p.A p.n p.c, .int .u64 p.val]
/-- The keys' bytes lie below B, their slices are no longer than their room. -/
def Kps (w : World) (B : Nat) (ps : List PV) : Prop := ∀ p ∈ ps, Byt w B p.A p.n p.key ∧ p.n ≤ p.c
theorem Kps.below {w w' : World} {B : Nat} {ps : List PV} (h : Kps w B ps) (hb : Below B w w') : Kps w' B ps := fun p hp => ⟨(h p hp).1.below hb, (h p hp).2⟩
theorem Kps.more {w : World} {B B' : Nat} {ps : List PV} (h : Kps w B ps) (hB : B ≤ B') : Kps w B' ps := fun p hp => ⟨(h p hp).1.more hB, (h p hp).2⟩
abbrev PRow (w : World) (base : Nat) (e : TypeId) (v : Value) (n : Nat) (ps : List PV) : Prop := MineR w base e 2 v n (ps.map pvc)
theorem Prs.of_rws {w : World} {B : Nat} {A : Option Addr} {n : Nat} {ps : List PV} (h : Rws w B A n 2 (ps.map pvc)) (hk : Kps w B ps) : Prs w B A n ps := by
  refine ⟨by have := h.1; simpa using this, h.2.1, fun j p hp => (hk p (List.mem_of_getElem? hp)).1, fun hn => ?_⟩
  obtain ⟨ad, e, hb, hc⟩ := h.2.2.2 hn
  refine ⟨ad, e, hb, fun j p hp => ?_⟩
  have h1 : (ps.map pvc)[j]? = some (pvc p) := by rw [List.getElem?_map, hp]; rfl
  exact ⟨hc j 0 _ _ h1 rfl, hc j 1 _ _ h1 rfl⟩
theorem Prs.rws {w : World} {B : Nat} {A : Option Addr} {n : Nat} {ps : List PV} (h : Prs w B A n ps) : Rws w B A n 2 (ps.map pvc) := by
  refine ⟨by have := h.1; simpa using this, h.2.1, fun c hc => ?_, fun hn => ?_⟩
  · obtain ⟨p, _, rfl⟩ := List.mem_map.1 hc
    rfl
  · obtain ⟨ad, e, hb, hc⟩ := h.2.2.2 hn
    refine ⟨ad, e, hb, fun j i c u hj hi => ?_⟩
    rw [List.getElem?_map] at hj
    rcases hp : ps[j]? with _ | p
    · rw [hp] at hj; cases hj
    · rw [hp] at hj
      simp only [Option.map_some, Option.some.injEq] at hj
      subst hj
      match i, hi with
      | 0, hi => cases hi; exact (hc j p hp).1
      | 1, hi => cases hi; exact (hc j p hp).2
theorem PRow.prs {w : World} {base : Nat} {e : TypeId} {A : Option Addr} {n c : Nat} {ps : List PV} (h : PRow w base e (.slice A n c) n ps) (hk : Kps w w.heap.size ps) : Prs w w.heap.size A n ps := Prs.of_rws (MineR.rws h) hk
theorem below_grown {B : Nat} {w w1 w2 : World} {base n k : Nat} {e : TypeId} {v : Value} {css : List (List Value)} (h : Below B w w1) (hm : MineR w1 base e k v n css) (hg : w1.grownBy w2 v.ownBlock) (hB : B ≤ base) (hs : B ≤ w1.heap.size) : Below B w w2 :=
  h.grown hg hs (fun g hv => Nat.le_trans hB (hm.lt g hv).1)
theorem MineR.far {w : World} {base : Nat} {e : TypeId} {A : Option Addr} {k n c : Nat} {css : List (List Value)} (h : MineR w base e k (.slice A n c) n css) : ∀ ad, A = some ad → 0 < n → base ≤ ad.block := by
  intro ad hA hn
  rcases h.1.2 with ⟨_, h0⟩ | ⟨g, cap, cur, hv, h1, _⟩
  · omega
  · injection hv with hv
    rw [hv] at hA
    injection hA with hA
    subst hA
    exact h1
theorem pair_cells {w : World} {g : Nat} {p : PV} (h : Blk w g #[.slice p.A p.n p.c, .int .u64 p.val]) : ∀ (j : Nat) (u : Value), (pvc p)[j]? = some u → w.cell? ((⟨g, 0, none⟩ : Addr).add j) = some u := fun j u hj => by
  match j, hj with
  | 0, hj => cases hj; exact h.cell 0
  | 1, hj => cases hj; exact h.cell 1
theorem pair_one (p : PV) : ∀ u ∈ pvc p, u.oneCell' = true := by intro u hu; simp at hu; rcases hu with rfl | rfl <;> rfl
theorem take_pv {ps : List PV} {k : Nat} {p : PV} (h : ps[k]? = some p) : (ps.take k).map pvc ++ [pvc p] = (ps.take (k + 1)).map pvc := by
  rw [List.take_add_one, h]
  simp

/-- Two cells stored into a row of such. -/
theorem set_flat2 {css : List (List Value)} (hl : ∀ c ∈ css, c.length = 2) {j : Nat} (hj : j < css.length) (a b : Value) : (css.set j [a, b]).flatten = (css.flatten.set (j * 2) a).set (j * 2 + 1) b := by
  induction css generalizing j with
  | nil => simp at hj
  | cons d css ih =>
    have hd : d.length = 2 := hl d (by simp)
    match d, hd with
    | [d0, d1], _ =>
      cases j with
      | zero => simp
      | succ j =>
        have := ih (fun c hc => hl c (by simp [hc])) (j := j) (by simpa using hj)
        simp only [List.set_cons_succ, List.flatten_cons, this]
        have e4 : (j + 1) * 2 = j * 2 + 2 := by omega
        rw [e4]
        simp
theorem MineR.set2 {w : World} {base : Nat} {e : TypeId} {g n c : Nat} {css : List (List Value)} (h : MineR w base e 2 (.slice (some ⟨g, 0, none⟩) n c) n css) {j : Nat} (hj : j < n) (a b : Value) :
    MineR ((w.setCell ⟨g, j * 2, none⟩ a).setCell ⟨g, j * 2 + 1, none⟩ b) base e 2 (.slice (some ⟨g, 0, none⟩) n c) n (css.set j [a, b]) ∧ Kept (· = g) w ((w.setCell ⟨g, j * 2, none⟩ a).setCell ⟨g, j * 2 + 1, none⟩ b) := by
  have s1 := h.1.stored (j * 2) a
  have s2 := s1.1.stored (j * 2 + 1) b
  refine ⟨⟨?_, by simp [h.2.1], fun d hd => ?_⟩, (show Kept (· = g) w (w.setCell ⟨g, j * 2, none⟩ a) from Kept.set_ w ⟨g, j * 2, none⟩ a rfl).trans (show Kept (· = g) _ _ from Kept.set_ _ ⟨g, j * 2 + 1, none⟩ b rfl)⟩
  · rw [set_flat2 h.2.2 (by have := h.2.1; omega)]
    exact s2.1
  · rcases List.mem_or_eq_of_mem_set hd with q | q
    · exact h.2.2 d q
    · rw [q]; rfl
theorem MineR.there2 {w : World} {base : Nat} {e : TypeId} {g n c : Nat} {css : List (List Value)} (h : MineR w base e 2 (.slice (some ⟨g, 0, none⟩) n c) n css) {j : Nat} {a b : Value} (hj : css[j]? = some [a, b]) :
    w.cell? ⟨g, j * 2, none⟩ = some a ∧ w.cell? ⟨g, j * 2 + 1, none⟩ = some b ∧ w.frozen? ⟨g, j * 2, none⟩ = false ∧ w.frozen? ⟨g, j * 2 + 1, none⟩ = false := by
  have h0 : (0 : Nat) < 2 := by omega
  have e0 := World.ownsRow.cells h.1 (g := g) rfl (j * 2 + 0) a (by rw [flatten_at h.2.2 hj (by omega)]; rfl)
  have e1 := World.ownsRow.cells h.1 (g := g) rfl (j * 2 + 1) b (by rw [flatten_at h.2.2 hj (by omega)]; rfl)
  have z : ∀ i, (⟨g, 0, none⟩ : Addr).add i = ⟨g, i, none⟩ := fun i => by
    unfold Addr.add
    split
    · rename_i q; rw [q]
    · simp
  rw [z] at e0 e1
  exact ⟨e0, e1, h.1.frozenAt _, h.1.frozenAt _⟩
end Go.Proofs.YtajpipaooaemdaaGreatDoor

namespace Go.Proofs.YtajpipaooaemdaaGreatDoor
open Go.RowKit

def farP (ps : List PV) (many : Nat) : Bool := decide (many < ps.length) || ps.any fun p => decide (300 < p.key.length)
abbrev kvP (p : PV) : KV := (p.key, p.val)
end Go.Proofs.YtajpipaooaemdaaGreatDoor
