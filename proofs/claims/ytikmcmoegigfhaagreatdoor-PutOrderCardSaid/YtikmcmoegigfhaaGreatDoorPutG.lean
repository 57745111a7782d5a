/-
  What is found in a well-made tree, whoever owns its nodes.
-/
import Derived.Test.YtikmcmoegigfhaaGreatDoorPutP
import Derived.Test.YtikmcmoegigfhaaGreatDoorFnGet
import Derived.Test.YtikmcmoegigfhaaGreatDoorFnP
import Derived.Test.YtikmcmoegigfhaaGreatDoorCanonQ
import Derived.Test.YtikmcmoegigfhaaGreatDoorCanonPt
namespace Go.Proofs.YtikmcmoegigfhaaGreatDoor
open Go.RowKit

theorem Fo.goes_by (o : Int) : ∀ (f : Fo) (c : UInt8) (l : List UInt8) (a : Nat), (f.by o).goes c l a = f.goes c l a
  | .nil, _, _, _ => rfl
  | .cons b x k r, c, l, a => by
    rw [Fo.by, Fo.goes, Fo.goes, Fo.goes_by o r]
    show (if b = c then (if begB l x.part = true then x.tell a :: _ else _) else _) = _
    cases hd : l.drop x.part.length with
    | nil =>
      have : l.drop (x.by o).part.length = [] := hd
      rw [this]
    | cons c' l' =>
      have : l.drop (x.by o).part.length = c' :: l' := hd
      rw [this]
      show (if b = c then (if begB l x.part = true then x.tell a :: (k.by o).goes c' l' (a + x.part.length + 1) else _) else _) = _
      rw [Fo.goes_by o k]
theorem ogo_by (o : Int) (t : Option (Nn × Fo)) (l : List UInt8) (a : Nat) : ogo (t.map (byT o)) l a = ogo t l a := by
  cases t with
  | none => rfl
  | some t =>
    have := Fo.goes_by o (.cons 0 t.1 t.2 .nil) 0 l a
    rw [Fo.by, Fo.goes_cons, Fo.goes_cons, if_pos rfl, if_pos rfl] at this
    exact this
theorem olist_by (o : Int) (t : Option (Nn × Fo)) : olist (t.map (byT o)) = olist t := by
  cases t with
  | none => rfl
  | some t => exact by_tlist o t.1 t.2 []
/-- Well made, whoever owns the nodes. -/
def owfB (t : Option (Nn × Fo)) : Prop := owf (t.map (byT 1))
theorem Can.owf {ps : List PV} {T : Nn × Fo} (h : Can ps T) : owfB (some T) := h.wf
theorem owfB.rise {t : Option (Nn × Fo)} (h : owfB t) : Rise (olist t) := by
  have := olist_rise h
  rwa [olist_by] at this
theorem owfB.get {t : Option (Nn × Fo)} (h : owfB t) (key : List UInt8) : getF ((ogo t key 0).filterMap id) key.length = firstK (olist t) key := by
  have h1 := ogo_begs h key 0
  rw [ogo_by, olist_by] at h1
  rw [h1, getK_begs, first_get h.rise]
theorem firstK_yes {L : List KV} (h : Rise L) {l : List UInt8} {v : Int} : firstK L l = (v, true) ↔ (l, v) ∈ L := by
  constructor
  · intro e
    rcases firstK_cases L l with ⟨_, q⟩ | ⟨p, hp, rfl, q⟩
    · rw [q] at e
      injection e with _ e
      cases e
    · rw [q] at e
      injection e with e _
      subst e
      exact hp
  · intro hm
    rcases firstK_cases L l with ⟨q, _⟩ | ⟨p, hp, e, q⟩
    · exact absurd rfl (q _ hm)
    · have := rise_one h hp hm e
      subst this
      exact q
theorem firstK_no {L : List KV} {l : List UInt8} {v : Int} (e : firstK L l = (v, false)) : ∀ p ∈ L, p.1 ≠ l := by
  rcases firstK_cases L l with ⟨q, _⟩ | ⟨p, _, _, q⟩
  · exact q
  · rw [q] at e
    injection e with _ e
    cases e
set_option maxRecDepth 100000 in
theorem tget_any {t : Option (Nn × Fo)} (h : owfB t) {p A : Option Addr} {n c : Nat} {key : List UInt8} {w : World} {B : Nat} (ht : OTre w (· < w.heap.size) t p) (ha : Byt w B A n key) (hB : B ≤ w.heap.size) (hnc : n ≤ c) (hn : n ≤ 1000000) {g1 : Int} {g2 : Bool} (hg : firstK (olist t) key = (g1, g2)) :
    Calls Tryz.prog 17 #[.pointer p, .slice A n c] w fun e w' => e = .returned (.tuple #[.int .u64 g1, .bool g2]) ∧ Below w.heap.size w w' := by
  have h1 := fget_any t p A n c key w ht (ha.more hB) hnc hn
  have h2 := h.get key
  rw [ha.1, hg] at h2
  rwa [h2] at h1
/-- The canonical tree of anybody, as it was built. -/
theorem bTr_can {ps : List PV} (o : Int) (hr : Rsn ps) (hne : ps ≠ []) (f : Nat) (hf : ∀ p ∈ ps, p.key.length < f) : Can ps (cT o f (ps.map kvP)) := by
  have hL : rel 0 ps = ps.map kvP := rel_zero ps
  have h1 := can_of o hr hne hf
  rw [hL] at h1
  have hM : ps.map kvP ≠ [] := by simpa using hne
  have hlen : ∀ p ∈ ps.map kvP, p.1.length < f := fun p hp => by
    obtain ⟨q, hq, rfl⟩ := List.mem_map.1 hp
    exact hf q hq
  have hR := rsn_rel hr
  rw [hL] at hR
  obtain ⟨w1, w2⟩ := cT_wf o f (ps.map kvP) hM hR hlen
  exact ⟨wfN_by w1, wf_by w2, h1.good, h1.list⟩
/-- All of it is that owner's. -/
theorem bTr_all {ps : List PV} (o : Int) (hr : Rsn ps) (hne : ps ≠ []) (f : Nat) (hf : ∀ p ∈ ps, p.key.length < f) : allT (fun q => q = o) (cT o f (ps.map kvP)) := by
  have hL : rel 0 ps = ps.map kvP := rel_zero ps
  have hM : ps.map kvP ≠ [] := by simpa using hne
  have hlen : ∀ p ∈ ps.map kvP, p.1.length < f := fun p hp => by
    obtain ⟨q, hq, rfl⟩ := List.mem_map.1 hp
    exact hf q hq
  have hR := rsn_rel hr
  rw [hL] at hR
  obtain ⟨w1, w2⟩ := cT_wf o f (ps.map kvP) hM hR hlen
  exact ⟨w1.2.2, Fo.wf_all w2⟩
theorem OCan.owf {ps : List PV} {t : Option (Nn × Fo)} (h : OCan ps t) : owfB t := by
  cases t with
  | none => trivial
  | some T => exact Can.owf h
theorem bTr_ocan {ps : List PV} (o : Int) (hr : Rsn ps) (f : Nat) (hf : ∀ p ∈ ps, p.key.length < f) : OCan ps (bTr o f (rel 0 ps)) ∧ oall (fun q => q = o) (bTr o f (rel 0 ps)) := by
  have hL : rel 0 ps = ps.map kvP := rel_zero ps
  by_cases hne : ps = []
  · subst hne
    exact ⟨rfl, trivial⟩
  · have hne2 : rel 0 ps ≠ [] := by rw [hL]; simpa using hne
    unfold bTr
    rw [if_neg hne2, hL]
    exact ⟨bTr_can o hr hne f hf, bTr_all o hr hne f hf⟩
end Go.Proofs.YtikmcmoegigfhaaGreatDoor
