/-
  What is told of a canonical tree, whoever owns its nodes: its shape is the document's tree's, and it is not too great. No program is run.
-/
import Derived.Test.YtikmcmoegigfhaaGreatDoorPutP
import Derived.Test.YtikmcmoegigfhaaGreatDoorDtTop
namespace Go.Proofs.YtikmcmoegigfhaaGreatDoor
open Go.RowKit

theorem Fo.sh_by (o : Int) : ∀ f : Fo, (f.by o).sh = f.sh
  | .nil => rfl
  | .cons b x k r => by
    rw [Fo.by, Fo.sh, Fo.sh, Fo.sh_by o k, Fo.sh_by o r, Fo.by_len]
    rfl
theorem shL_by (o : Int) (x : Nn) (k : Fo) : shL (x.by o) (k.by o) = shL x k := by
  unfold shL
  rw [Fo.sh_by, Fo.by_len]
  rfl
theorem Fo.ok_by (o : Int) : ∀ {f : Fo}, (f.by o).ok → f.ok
  | .nil, _ => trivial
  | .cons _ _ _ _, ⟨h1, h2, h3⟩ => ⟨h1, Fo.ok_by o h2, Fo.ok_by o h3⟩
theorem lfN_by (o : Int) {x : Nn} {k : Fo} (h : lfN (x.by o) (k.by o)) : lfN x k := fun q => by
  obtain ⟨h1, h2⟩ := h q
  refine ⟨?_, h2⟩
  cases k with
  | nil => rfl
  | cons _ _ _ _ => cases h1
theorem Fo.lf_by (o : Int) : ∀ {f : Fo}, (f.by o).lf → f.lf
  | .nil, _ => trivial
  | .cons _ _ _ _, ⟨h1, h2, h3⟩ => ⟨lfN_by o h1, Fo.lf_by o h2, Fo.lf_by o h3⟩
section
variable {ps : List PV} {T : Nn × Fo}
theorem Can.f (h : Can ps T) : CanF (ps.map kvP) T := ⟨h.list, h.good⟩
/-- The document's tree of the same pairs has the same shape. -/
theorem Can.sh (h : Can ps T) (f : Nat) (hf : ∀ p ∈ ps, p.key.length < f) : oshL (bTr 1 f (rel 0 ps)) = oshL (some T) := by
  have hne : rel 0 ps ≠ [] := by
    rw [rel_zero]
    intro e
    have h1 := h.f.points
    have h2 : (ps.map kvP).length = 0 := congrArg List.length e
    omega
  have h3 : rel 0 ps = ps.map kvP := rel_zero ps
  unfold bTr
  rw [if_neg hne, h3, h.is_ f hf]
  exact shL_by 1 T.1 T.2
theorem Can.o (h : Can ps T) (hk : ∀ p ∈ ps, p.key.length ≤ 600) (hn : ps.length ≤ 300) (hv : ∀ p ∈ ps, 0 ≤ p.val ∧ p.val ≤ 18446744073709551615) : CanO ps (some T) := by
  have hM : ∀ p ∈ ps.map kvP, p.1.length ≤ 600 := fun p hp => by obtain ⟨q, hq, rfl⟩ := List.mem_map.1 hp; exact hk q hq
  have hc := h.f
  have hok := cT_ok 1 601 (ps.map kvP) (fun p hp => by
    obtain ⟨q, hq, rfl⟩ := List.mem_map.1 hp
    exact ⟨by have := hk q hq; show q.key.length ≤ _; omega, hv q hq⟩)
  rw [h.is_ 601 (fun p hp => by have := hk p hp; omega)] at hok
  have o1 : T.1.ok := hok.1
  have o2 : T.2.ok := Fo.ok_by 1 hok.2
  have h1 := hc.points
  have h2 := hc.nodes
  have hct := hc.count
  rw [List.length_map] at h1 h2 hct
  have hd := hc.depth (M := 600) hM
  have htn : 1 + T.2.tn ≤ 600 := by unfold tnT at h2; omega
  have hsl := oshL_len o1 o2 (m := 600) htn
  exact ⟨hc.fits (fun p hp => by have := hM p hp; omega) (by rw [List.length_map]; omega), ⟨o1, o2⟩, ⟨lfN_by 1 h.top.1, Fo.lf_by 1 (Fo.wf_lf h.wf)⟩, by
    refine Nat.le_trans hsl ?_
    omega, by show tnT _ ≤ 1000; unfold tnT; omega, hct, hc.listed, hc.fine (fun p hp => by have := hM p hp; omega), by omega⟩
end
theorem OCan.sh {ps : List PV} {t : Option (Nn × Fo)} (h : OCan ps t) (f : Nat) (hf : ∀ p ∈ ps, p.key.length < f) : oshL (bTr 1 f (rel 0 ps)) = oshL t := by
  cases t with
  | none =>
    obtain rfl : ps = [] := h
    rfl
  | some T => exact Can.sh h f hf
theorem OCan.o {ps : List PV} {t : Option (Nn × Fo)} (h : OCan ps t) (hk : ∀ p ∈ ps, p.key.length ≤ 600) (hn : ps.length ≤ 300) (hv : ∀ p ∈ ps, 0 ≤ p.val ∧ p.val ≤ 18446744073709551615) : CanO ps t := by
  cases t with
  | none =>
    obtain rfl : ps = [] := h
    exact can_o (ps := []) List.Pairwise.nil (fun p hp => by cases hp) (Nat.zero_le _) (fun p hp => by cases hp)
  | some T => exact Can.o h hk hn hv
end Go.Proofs.YtikmcmoegigfhaaGreatDoor
