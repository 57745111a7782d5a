/-
  The canonical tree of pairs is well formed. No program is run.
-/
import Derived.Test.YtcfokkojoppmkaaGreatDoorShapeP
namespace Go.Proofs.YtcfokkojoppmkaaGreatDoor

theorem mkF_above {c : List KV → Nn × Fo} {b : UInt8} : ∀ {gs : List (UInt8 × List KV)}, (∀ x ∈ gs, b.toNat < x.1.toNat) → (mkF c gs).above b
  | [], _ => trivial
  | (_, _) :: _, h => h _ (List.mem_cons_self ..)
theorem mkF_wf {o : Int} {c : List KV → Nn × Fo} : ∀ {gs : List (UInt8 × List KV)}, (gs.Pairwise fun a b => a.1.toNat < b.1.toNat) → (∀ x ∈ gs, wfN o (c x.2).1 (c x.2).2 ∧ (c x.2).2.wf o) → (mkF c gs).wf o
  | [], _, _ => trivial
  | (_, _) :: _, hp, h => ⟨mkF_above (List.pairwise_cons.1 hp).1, (h _ (List.mem_cons_self ..)).1, (h _ (List.mem_cons_self ..)).2, mkF_wf (List.pairwise_cons.1 hp).2 fun x hx => h x (List.mem_cons_of_mem _ hx)⟩
theorem cT_wf (o : Int) : ∀ (f : Nat) (L : List KV), L ≠ [] → Rise L → (∀ p ∈ L, p.1.length < f) → wfN o (cT o f L).1 (cT o f L).2 ∧ (cT o f L).2.wf o
  | 0, L, h, _, hf => by
    rcases L with _ | ⟨p, L⟩
    · exact absurd rfl h
    · have := hf p (List.mem_cons_self ..); omega
  | f + 1, [], h, _, _ => absurd rfl h
  | f + 1, [p], _, _, _ => by simp [cT, wfN, Fo.wf]
  | f + 1, p :: q :: r, _, hr, hf => by
    have hends := rise_ends hr
    obtain ⟨z, hz⟩ : ∃ z, (q :: r).getLast (by simp) = z := ⟨_, rfl⟩
    rw [hz] at hends
    obtain ⟨e, he⟩ : ∃ e, lcp p.1 z.1 = e := ⟨_, rfl⟩
    rw [he] at hends
    have hep : e ≤ p.1.length := by rw [← he]; exact lcp_le_left _ _
    have part : ∀ rest : List KV, (∀ u ∈ rest, e ≤ lcp p.1 u.1 ∧ e < u.1.length ∧ u.1.length < f + 1) → Rise rest → (mkF (cT o f) (grp (cut e rest))).wf o := by
      intro rest h1 h2
      have hcr : Rise (cut e rest) := cut_rise p.1 h2 (fun u hu => (h1 u hu).1)
      obtain ⟨s1, s2, s3⟩ := grp_spec (cut e rest) (fun u hu => by
        unfold cut at hu
        obtain ⟨v, hv, rfl⟩ := List.mem_map.1 hu
        have := (h1 v hv).2.1
        intro q
        have := congrArg List.length q
        simp at this
        omega) hcr
      have hin : ∀ x ∈ grp (cut e rest), ∀ u ∈ x.2, u.1.length < f := fun x hx u hu => by
        have : (x.1 :: u.1, u.2) ∈ ungrp (grp (cut e rest)) := mem_ungrp hx hu
        rw [s1] at this
        unfold cut at this
        obtain ⟨v, hv, e2⟩ := List.mem_map.1 this
        have := congrArg (fun y : KV => y.1.length) e2
        simp at this
        have := (h1 v hv).2.2
        omega
      exact mkF_wf s3 fun x hx => cT_wf o f x.2 (s2 x hx).1 (s2 x hx).2 (hin x hx)
    have hall : ∀ u ∈ q :: r, e ≤ lcp p.1 u.1 ∧ e < u.1.length ∧ u.1.length < f + 1 := fun u hu => ⟨(hends u hu).1, (hends u hu).2, hf u (List.mem_cons_of_mem _ hu)⟩
    unfold cT
    simp only [hz, he]
    by_cases hp : p.1.length = e
    · rw [if_pos hp]
      exact ⟨⟨fun h => by simp at h, fun h => by simp at h, rfl⟩, part (q :: r) hall (List.pairwise_cons.1 hr).2⟩
    · rw [if_neg hp]
      exact ⟨⟨fun h => by simp at h, fun _ => rfl, rfl⟩, part (p :: q :: r) (fun u hu => by
        rcases List.mem_cons.1 hu with rfl | hu
        · exact ⟨by rw [lcp_same2]; exact hep, by omega, hf _ (List.mem_cons_self ..)⟩
        · exact hall u hu) hr⟩
end Go.Proofs.YtcfokkojoppmkaaGreatDoor
