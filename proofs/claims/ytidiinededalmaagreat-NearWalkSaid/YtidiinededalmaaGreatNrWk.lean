/-
  The list of the canonical tree's pairs, and which pairs stand beside one of them.
-/
import Derived.Test.YtidiinededalmaaGreatNrSix
import Derived.Test.YtidiinededalmaaGreatCanonQ
namespace Go.Proofs.YtidiinededalmaaGreat
open Go.RowKit Go.Shelf

set_option maxRecDepth 100000 in
theorem nlist_any {ps : List PV} (ok : NT ps) {q : Option Addr} {w : World} (ht : OTre w (· < w.heap.size) (nrT ps) q) {n : Nat} (hn : ps.length = n) :
    Calls Tryz.prog 23 #[.pointer q] w fun e w' => ∃ A' c' qs, e = .returned (.slice A' n c') ∧ Prs w' w'.heap.size A' n qs ∧ qs.map kvP = ps.map kvP ∧ Below w.heap.size w w' := by
  have hl : listV (otvis (nrT ps)) = (ps.map kvP).map fun p => (p.1, [Value.int .u64 p.2]) := by
    have h := ok.list
    rcases ht : nrT ps with _ | ⟨x, k⟩
    · rw [ht] at h
      rw [← h]; rfl
    · rw [ht] at h
      rw [← h]
      exact tvis_list x k [] 1
  refine (clist_any (nrT ps) q w ht ok.fits).mono fun e w' ⟨A', c', ys, h1, _, h3, h4, h5⟩ => ?_
  obtain ⟨qs, q1, _, q3⟩ := h3.prs (h4.trans hl)
  have hlen : ys.length = n := by
    have := congrArg List.length h4
    rw [List.length_map, hl, List.length_map, List.length_map, hn] at this
    exact this
  rw [hlen] at h1 q1
  exact ⟨A', c', qs, h1, q1, q3, h5⟩
theorem ahead_at {ps : List PV} (hr : Rsn ps) {k : Nat} {p : PV} (hp : ps[k]? = some p) : aheadN (ps.map kvP) p.key = k ∧ aheadN (ps.map kvP) (p.key ++ [0]) = k + 1 := by
  obtain ⟨hk, hk2⟩ := List.getElem?_eq_some_iff.1 hp
  have hlt : ∀ (i j : Nat) (a b : PV), i < j → ps[i]? = some a → ps[j]? = some b → cmpL a.key b.key < 0 := fun i j a b hij ha hb => by
    obtain ⟨h1, h2⟩ := List.getElem?_eq_some_iff.1 ha
    obtain ⟨h3, h4⟩ := List.getElem?_eq_some_iff.1 hb
    have := List.pairwise_iff_getElem.1 hr i j h1 h3 hij
    rwa [h2, h4] at this
  have hg : ∀ (j : Nat) (y : KV), (ps.map kvP)[j]? = some y → ∃ a, ps[j]? = some a ∧ y = kvP a := fun j y hy => by
    rw [List.getElem?_map] at hy
    obtain ⟨a, h1, rfl⟩ := Option.map_eq_some_iff.1 hy
    exact ⟨a, h1, rfl⟩
  constructor
  · refine ahead_of (rsn_kv hr) (by rw [List.length_map]; omega) (fun j y hj hy => ?_) (fun y hy => ?_)
    · obtain ⟨a, h1, rfl⟩ := hg j y hy
      exact hlt j k a p hj h1 hp
    · obtain ⟨a, h1, rfl⟩ := hg k y hy
      rw [hp] at h1
      cases h1
      exact lt_irr _
  · refine ahead_of (rsn_kv hr) (by rw [List.length_map]; omega) (fun j y hj hy => ?_) (fun y hy => ?_)
    · obtain ⟨a, h1, rfl⟩ := hg j y hy
      rw [lt_next]
      rcases Nat.lt_or_ge j k with h | h
      · exact lt_asym (hlt j k a p h h1 hp)
      · obtain rfl : j = k := by omega
        rw [hp] at h1
        cases h1
        exact lt_irr _
    · obtain ⟨a, h1, rfl⟩ := hg (k + 1) y hy
      rw [lt_next]
      exact fun q => q (hlt k (k + 1) p a (Nat.lt_succ_self _) hp h1)
set_option maxRecDepth 100000 in
/-- What stands beside the pair at a place. -/
theorem nwalk_up {ps : List PV} (hr : Rsn ps) (ok : NT ps) {k : Nat} {p : PV} (hp : ps[k]? = some p) {q A : Option Addr} {n c : Nat} {V : World} (ht : OTre V (· < V.heap.size) (nrT ps) q) (hk : Byt V V.heap.size A n p.key) (hn : n + 1 ≤ 60000) {r : Option PV} (hrr : atP ps ((k : Int) + 1) = r) (hy : (pvO r).n = (pvO r).key.length) :
    Calls Tryz.prog 21 #[.pointer q, .slice A n c] V fun e w' => ∃ A c, e = .returned (.tuple #[.agg #[.slice A (pvO r).n c, .int .u64 (pvO r).val], .bool r.isSome]) ∧ Byt w' w'.heap.size A (pvO r).n (pvO r).key ∧ (pvO r).n ≤ c ∧ (∀ i, Pb A (pvO r).key i → V.heap.size ≤ i) ∧ Below V.heap.size V w' := by
  have h := nhigher_any (nrT ps) q A n c p.key V ht ok.wf ok.full ok.len hk hn
  rw [ok.list, at_ge hr, (ahead_at hr hp).2, show ((k + 1 : Nat) : Int) = (k : Int) + 1 by omega, hrr] at h
  exact h.mono fun e w' h => h.in_ rfl hy
set_option maxRecDepth 100000 in
theorem nwalk_dn {ps : List PV} (hr : Rsn ps) (ok : NT ps) {k : Nat} {p : PV} (hp : ps[k]? = some p) {q A : Option Addr} {n c : Nat} {V : World} (ht : OTre V (· < V.heap.size) (nrT ps) q) (hk : Byt V V.heap.size A n p.key) (hnc : n ≤ c) (hn : n ≤ 60000) {r : Option PV} (hrr : atP ps ((k : Int) - 1) = r) (hy : (pvO r).n = (pvO r).key.length) :
    Calls Tryz.prog 19 #[.pointer q, .slice A n c] V fun e w' => ∃ A c, e = .returned (.tuple #[.agg #[.slice A (pvO r).n c, .int .u64 (pvO r).val], .bool r.isSome]) ∧ Byt w' w'.heap.size A (pvO r).n (pvO r).key ∧ (pvO r).n ≤ c ∧ (∀ i, Pb A (pvO r).key i → V.heap.size ≤ i) ∧ Below V.heap.size V w' := by
  have h := nlower_any (nrT ps) q A n c p.key V ht ok.wf ok.full ok.len hk hnc hn
  rw [ok.list, at_lt hr, (ahead_at hr hp).1, hrr] at h
  exact h.mono fun e w' h => h.in_ rfl hy
end Go.Proofs.YtidiinededalmaaGreat
