/-
  What stands to each side of a key among pairs that rise. No program is run.
-/
import Derived.Test.YtidiinededalmaaGreatNrWk
import Derived.Test.YtidiinededalmaaGreatCmp
namespace Go.Proofs.YtidiinededalmaaGreat
open Go.RowKit

section
variable {ps : List PV} (hr : Rsn ps) (key : List UInt8)
include hr
theorem ahead_iff {j : Nat} {p : PV} (hp : ps[j]? = some p) : j < aheadN (ps.map kvP) key ↔ cmpL p.key key < 0 := by
  obtain ⟨h1, h2⟩ := lt_pre (rsn_kv hr) key
  have hq : (ps.map kvP)[j]? = some (kvP p) := by rw [List.getElem?_map, hp]; rfl
  constructor
  · intro h
    have : kvP p ∈ (ps.map kvP).take (aheadN (ps.map kvP) key) := List.mem_of_getElem? (i := j) (by rw [List.getElem?_take, if_pos h]; exact hq)
    rw [← h1] at this
    exact of_decide_eq_true (List.mem_filter.1 this).2
  · intro h
    rcases Nat.lt_or_ge j (aheadN (ps.map kvP) key) with h3 | h3
    · exact h3
    · exfalso
      have : kvP p ∈ (ps.map kvP).drop (aheadN (ps.map kvP) key) := List.mem_of_getElem? (i := j - aheadN (ps.map kvP) key) (by rw [List.getElem?_drop, Nat.add_sub_cancel' h3]; exact hq)
      rw [← h2] at this
      have h4 := (List.mem_filter.1 this).2
      have h5 : cmpL (kvP p).1 key < 0 := h
      rw [decide_eq_true h5] at h4
      cases h4
theorem upto_iff {j : Nat} {p : PV} (hp : ps[j]? = some p) : j < aheadN (ps.map kvP) (key ++ [0]) ↔ cmpL p.key key ≤ 0 := by
  rw [ahead_iff hr (key ++ [0]) hp, upto_lt]
theorem rise_le {i j : Nat} {p q : PV} (hij : i ≤ j) (hp : ps[i]? = some p) (hq : ps[j]? = some q) : cmpL p.key q.key ≤ 0 := by
  rw [cmp_le]
  rcases Nat.lt_or_eq_of_le hij with h | h
  · obtain ⟨h1, h2⟩ := List.getElem?_eq_some_iff.1 hp
    obtain ⟨h3, h4⟩ := List.getElem?_eq_some_iff.1 hq
    have := List.pairwise_iff_getElem.1 hr i j h1 h3 h
    rw [h2, h4] at this
    exact lt_asym this
  · subst h
    rw [hp] at hq
    cases hq
    exact lt_irr _
omit hr in
theorem aN_le (k : List UInt8) : aheadN (ps.map kvP) k ≤ ps.length := by
  have := ahead_le (ps.map kvP) k
  rwa [List.length_map] at this
omit hr in
theorem atP_some {i : Int} {p : PV} (h : atP ps i = some p) : ∃ j : Nat, i = (j : Int) ∧ ps[j]? = some p := by
  unfold atP at h
  split at h
  · cases h
  · exact ⟨i.toNat, by omega, h⟩
omit hr in
theorem atP_nat (j : Nat) : atP ps (j : Int) = ps[j]? := by
  unfold atP
  rw [if_neg (by omega)]
  rfl
/-- The one ahead stands ahead; the one that does not stand behind does not; and so on. -/
theorem gap_lo {p : PV} (h : atP ps ((aheadN (ps.map kvP) key : Int) - 1) = some p) : cmpL p.key key < 0 := by
  obtain ⟨j, e, hj⟩ := atP_some h
  exact (ahead_iff hr key hj).1 (by omega)
theorem gap_fl {p : PV} (h : atP ps ((aheadN (ps.map kvP) (key ++ [0]) : Int) - 1) = some p) : cmpL p.key key ≤ 0 := by
  obtain ⟨j, e, hj⟩ := atP_some h
  exact (upto_iff hr key hj).1 (by omega)
theorem gap_ce {p : PV} (h : atP ps (aheadN (ps.map kvP) key : Int) = some p) : ¬ cmpL p.key key < 0 := by
  obtain ⟨j, e, hj⟩ := atP_some h
  exact fun q => absurd ((ahead_iff hr key hj).2 q) (by omega)
theorem gap_hi {p : PV} (h : atP ps (aheadN (ps.map kvP) (key ++ [0]) : Int) = some p) : ¬ cmpL p.key key ≤ 0 := by
  obtain ⟨j, e, hj⟩ := atP_some h
  exact fun q => absurd ((upto_iff hr key hj).2 q) (by omega)
/-- Nothing stands between. -/
theorem gap_below {j : Nat} {p : PV} (hp : ps[j]? = some p) (h : cmpL p.key key < 0) : ∃ q, atP ps ((aheadN (ps.map kvP) key : Int) - 1) = some q ∧ ¬ 0 < cmpL p.key q.key := by
  have h1 := (ahead_iff hr key hp).2 h
  have h2 := aN_le (ps := ps) key
  obtain ⟨a, ha⟩ : ∃ a, aheadN (ps.map kvP) key = a + 1 := ⟨aheadN (ps.map kvP) key - 1, by omega⟩
  rw [ha] at h1 h2 ⊢
  have hq := List.getElem?_eq_getElem (l := ps) (i := a) (by omega)
  refine ⟨_, by rw [show ((a + 1 : Nat) : Int) - 1 = (a : Int) by omega, atP_nat]; exact hq, ?_⟩
  have := rise_le hr (show j ≤ a by omega) hp hq
  omega
theorem gap_above {j : Nat} {p : PV} (hp : ps[j]? = some p) (h : 0 < cmpL p.key key) : ∃ q, atP ps (aheadN (ps.map kvP) (key ++ [0]) : Int) = some q ∧ ¬ cmpL p.key q.key < 0 := by
  have h1 : ¬ j < aheadN (ps.map kvP) (key ++ [0]) := fun q => by have := (upto_iff hr key hp).1 q; omega
  have h2 := (List.getElem?_eq_some_iff.1 hp).1
  have hq := List.getElem?_eq_getElem (l := ps) (i := aheadN (ps.map kvP) (key ++ [0])) (by omega)
  refine ⟨_, by rw [atP_nat]; exact hq, ?_⟩
  rw [← cmp_le]
  exact rise_le hr (by omega) hq hp
/-- If the key is there, both are its pair. -/
theorem gap_there {j : Nat} {p : PV} (hp : ps[j]? = some p) (h : p.key = key) : atP ps ((aheadN (ps.map kvP) (key ++ [0]) : Int) - 1) = some p ∧ atP ps (aheadN (ps.map kvP) key : Int) = some p := by
  obtain ⟨h1, h2⟩ := ahead_at hr hp
  rw [h] at h1 h2
  rw [h1, h2, show ((j + 1 : Nat) : Int) - 1 = (j : Int) by omega, atP_nat]
  exact ⟨hp, hp⟩
/-- If it is not, the same stand beside it. -/
theorem gap_not (h : ∀ p ∈ ps, p.key ≠ key) : aheadN (ps.map kvP) (key ++ [0]) = aheadN (ps.map kvP) key := by
  have hle := aN_le (ps := ps) key
  refine ahead_of (rsn_kv hr) (by rw [List.length_map]; exact hle) (fun j y hj hy => ?_) (fun y hy => ?_)
  · rw [List.getElem?_map] at hy
    obtain ⟨p, hp, rfl⟩ := Option.map_eq_some_iff.1 hy
    show cmpL p.key (key ++ [0]) < 0
    rw [upto_lt]
    have := (ahead_iff hr key hp).1 hj
    omega
  · rw [List.getElem?_map] at hy
    obtain ⟨p, hp, rfl⟩ := Option.map_eq_some_iff.1 hy
    show ¬ cmpL p.key (key ++ [0]) < 0
    rw [upto_lt]
    intro q
    have h1 : ¬ cmpL p.key key < 0 := fun z => absurd ((ahead_iff hr key hp).2 z) (by omega)
    have h2 : cmpL p.key key = 0 := by omega
    exact h p (List.mem_of_getElem? hp) (cmpL_zero.1 h2)
end
theorem gat_len {ps : List PV} {r : Option PV} {i : Int} (h : atP ps i = r) (hl : ∀ p ∈ ps, p.n = p.key.length ∧ p.key.length ≤ 300) : (pvO r).n = (pvO r).key.length ∧ (pvO r).key.length ≤ 300 := by
  subst h
  unfold atP
  split
  · exact ⟨rfl, Nat.zero_le _⟩
  · rcases hp : ps[i.toNat]? with _ | p
    · exact ⟨rfl, Nat.zero_le _⟩
    · exact hl p (List.mem_of_getElem? hp)
end Go.Proofs.YtidiinededalmaaGreat
