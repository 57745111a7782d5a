/-
  What is found in the canonical tree of pairs that rise is what the pairs say. No program is run.
-/
import Derived.Test.YtfmkhafpbfmadaaGreatFnLaw
namespace Go.Proofs.YtfmkhafpbfmadaaGreat
open Go.RowKit

theorem beg_take' {l m : List UInt8} (h : begB l m = true) : l.take m.length = m := by
  have h2 := of_decide_eq_true (h : decide _ = true)
  have := lcp_take (p := l) (u := m) (e := m.length) (by omega)
  rw [List.drop_length, List.append_nil] at this
  exact this.symm
theorem canT_ok {ps : List PV} (hr : Rsn ps) (hk : ∀ p ∈ ps, p.key.length ≤ 300) : owf (canT ps) ∧ olist (canT ps) = ps.map kvP := by
  unfold canT
  by_cases hne : ps = []
  · subst hne
    exact ⟨trivial, rfl⟩
  have hL : rel 0 ps = ps.map kvP := rel_zero ps
  have hne2 : rel 0 ps ≠ [] := by rw [hL]; simpa using hne
  have hc := can_of 1 hr hne (f := 301) (fun p hp => by have := hk p hp; omega)
  have hlen : ∀ p ∈ rel 0 ps, p.1.length < 301 := fun p hp => by
    rw [hL] at hp
    obtain ⟨q, hq, rfl⟩ := List.mem_map.1 hp
    have := hk q hq
    show q.key.length < 301
    omega
  obtain ⟨_, w2⟩ := cT_wf 1 301 (rel 0 ps) hne2 (rsn_rel hr) hlen
  unfold bTr
  rw [if_neg hne2]
  exact ⟨w2, hc.list⟩
section
variable {ps : List PV} (hr : Rsn ps) (hk : ∀ p ∈ ps, p.key.length ≤ 300) (key : List UInt8)
include hr hk
theorem canT_found : (ogo (canT ps) key 0).filterMap id = (begP key ps).map fun p => (p.key.length, p.val) := by
  obtain ⟨h1, h2⟩ := canT_ok hr hk
  rw [ogo_begs h1, h2]
  unfold begsL begP
  rw [List.filter_map, List.map_map]
  exact List.map_congr_left fun p _ => by simp
theorem canT_get : getF ((ogo (canT ps) key 0).filterMap id) key.length = firstK (ps.map kvP) key := by
  obtain ⟨h1, h2⟩ := canT_ok hr hk
  have h3 := olist_rise h1
  rw [h2] at h3
  rw [ogo_begs h1, getK_begs, h2, first_get h3]
theorem canT_long : lastF ((ogo (canT ps) key 0).filterMap id) = ((lastP (begP key ps)).1.length, (lastP (begP key ps)).2.1, (lastP (begP key ps)).2.2) ∧ key.take (lastP (begP key ps)).1.length = (lastP (begP key ps)).1 := by
  rw [canT_found hr hk key]
  have hb : ∀ p ∈ begP key ps, begB key p.key = true := fun p hp => (List.mem_filter.1 hp).2
  generalize begP key ps = qs at hb
  unfold lastP
  rcases List.eq_nil_or_concat qs with h | ⟨M, p, h⟩
  · subst h
    exact ⟨rfl, rfl⟩
  · rw [List.concat_eq_append] at h
    subst h
    rw [List.map_append, List.getLast?_append, List.getLast?_singleton]
    exact ⟨lastF_snoc _ _ _, beg_take' (hb p (by simp))⟩
theorem canT_begs : ((ogo (canT ps) key 0).filterMap id).map (fun p => (key.take p.1, [Value.int .u64 p.2])) = ((begP key ps).map kvP).map (fun p => (p.1, [Value.int .u64 p.2])) := by
  rw [canT_found hr hk key, List.map_map, List.map_map]
  refine List.map_congr_left fun p hp => ?_
  show (key.take p.key.length, _) = (p.key, _)
  rw [beg_take' (List.mem_filter.1 hp).2]
end
/-- The steps. -/
theorem oLen_dep (t : Option (Nn × Fo)) (l : List UInt8) (a : Nat) : (ogo t l a).length ≤ dpV (otvis t) := by
  cases t with
  | none => exact Nat.zero_le _
  | some t =>
    obtain ⟨x, k⟩ := t
    rw [dpV_dep]
    exact tgo_dep x k l a
theorem farF_no {ps : List PV} {m : Nat} (h : farF ps m = false) : ps.length ≤ 300 ∧ (∀ p ∈ ps, p.key.length ≤ 300) ∧ m ≤ 600 := by
  unfold farF farP at h
  rw [Bool.or_eq_false_iff, Bool.or_eq_false_iff] at h
  obtain ⟨h1, h2, h3⟩ := h
  refine ⟨by have := of_decide_eq_false h2; omega, fun p hp => ?_, by have := of_decide_eq_false h1; omega⟩
  have := List.any_eq_false.1 h3 p hp
  simp at this
  omega
set_option maxRecDepth 100000 in
/-- What is told of a key in the canonical tree, by the program's own calls. -/
theorem cget_any {ps : List PV} (hr : Rsn ps) (hk : ∀ p ∈ ps, p.key.length ≤ 300) {p A : Option Addr} {n c : Nat} {key : List UInt8} {w : World} {B : Nat} (ht : OTre w (· < w.heap.size) (canT ps) p) (ha : Byt w B A n key) (hB : B ≤ w.heap.size) (hnc : n ≤ c) (hn : n ≤ 1000000) {g1 : Int} {g2 : Bool} (hg : firstK (ps.map kvP) key = (g1, g2)) :
    Calls Tryz.prog 11 #[.pointer p, .slice A n c] w fun e w' => e = .returned (.tuple #[.int .u64 g1, .bool g2]) ∧ Below w.heap.size w w' := by
  have h := fget_any (canT ps) p A n c key w ht (ha.more hB) hnc hn
  have h2 := canT_get hr hk key
  rw [ha.1, hg] at h2
  rwa [h2] at h
set_option maxRecDepth 100000 in
theorem chas_any {ps : List PV} (hr : Rsn ps) (hk : ∀ p ∈ ps, p.key.length ≤ 300) {p A : Option Addr} {n c : Nat} {key : List UInt8} {w : World} {B : Nat} (ht : OTre w (· < w.heap.size) (canT ps) p) (ha : Byt w B A n key) (hB : B ≤ w.heap.size) (hnc : n ≤ c) (hn : n ≤ 1000000) {g1 : Int} {g2 : Bool} (hg : firstK (ps.map kvP) key = (g1, g2)) :
    Calls Tryz.prog 17 #[.pointer p, .slice A n c] w fun e w' => e = .returned (.bool g2) ∧ Below w.heap.size w w' := by
  have h := fhas_any (canT ps) p A n c key w ht (ha.more hB) hnc hn
  have h2 := canT_get hr hk key
  rw [ha.1, hg] at h2
  rwa [h2] at h
set_option maxRecDepth 100000 in
theorem clong_any {ps : List PV} (hr : Rsn ps) (hk : ∀ p ∈ ps, p.key.length ≤ 300) {p A : Option Addr} {n c : Nat} {key : List UInt8} {w : World} {B : Nat} (ht : OTre w (· < w.heap.size) (canT ps) p) (ha : Byt w B A n key) (hB : B ≤ w.heap.size) (hnc : n ≤ c) (hn : n ≤ 1000000) {r1 : List UInt8} {r2 : Int} {r3 : Bool} (hg : lastP (begP key ps) = (r1, r2, r3)) :
    Calls Tryz.prog 13 #[.pointer p, .slice A n c] w fun e w' => ∃ A2 c2, e = .returned (.tuple #[.agg #[.slice A2 r1.length c2, .int .u64 r2], .bool r3]) ∧ Byt w' w'.heap.size A2 r1.length r1 ∧ Below w.heap.size w w' := by
  have h := flong_any (canT ps) p A n c key w ht (ha.more hB) hnc hn
  obtain ⟨h2, h3⟩ := canT_long hr hk key
  rw [hg] at h2 h3
  unfold LonPost at h
  rw [h2] at h
  dsimp only at h h3
  rwa [h3] at h
set_option maxRecDepth 100000 in
theorem cbegs_any {ps : List PV} (hr : Rsn ps) (hk : ∀ p ∈ ps, p.key.length ≤ 300) {p A : Option Addr} {n c : Nat} {key : List UInt8} {w : World} {B : Nat} (ht : OTre w (· < w.heap.size) (canT ps) p) (ha : Byt w B A n key) (hB : B ≤ w.heap.size) (hnc : n ≤ c) (hn : n ≤ 1000000) {j : Nat} (hj : (begP key ps).length = j) :
    Calls Tryz.prog 15 #[.pointer p, .slice A n c] w fun e w' => ∃ A2 c2 qs, e = .returned (.slice A2 j c2) ∧ Prs w' w'.heap.size A2 j qs ∧ qs.map kvP = (begP key ps).map kvP ∧ Below w.heap.size w w' := by
  refine (fbegs_any (canT ps) p A n c key w ht (ha.more hB) hnc hn).mono ?_
  rintro e w' ⟨A2, c2, ys, rfl, _, h2, h3, h4⟩
  rw [canT_begs hr hk key] at h3
  obtain ⟨qs, q1, _, q3⟩ := h2.prs h3
  have hl := congrArg List.length h3
  rw [List.length_map, List.length_map, List.length_map, hj] at hl
  rw [hl] at q1 ⊢
  exact ⟨A2, c2, qs, rfl, q1, q3, h4⟩
end Go.Proofs.YtfmkhafpbfmadaaGreat
