/-
  What the statements' own far answers: where it is no, all that is asked is small.
-/
import Derived.Test.YtdpddkpfllioiaaDoorTupleAlive
namespace Go.Proofs.YtdpddkpfllioiaaDoor
open Go.RowKit

/-- A slice of values as it lies in memory; a slice of such. -/
structure TS where
  A : Option Addr
  n : Nat
  c : Nat
  vs : List Vl
def VVs (w : World) (B : Nat) (A : Option Addr) (m : Nat) (ts : List TS) : Prop := Rws w B A m 1 (ts.map fun t => [.slice t.A t.n t.c]) ∧ ∀ t ∈ ts, Vls w B t.A t.n t.vs ∧ t.n ≤ t.c
theorem VVs.below {w w' : World} {B m : Nat} {A : Option Addr} {ts : List TS} (h : VVs w B A m ts) (hb : Below B w w') : VVs w' B A m ts := ⟨h.1.below hb, fun t ht => ⟨(h.2 t ht).1.below hb, (h.2 t ht).2⟩⟩
theorem VVs.more {w : World} {B B' m : Nat} {A : Option Addr} {ts : List TS} (h : VVs w B A m ts) (hB : B ≤ B') : VVs w B' A m ts := ⟨h.1.more hB, fun t ht => ⟨(h.2 t ht).1.more hB, (h.2 t ht).2⟩⟩
theorem VVs.length {w : World} {B m : Nat} {A : Option Addr} {ts : List TS} (h : VVs w B A m ts) : ts.length = m := by have := h.1.1; simpa using this
theorem VVs.at_ {w : World} {B m j : Nat} {A : Option Addr} {ts : List TS} (h : VVs w B A m ts) (hj : j < m) : ∃ (ad : Addr) (t : TS), A = some ad ∧ ad.block < B ∧ ts[j]? = some t ∧ w.cell? (ad.add j) = some (.slice t.A t.n t.c) ∧ Vls w B t.A t.n t.vs ∧ t.n ≤ t.c := by
  obtain ⟨ad, c, e, hb, hc, _, hu⟩ := h.1.at_ hj
  rw [List.getElem?_map] at hc
  rcases ht : ts[j]? with _ | t
  · rw [ht] at hc; cases hc
  · rw [ht] at hc
    simp only [Option.map_some, Option.some.injEq] at hc
    subst hc
    have u0 := hu 0 _ rfl
    rw [Nat.mul_one, Nat.add_zero] at u0
    have hm := h.2 t (List.mem_of_getElem? ht)
    exact ⟨ad, t, e, hb, rfl, u0, hm.1, hm.2⟩
/-- Small. -/
def Sm (vs : List Vl) : Prop := vs.length ≤ 20 ∧ ∀ v ∈ vs, v.l.length ≤ 300
def FarPost (w : World) (n : Nat) (ts : List TS) (e : Ending) (w' : World) : Prop := ∃ b : Bool, e = .returned (.bool b) ∧ (b = false → n ≤ 20 ∧ ∀ t ∈ ts, Sm t.vs) ∧ Below w.heap.size w w'
theorem min_20 (n : Nat) (q : Nat) (hq : q = min n 20) (W : World) : (Builtin.min_ #[3, 3] 3 #[.int .i64 (n : Int), .int .i64 20]).run Tryd.prog W = .ok (.int .i64 (q : Int)) W := by
  rw [run_min_int2]
  congr 2
  split <;> omega

set_option maxRecDepth 100000 in
set_option maxHeartbeats 4000000 in
theorem far_any (A A' : Option Addr) (n c m c' B : Nat) (ts : List TS) (w : World) (hn : n ≤ 9223372036854775807) (ha : VVs w B A' m ts) (hB : B ≤ w.heap.size) (hm : m ≤ 1000) :
    Calls Tryd.prog 7 #[.slice A n c, .slice A' m c'] w (FarPost w n ts) := by
  have HN := Lib.hid ha.length
  have HA := Lib.hid (fun V (h : Below w.heap.size w V) => (ha.more hB).below h)
  clear ha
  go_enter Tryd.func7, Tryd.ntmps7
  go_wp2
  go_loopw [11] (fun i wr => ∃ k : Nat, k ≤ m ∧ i = .int .i64 k ∧ Hid (∀ (j : Nat) (t : TS), j < k → ts[j]? = some t → Sm t.vs) ∧ Hid (Below w.heap.size w wr)) (fun i _ => m - (intOf i).toNat)
  case atStart => exact ⟨0, Nat.zero_le _, rfl, Lib.hid (fun j t hj => by omega), Below.refl _ _⟩
  case round =>
    obtain ⟨k, hk, rfl, HS, HB⟩ := hrel
    by_cases h1 : k < m
    · obtain ⟨ad, t, rfl, hlt, ht, c0, hv, hnc⟩ := (HA.out _ HB.out).at_ h1
      have HTT := Lib.hid ht
      have HV := Lib.hid (fun V (h : Below w.heap.size w V) => ((HA.out _ h).2 t (List.mem_of_getElem? ht)).1)
      have hl : t.vs.length = t.n := hv.length
      have hm2 : t.n ≤ 9223372036854775807 := by obtain ⟨_, q, _⟩ := hv; have := q.2.1; unfold maxLen at this; omega
      clear ht hv
      obtain ⟨At, nt, ct, vs⟩ := t
      simp only at c0 hl hnc hm2 HV
      obtain ⟨q, hq⟩ : ∃ q : Nat, q = min nt 20 := ⟨_, rfl⟩
      have hmin := min_20 nt q hq
      have hq1 : q ≤ nt ∧ q ≤ 20 ∧ (q = nt ∨ q = 20) := by omega
      obtain ⟨l1, l2, l3⟩ := hq1
      have hqc : (q : Int) ≤ (ct : Int) := by omega
      have HL := Lib.hid hl
      clear hq hl
      go_wp2
      clear hmin
      go_loopw [21] (fun i wr2 => ∃ j : Nat, j ≤ q ∧ i = .int .i64 j ∧ Hid (∀ (x : Nat) (v : Vl), x < j → vs[x]? = some v → v.l.length ≤ 300) ∧ Hid (Below w.heap.size w wr2)) (fun i _ => q - (intOf i).toNat)
      case atStart => exact ⟨0, Nat.zero_le _, rfl, Lib.hid (fun x v hx => by omega), HB⟩
      case round =>
        clear HB c0
        obtain ⟨j, hj, rfl, HO, HB⟩ := hrel
        by_cases h2 : j < q
        · obtain ⟨ad2, v, A2, m2, cp2, rfl, hlt2, hv, d0, d1, d2, d3, hy, _⟩ := (HV.out _ HB.out).at_ (j := j) (by omega)
          have HVV := Lib.hid hv
          have hyl := hy.1
          have hm3 : m2 ≤ 9223372036854775807 := by have := hy.2.1; unfold maxLen at this; omega
          have HYL := Lib.hid hyl
          clear hv hy hyl
          by_cases h3 : 300 < m2
          · go_wp2
            go_ret
            exact ⟨true, rfl, (fun q => by cases q), HB.out.alloc HB.out.size _⟩
          · go_wp2
            exact ⟨⟨j + 1, by omega, by go_num, Lib.hid (fun x y hx hyy => by
              by_cases e : x = j
              · subst e; rw [HVV.out] at hyy; injection hyy with hyy; subst hyy; rw [HYL.out]; omega
              · exact HO.out x y (by omega) hyy), HB.out.alloc HB.out.size _⟩, by simp [intOf]; omega⟩
        · obtain rfl : j = q := by omega
          by_cases h3 : 20 < nt
          · go_wp2
            go_ret
            exact ⟨true, rfl, (fun q => by cases q), HB.out⟩
          · have hjn : j = nt := by omega
            go_wp2
            exact ⟨⟨k + 1, by omega, by go_num, Lib.hid (fun x y hx hyy => by
              by_cases e : x = k
              · subst e
                rw [HTT.out] at hyy
                injection hyy with hyy
                subst hyy
                exact ⟨by show vs.length ≤ 20; rw [HL.out]; omega, fun v hv => by
                  obtain ⟨i, hi, e⟩ := List.mem_iff_getElem.1 hv
                  exact HO.out i v (by have := HL.out; simp only at hi; omega) (by rw [List.getElem?_eq_getElem hi, e])⟩
              · exact HS.out x y (by omega) hyy), HB⟩, by simp [intOf]; omega⟩
    · have HS2 := Lib.hid (show ∀ t ∈ ts, Sm t.vs from fun t ht => by
        obtain ⟨i, hi, e⟩ := List.mem_iff_getElem.1 ht
        exact HS.out i t (by have := HN.out; omega) (by rw [List.getElem?_eq_getElem hi, e]))
      go_wp2
      go_ret
      exact ⟨_, rfl, fun q => ⟨by simp at q; omega, HS2.out⟩, HB.out⟩
end Go.Proofs.YtdpddkpfllioiaaDoor
