/-
  What the statements' own far answers of spans: where it is no, all that is asked is small.
-/
import Derived.Test.YtofccfbiappgaaaDoorBndLaw
import Derived.Test.YtofccfbiappgaaaDoorTup
namespace Go.Proofs.YtofccfbiappgaaaDoor
open Go.RowKit

/-- A span as it lies in memory. -/
structure SV where
  A : Option Addr
  n : Nat
  c : Nat
  A' : Option Addr
  n' : Nat
  c' : Nat
  o : Bool
def svc (s : SV) : List Value := [.slice s.A s.n s.c, .slice s.A' s.n' s.c', .bool s.o]
def Svs (w : World) (B : Nat) (A : Option Addr) (m : Nat) (ss : List SV) : Prop := Rws w B A m 3 (ss.map svc)
theorem Svs.length {w : World} {B m : Nat} {A : Option Addr} {ss : List SV} (h : Svs w B A m ss) : ss.length = m := by have := h.1; simpa using this
theorem Svs.at_ {w : World} {B m j : Nat} {A : Option Addr} {ss : List SV} (h : Svs w B A m ss) (hj : j < m) : ∃ (ad : Addr) (s : SV), A = some ad ∧ ad.block < B ∧ ss[j]? = some s ∧ w.cell? (ad.add (j * 3)) = some (.slice s.A s.n s.c) ∧ w.cell? ⟨(ad.add (j * 3)).block, (ad.add (j * 3)).off + 1, none⟩ = some (.slice s.A' s.n' s.c') ∧ w.cell? ⟨(ad.add (j * 3)).block, (ad.add (j * 3)).off + 2, none⟩ = some (.bool s.o) := by
  obtain ⟨ad, c, e, hb, hc, _, hu⟩ := Rws.at_ h hj
  rw [List.getElem?_map] at hc
  rcases ht : ss[j]? with _ | s
  · rw [ht] at hc; cases hc
  · rw [ht] at hc
    simp only [Option.map_some, Option.some.injEq] at hc
    subst hc
    have u0 := hu 0 _ rfl
    have u1 := hu 1 _ rfl
    have u2 := hu 2 _ rfl
    rw [← add_of_add] at u0 u1 u2
    exact ⟨ad, s, e, hb, rfl, by simpa [Addr.add] using u0, u1, u2⟩
theorem svs_two {w : World} {g : Nat} {s t : SV} (h : Blk w g #[.slice s.A s.n s.c, .slice s.A' s.n' s.c', .bool s.o, .slice t.A t.n t.c, .slice t.A' t.n' t.c', .bool t.o]) : Svs w w.heap.size (some ⟨g, 0, none⟩) 2 [s, t] := by
  refine ⟨rfl, by unfold maxLen; omega, by simp [svc], fun _ => ⟨_, rfl, h.lt, fun j i cc u hj hi => ?_⟩⟩
  have hadd : ∀ m, (⟨g, 0, none⟩ : Addr).add m = ⟨g, m, none⟩ := fun m => by rw [Addr.add_mid, Nat.zero_add]
  rw [hadd, h.cell]
  match j, hj with
  | 0, hj =>
    simp [svc] at hj
    subst hj
    match i, hi with
    | 0, hi => simpa using hi
    | 1, hi => simpa using hi
    | 2, hi => simpa using hi
  | 1, hj =>
    simp [svc] at hj
    subst hj
    match i, hi with
    | 0, hi => simpa using hi
    | 1, hi => simpa using hi
    | 2, hi => simpa using hi
def FarS (w : World) (ss : List SV) (e : Ending) (w' : World) : Prop := ∃ b : Bool, e = .returned (.bool b) ∧ (b = false → ∀ s ∈ ss, s.n ≤ 300 ∧ s.n' ≤ 300) ∧ Below w.heap.size w w'
set_option maxRecDepth 100000 in
set_option maxHeartbeats 1000000 in
theorem sfar_any (A : Option Addr) (m c B : Nat) (ss : List SV) (w : World) (ha : Svs w B A m ss) (hB : B ≤ w.heap.size) (hm : m ≤ 1000) (hs : ∀ s ∈ ss, s.n ≤ 9223372036854775807 ∧ s.n' ≤ 9223372036854775807) :
    Calls Tryd.prog 6 #[.slice A m c] w (FarS w ss) := by
  have HN := Lib.hid ha.length
  have HA := Lib.hid (fun V (h : Below w.heap.size w V) => show Svs V w.heap.size A m ss from Rws.below (Rws.more ha hB) h)
  have HS := Lib.hid hs
  clear ha hs
  go_enter Tryd.func6, Tryd.ntmps6
  go_wp2
  go_loopw [7] (fun i wr => ∃ k : Nat, k ≤ m ∧ i = .int .i64 k ∧ Hid (∀ (j : Nat) (s : SV), j < k → ss[j]? = some s → s.n ≤ 300 ∧ s.n' ≤ 300) ∧ Hid (Below w.heap.size w wr)) (fun i _ => m - (intOf i).toNat)
  case atStart => exact ⟨0, Nat.zero_le _, rfl, Lib.hid (fun j t hj => by omega), Below.refl _ _⟩
  case round =>
    obtain ⟨k, hk, rfl, HO, HB⟩ := hrel
    by_cases h1 : k < m
    · obtain ⟨ad, s, rfl, hlt, hs, c0, c1, c2⟩ := (HA.out _ HB.out).at_ h1
      have HSS := Lib.hid hs
      obtain ⟨b1, b2⟩ := HS.out s (List.mem_of_getElem? hs)
      clear hs
      obtain ⟨As, n, cs, As', n', cs', o⟩ := s
      simp only at c0 c1 c2 b1 b2
      by_cases h2 : 300 < n
      · go_wp2
        go_ret
        exact ⟨true, rfl, (fun q => by cases q), HB.out.alloc HB.out.size _⟩
      · by_cases h3 : 300 < n'
        · go_wp2
          go_ret
          exact ⟨true, rfl, (fun q => by cases q), HB.out.alloc HB.out.size _⟩
        · go_wp2
          exact ⟨⟨k + 1, by omega, by go_num, Lib.hid (fun x y hx hyy => by
            by_cases e : x = k
            · subst e; rw [HSS.out] at hyy; injection hyy with hyy; subst hyy; simp only; omega
            · exact HO.out x y (by omega) hyy), HB.out.alloc HB.out.size _⟩, by simp [intOf]; omega⟩
    · have HS2 := Lib.hid (show ∀ s ∈ ss, s.n ≤ 300 ∧ s.n' ≤ 300 from fun t ht => by
        obtain ⟨i, hi, e⟩ := List.mem_iff_getElem.1 ht
        exact HO.out i t (by have := HN.out; omega) (by rw [List.getElem?_eq_getElem hi, e]))
      go_wp2
      go_ret
      exact ⟨_, rfl, fun _ => HS2.out, HB.out⟩
end Go.Proofs.YtofccfbiappgaaaDoor
