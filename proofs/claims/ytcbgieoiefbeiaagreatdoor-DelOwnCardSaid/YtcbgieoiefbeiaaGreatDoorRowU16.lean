/-
  How arguments are read: a slice of numbers of 16 bits that came in, as a list of numbers.
-/
import Derived.Test.YtcbgieoiefbeiaaGreatDoorRow
namespace Go.Proofs.YtcbgieoiefbeiaaGreatDoor
open Go.ChangeShapes Go.WideShapes Go.ChangeAt Go.RowKit

set_option maxRecDepth 100000 in
theorem cells_u16 : Tryz.prog.cellsOf 51 = 1 := by kernel_rfl

/-- The slice value '.slice A n c' holds the numbers l, and lies below block B. -/
def U16 (w : World) (B : Nat) (A : Option Addr) (n : Nat) (l : List Int) : Prop :=
  l.length = n ∧ n ≤ maxLen ∧ (∀ x ∈ l, 0 ≤ x ∧ x ≤ 65535) ∧ (0 < n → ∃ ad, A = some ad ∧ ad.block < B ∧ ∀ (j : Nat) (u : Int), l[j]? = some u → w.cell? (ad.add j) = some (.int .u16 u))

theorem U16.none_ {w : World} {B : Nat} {A : Option Addr} : U16 w B A 0 [] := ⟨rfl, by unfold maxLen; omega, (fun _ h => by cases h), fun h => absurd h (by omega)⟩
theorem U16.at_ {w : World} {B n k : Nat} {A : Option Addr} {l : List Int} (h : U16 w B A n l) (hk : k < n) : ∃ (ad : Addr) (u : Int), A = some ad ∧ ad.block < B ∧ l[k]? = some u ∧ (0 ≤ u ∧ u ≤ 65535) ∧ w.cell? (ad.add k) = some (.int .u16 u) := by
  obtain ⟨ad, e, hb, hc⟩ := h.2.2.2 (by omega)
  have hl : k < l.length := by have := h.1; omega
  exact ⟨ad, l[k], e, hb, List.getElem?_eq_getElem hl, h.2.2.1 _ (List.getElem_mem hl), hc k _ (List.getElem?_eq_getElem hl)⟩
theorem U16.below {w w' : World} {B n : Nat} {A : Option Addr} {l : List Int} (h : U16 w B A n l) (hb : Below B w w') : U16 w' B A n l :=
  ⟨h.1, h.2.1, h.2.2.1, fun hn => by
    obtain ⟨ad, e, hlt, hc⟩ := h.2.2.2 hn
    exact ⟨ad, e, hlt, fun j u hu => (hb.cell (by rw [block_of_add]; exact hlt)).trans (hc j u hu)⟩⟩

set_option maxRecDepth 100000 in
theorem open_u16 {H : Type} {enc : TypeId × Value → H} {W : World} {base : Nat} {v : Value} {d : DataW H} {p : List MemPlace}
    (hok : Value.okWide Tryz.prog W .any base 50 v) (h : DataW.Trod enc Tryz.prog W 0 (fun _ => true) true 50 v d p) :
    ∃ A n c l, v = .slice A n c ∧ U16 W W.heap.size A n l ∧ n ≤ c := by
  obtain ⟨a0, len0, cap0, rfl⟩ := okWide_slice Tryz.underlying50 hok
  obtain ⟨fuel, hf⟩ := h
  rcases open_ints Tryz.underlying50 Tryz.underlying51 cells_u16 hf with ⟨hcs, _⟩ | ⟨x, l, c, zs, hcs, _, hl, hm, hz, _, hcell, hwz⟩
  · simp [Value.cells] at hcs
    obtain ⟨rfl, rfl, rfl⟩ := hcs
    exact ⟨none, 0, 0, [], rfl, U16.none_, Nat.le_refl _⟩
  · simp [Value.cells] at hcs
    obtain ⟨rfl, rfl, rfl⟩ := hcs
    have hz' : zs.length = cap0 := by simpa using hz
    refine ⟨some x, len0, cap0, zs.take len0, rfl, ⟨by simp; omega, by omega, fun u hu => ?_, fun hn => ⟨x, rfl, ?_, fun j u hu => ?_⟩⟩, hl⟩
    · simpa [Lit.wf, IntKind.min, IntKind.max, IntKind.signed, IntKind.bits] using hwz u (List.mem_of_mem_take hu)
    · have := lt_of_cell (hcell 0 (by omega))
      rwa [block_of_add] at this
    · rw [List.getElem?_take] at hu
      split at hu
      · have hjz : j < zs.length := (List.getElem?_eq_some_iff.1 hu).1
        rw [hcell j hjz]
        simp [List.getD, hu]
      · simp at hu
end Go.Proofs.YtcbgieoiefbeiaaGreatDoor
