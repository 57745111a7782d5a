/-
  Slices of bytes' slices: where they lie, how an argument is read that is one.
-/
import Derived.Test.YtfmkhafpbfmadaaGreatCanonQ
import Derived.Test.YtfmkhafpbfmadaaGreatCanon
import Derived.Deep.Slices
namespace Go.Proofs.YtfmkhafpbfmadaaGreat
open Go.ChangeShapes Go.WideShapes Go.ChangeAt Go.RowKit

structure Bv where
  A : Option Addr
  n : Nat
  c : Nat
  l : List UInt8
def Bss (w : World) (B : Nat) (A : Option Addr) (n : Nat) (rs : List Bv) : Prop :=
  rs.length = n ∧ n ≤ maxLen ∧ (∀ r ∈ rs, Byt w B r.A r.n r.l ∧ r.n ≤ r.c) ∧ (0 < n → ∃ ad, A = some ad ∧ ad.block < B ∧ ∀ (j : Nat) (r : Bv), rs[j]? = some r → w.cell? (ad.add j) = some (.slice r.A r.n r.c))
section
variable {w w' : World} {B B' n : Nat} {A : Option Addr} {rs : List Bv}
theorem Bss.none_ : Bss w B A 0 [] := ⟨rfl, by unfold maxLen; omega, fun _ h => (by cases h), fun h => absurd h (by omega)⟩
theorem Bss.below (h : Bss w B A n rs) (hb : Below B w w') : Bss w' B A n rs :=
  ⟨h.1, h.2.1, fun r hr => ⟨(h.2.2.1 r hr).1.below hb, (h.2.2.1 r hr).2⟩, fun hn => by
    obtain ⟨ad, e, h1, h2⟩ := h.2.2.2 hn
    exact ⟨ad, e, h1, fun j r hr => (hb.cell (by rw [block_of_add]; exact h1)).trans (h2 j r hr)⟩⟩
theorem Bss.at_ (h : Bss w B A n rs) {j : Nat} (hj : j < n) : ∃ (ad : Addr) (r : Bv), A = some ad ∧ rs[j]? = some r ∧ w.cell? (ad.add j) = some (.slice r.A r.n r.c) ∧ Byt w B r.A r.n r.l ∧ r.n ≤ r.c := by
  obtain ⟨ad, e, _, h2⟩ := h.2.2.2 (by omega)
  have hl : j < rs.length := by have := h.1; omega
  have hr := List.getElem?_eq_getElem hl
  have hb := h.2.2.1 _ (List.mem_of_getElem? hr)
  exact ⟨ad, _, e, hr, h2 j _ hr, hb.1, hb.2⟩
theorem Bss.tail (h : Bss w B A n rs) {c : Nat} (hnc : n ≤ c) : Bss w B (cutA A 1 c 1) (n - 1) (rs.drop 1) := by
  refine ⟨by rw [List.length_drop, h.1], by have := h.2.1; omega, fun r hr => h.2.2.1 r (List.mem_of_mem_drop hr), fun hn => ?_⟩
  obtain ⟨ad, rfl, h1, h2⟩ := h.2.2.2 (by omega)
  have e : cutA (some ad) 1 c 1 = some (ad.add 1) := by
    unfold cutA
    rw [if_neg (by omega)]
    rfl
  refine ⟨_, e, by rw [block_of_add]; exact h1, fun j r hr => ?_⟩
  rw [List.getElem?_drop] at hr
  rw [add_of_add]
  exact h2 (1 + j) r hr
end
set_option maxRecDepth 100000 in
theorem size_bytes : (Tryz.prog.info? 23).map (·.size) = some 1 := by kernel_rfl
set_option maxRecDepth 100000 in
theorem open_bss {H : Type} {enc : TypeId × Value → H} {W : World} {base : Nat} {v : Value} {d : DataW H} {p : List MemPlace}
    (hok : Value.okWide Tryz.prog W .any base 45 v) (h : DataW.Trod enc Tryz.prog W 0 (fun _ => true) true 45 v d p) :
    ∃ A n c rs, v = .slice A n c ∧ Bss W W.heap.size A n rs ∧ n ≤ c := by
  obtain ⟨a0, len0, cap0, rfl⟩ := okWide_slice Tryz.underlying45 hok
  obtain ⟨fuel, hf⟩ := h
  rcases Go.Deep.open_slice Tryz.underlying45 hf with ⟨hcs, _⟩ | ⟨a, len, cap, m, n, D, Pl, hcs, _, hl, hm, hmm, _, hi⟩
  · simp [Value.cells] at hcs
    obtain ⟨rfl, rfl, rfl⟩ := hcs
    exact ⟨none, 0, 0, [], rfl, Bss.none_, Nat.le_refl _⟩
  · simp [Value.cells] at hcs
    obtain ⟨rfl, rfl, rfl⟩ := hcs
    simp only [if_true] at hmm
    subst hmm
    rw [cells_bytes] at hi
    obtain ⟨rs, hrs, hq⟩ := list_of (α := Bv) (m := len0) (Q := fun j r => W.cell? (a.add j) = some (.slice r.A r.n r.c) ∧ Byt W W.heap.size r.A r.n r.l ∧ r.n ≤ r.c) (fun j hj => by
      obtain ⟨cs', hc, ht'⟩ := hi j (by omega)
      obtain ⟨_, hlen, hat⟩ := World.cells?_some hc
      match cs', hlen with
      | [x0], _ =>
        obtain ⟨A, n, c, l, rfl, hb, hnc⟩ := trod_byt ht'
        refine ⟨⟨A, n, c, l⟩, ?_, hb, hnc⟩
        have e0 := hat 0 (by simp)
        rw [Nat.mul_one, add_of_add, Nat.add_zero] at e0
        simpa using e0)
    refine ⟨_, _, _, rs, rfl, ⟨hrs, by omega, fun r hr => ?_, fun hn => ⟨a, rfl, ?_, fun j r hj => (hq j r hj).1⟩⟩, by omega⟩
    · obtain ⟨j, hj⟩ := List.mem_iff_getElem?.1 hr
      exact (hq j r hj).2
    · have hp0 : rs[0]? = some (rs[0]'(by omega)) := List.getElem?_eq_getElem (by omega)
      have := lt_of_cell (hq 0 _ hp0).1
      rwa [block_of_add] at this
end Go.Proofs.YtfmkhafpbfmadaaGreat
