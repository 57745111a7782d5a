/-
  How arguments are read: an array of three slices of bytes; a slice of pairs.
-/
import Derived.Test.YtdllgcaeenldaaaRow
import Derived.Test.YtdllgcaeenldaaaPairs
import Derived.Laws.IdiomArrays
import Derived.Deep.Slices
namespace Go.Proofs.Ytdllgcaeenldaaa
open Go.ChangeShapes Go.WideShapes Go.ChangeAt Go.RowKit

theorem trod_byt {H : Type} {enc : TypeId × Value → H} {W : World} {fuel : Nat} {v : Value} {x : DataW H × List MemPlace}
    (hf : DataW.trod enc Try.prog W 0 (fun _ => true) true fuel 22 [v] = some x) : ∃ A n c l, v = .slice A n c ∧ Byt W W.heap.size A n l ∧ n ≤ c := by
  rcases open_ints Try.underlying22 Try.underlying5 cells_u8 hf with ⟨hcs, _⟩ | ⟨a, l, c, zs, hcs, _, hl, hm, hz, _, hcell, hwz⟩
  · simp at hcs
    subst hcs
    exact ⟨none, 0, 0, [], rfl, Byt.none_, Nat.le_refl _⟩
  · simp at hcs
    subst hcs
    obtain ⟨bl, hb⟩ := byt_of_cells hl hm (by simpa using hz) hcell hwz
    exact ⟨_, _, _, bl, rfl, hb, hl⟩

theorem cells_bytes : Try.prog.cellsOf 22 = 1 := by kernel_rfl
theorem cells_arr3 : Try.prog.cellsOf 38 = 3 := by kernel_rfl
theorem cells_pair : Try.prog.cellsOf 43 = 2 := by kernel_rfl
theorem cells_u64 : Try.prog.cellsOf 41 = 1 := by kernel_rfl

theorem okWide_array {P : Program} {w : World} {r : Reach} {base : Nat} {t e : TypeId} {v : Value} {n : Nat} (ht : P.underlying t = some (.array n e)) (h : Value.okWide P w r base t v) : ∃ cs, v = .agg cs ∧ cs.size = P.cellsOf t := by
  simp only [Value.okWide, ht] at h
  obtain ⟨cs, h1, h2, _⟩ := h
  exact ⟨cs, h1, h2⟩

theorem open_arr3 {H : Type} {enc : TypeId × Value → H} {W : World} {base : Nat} {v : Value} {d : DataW H} {p : List MemPlace}
    (hok : Value.okWide Try.prog W .any base 38 v) (h : DataW.Trod enc Try.prog W 0 (fun _ => true) true 38 v d p) :
    ∃ A0 n0 c0 l0 A1 n1 c1 l1 A2 n2 c2 l2, v = .agg #[.slice A0 n0 c0, .slice A1 n1 c1, .slice A2 n2 c2] ∧ Byt W W.heap.size A0 n0 l0 ∧ Byt W W.heap.size A1 n1 l1 ∧ Byt W W.heap.size A2 n2 l2 := by
  obtain ⟨cs, rfl, hsz⟩ := okWide_array Try.underlying38 hok
  rw [cells_arr3] at hsz
  obtain ⟨cs⟩ := cs
  match cs, hsz with
  | [a0, a1, a2], _ =>
    obtain ⟨fuel, hf⟩ := h
    have hf' : DataW.trod enc Try.prog W 0 (fun _ => true) true fuel 38 [a0, a1, a2] = some (d, p) := by simpa [Value.cells] using hf
    obtain ⟨y0, y1, y2, n, _, h0, h1, h2⟩ := trod_array3 Try.underlying38 cells_bytes hf'
    obtain ⟨A0, n0, c0, l0, rfl, b0, _⟩ := trod_byt h0
    obtain ⟨A1, n1, c1, l1, rfl, b1, _⟩ := trod_byt h1
    obtain ⟨A2, n2, c2, l2, rfl, b2, _⟩ := trod_byt h2
    exact ⟨A0, n0, c0, l0, A1, n1, c1, l1, A2, n2, c2, l2, rfl, b0, b1, b2⟩

/-- Of something for each place below m a list. -/
theorem list_of {α : Type} {m : Nat} {Q : Nat → α → Prop} (h : ∀ i, i < m → ∃ a, Q i a) : ∃ l : List α, l.length = m ∧ ∀ (i : Nat) (a : α), l[i]? = some a → Q i a := by
  induction m with
  | zero => exact ⟨[], rfl, fun i a h => by simp at h⟩
  | succ m ih =>
    obtain ⟨l, hl, hq⟩ := ih (fun i hi => h i (by omega))
    obtain ⟨a, ha⟩ := h m (by omega)
    refine ⟨l ++ [a], by simp [hl], fun i b hb => ?_⟩
    by_cases e : i < l.length
    · rw [List.getElem?_append_left e] at hb; exact hq i b hb
    · rw [List.getElem?_append_right (by omega)] at hb
      have : i - l.length = 0 := by
        have := (List.getElem?_eq_some_iff.1 hb).1; simp at this; omega
      rw [this] at hb
      simp at hb
      subst hb
      have : i = m := by omega
      subst this
      exact ha

theorem open_prs {H : Type} {enc : TypeId × Value → H} {W : World} {base : Nat} {v : Value} {d : DataW H} {p : List MemPlace}
    (hok : Value.okWide Try.prog W .any base 39 v) (h : DataW.Trod enc Try.prog W 0 (fun _ => true) true 39 v d p) :
    ∃ A n c ps, v = .slice A n c ∧ Prs W W.heap.size A n ps := by
  obtain ⟨a0, len0, cap0, rfl⟩ := okWide_slice Try.underlying39 hok
  obtain ⟨fuel, hf⟩ := h
  rcases Go.Deep.open_slice Try.underlying39 hf with ⟨hcs, _⟩ | ⟨a, len, cap, m, n, D, Pl, hcs, _, hl, hm, hmm, _, hi⟩
  · simp [Value.cells] at hcs
    obtain ⟨rfl, rfl, rfl⟩ := hcs
    exact ⟨none, 0, 0, [], rfl, Prs.none_⟩
  · simp [Value.cells] at hcs
    obtain ⟨rfl, rfl, rfl⟩ := hcs
    simp only [if_true] at hmm
    subst hmm
    rw [cells_pair] at hi
    obtain ⟨ps, hps, hq⟩ := list_of (α := PV) (m := len0) (Q := fun j p => W.cell? (a.add (j * 2)) = some (.slice p.A p.n p.c) ∧ W.cell? (a.add (j * 2 + 1)) = some (.int .u64 p.val) ∧ Byt W W.heap.size p.A p.n p.key) (fun j hj => by
      obtain ⟨cs', hc, ht'⟩ := hi j (by omega)
      obtain ⟨y0, y1, n', _, hlen, hy0, hy1⟩ := trod_struct2 Try.underlying43 ht'
      rw [cells_pair] at hlen
      obtain ⟨_, _, hat⟩ := World.cells?_some hc
      match cs', hlen with
      | [x0, x1], _ =>
        have e0 := hat 0 (by omega)
        have e1 := hat 1 (by omega)
        rw [cells_bytes] at hy0
        rw [cells_u64] at hy1
        simp at hy0 hy1
        obtain ⟨A, n, c, l, rfl, hb, _⟩ := trod_byt hy0
        obtain ⟨z, hz, _, _⟩ := DataW.trod_int Try.underlying41 hy1
        simp at hz
        subst hz
        refine ⟨⟨A, n, c, l, z⟩, ?_, ?_, hb⟩
        · have : (a.add (j * 2)).add 0 = a.add (j * 2) := by unfold Addr.add; simp
          rw [this] at e0
          simpa using e0
        · rw [add_of_add] at e1
          simpa using e1)
    refine ⟨_, _, _, ps, rfl, hps, by omega, fun j p hj => (hq j p hj).2.2, fun hn => ⟨a, rfl, ?_, fun j p hj => ⟨(hq j p hj).1, (hq j p hj).2.1⟩⟩⟩
    have hp0 : ps[0]? = some (ps[0]'(by omega)) := List.getElem?_eq_getElem (by omega)
    have := lt_of_cell (hq 0 _ hp0).1
    rwa [block_of_add] at this
end Go.Proofs.Ytdllgcaeenldaaa
