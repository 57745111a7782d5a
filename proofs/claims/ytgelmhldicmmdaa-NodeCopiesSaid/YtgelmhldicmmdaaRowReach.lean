/-
  How an argument is read that is an array of two: the general part.
  How arguments are read that hold bytes, with the form's own reach: a try of layer 12's laws, two rows of bytes in an array.
-/
import Derived.Test.YtgelmhldicmmdaaRow
import Derived.SizedLaws
namespace Go.Proofs.Ytgelmhldicmmdaa
open Go.ChangeShapes Go.WideShapes Go.ChangeAt Go.RowKit

theorem trod_pair_of {H : Type} {enc : TypeId × Value → H} {P : Program} {w : World} {base : Nat} {spare : Nat → Bool} {held : Bool} {t e : TypeId} {fuel : Nat} {a b : Value} {x : DataW H × List MemPlace}
    (ht : P.underlying t = some (.array 2 e)) (hce : P.cellsOf e = 1) (h : DataW.trod enc P w base spare held fuel t [a, b] = some x) :
    ∃ y z n, DataW.trod enc P w base spare held n e [a] = some y ∧ DataW.trod enc P w base spare held n e [b] = some z := by
  cases fuel with
  | zero => simp [DataW.trod] at h
  | succ n =>
    unfold DataW.trod at h
    rw [ht] at h
    have r2 : List.range 2 = [0, 1] := rfl
    simp [r2, hce] at h
    obtain ⟨_, h⟩ := h
    rcases ha : DataW.trod enc P w base spare held n e [a] with _ | y
    · simp [ha] at h
    · rcases hb : DataW.trod enc P w base spare held n e [b] with _ | z
      · simp [ha, hb] at h
      · exact ⟨y, z, n, ha, hb⟩

theorem okWide_arr {P : Program} {w : World} {r : Reach} {base : Nat} {t e : TypeId} {v : Value} {n : Nat} (ht : P.underlying t = some (.array n e)) (h : Value.okWide P w r base t v) : ∃ cs, v = .agg cs ∧ cs.size = P.cellsOf t := by
  simp only [Value.okWide, ht] at h
  obtain ⟨cs, h1, h2, _⟩ := h
  exact ⟨cs, h1, h2⟩
end Go.Proofs.Ytgelmhldicmmdaa

namespace Go.Proofs.Ytgelmhldicmmdaa
open Go.ChangeShapes Go.WideShapes Go.ChangeAt Go.RowKit

set_option maxRecDepth 100000 in
theorem cells_bytes : Try.prog.cellsOf 24 = 1 := by kernel_rfl
set_option maxRecDepth 100000 in
theorem bytes_u8 : Try.prog.bytesOf 5 = 1 := by kernel_rfl
section
variable {H : Type} {enc : TypeId × Value → H} {W : World} {fuel : Nat} {cs : List Value} {x : DataW H × List MemPlace}
set_option maxRecDepth 100000 in
theorem bytes_reach (h : DataW.trod enc Try.prog W 0 (fun _ => true) true fuel 24 cs = some x) (hz : ∀ n ∈ x.1.weights Try.prog 24, n ≤ reachBytes) :
    ∃ A n c l, cs = [.slice A n c] ∧ Byt W W.heap.size A n l ∧ n ≤ c ∧ n ≤ 140737488351232 := by
  rcases open_ints Try.underlying24 Try.underlying5 cells_u8 h with ⟨hcs, _⟩ | ⟨x, l, c, zs, hcs, _, hl, hm, hz', hd, hcell, hwz⟩
  · exact ⟨none, 0, 0, [], hcs, Byt.none_, Nat.le_refl _, by omega⟩
  · obtain ⟨bl, hb⟩ := byt_of_cells hl hm (by simpa using hz') hcell hwz
    refine ⟨_, _, _, bl, hcs, hb, hl, ?_⟩
    rw [hd] at hz
    have h1 := hz (((lits .u8 (zs.take l)).length + (lits .u8 (zs.drop l)).length) * Try.prog.bytesOf 5) (by simp only [DataW.weights, Try.underlying24]; exact List.mem_cons_self)
    rw [bytes_u8] at h1
    simp only [lits, List.length_map, List.length_take, List.length_drop, reachBytes] at h1
    rw [if_pos rfl] at hz'
    omega
end
/-- The weights of one argument. -/
theorem weigh {H : Type} {P : Program} {ts : List TypeId} {ds : List (DataW H)} (h : (DataW.weightsEach P ts ds).all (· ≤ reachBytes) = true) {j : Nat} {t : TypeId} {d : DataW H} (ht : ts[j]? = some t) (hd : ds[j]? = some d) : ∀ n ∈ d.weights P t, n ≤ reachBytes := fun n hn =>
  of_decide_eq_true (List.all_eq_true.1 h _ (DataW.weights_mem_each ht hd n hn))

theorem wf_byte {y : Int} (hy : (Lit.int .u8 y).wf = true) : ∃ b : UInt8, y = (b.toNat : Int) := by
  have hb : 0 ≤ y ∧ y ≤ 255 := by simpa [Lit.wf, IntKind.min, IntKind.max, IntKind.signed, IntKind.bits] using hy
  exact ⟨UInt8.ofNat y.toNat, by rw [UInt8.toNat_ofNat', Nat.mod_eq_of_lt (by omega)]; omega⟩
set_option maxRecDepth 100000 in
theorem cells_try : Try.prog.cellsOf 26 = 5 := by kernel_rfl
set_option maxRecDepth 100000 in
theorem cells_try3 : Try.prog.cellsOf 23 = 2 := by kernel_rfl
set_option maxRecDepth 100000 in
theorem cells_tryn : Try.prog.cellsOf 22 = 1 := by kernel_rfl
set_option maxRecDepth 100000 in
theorem open_two64 {H : Type} {enc : TypeId × Value → H} {W : World} {base : Nat} {v : Value} {d : DataW H} {p : List MemPlace}
    (hok : Value.okWide Try.prog W .any base 23 v) (h : DataW.Trod enc Try.prog W 0 (fun _ => true) true 23 v d p) :
    ∃ a b : Int, v = .agg #[.int .u64 a, .int .u64 b] := by
  obtain ⟨cs, rfl, hsz⟩ := okWide_arr Try.underlying23 hok
  rw [cells_try3] at hsz
  obtain ⟨cs⟩ := cs
  match cs, hsz with
  | [u, v], _ =>
    obtain ⟨fuel, hf⟩ := h
    have hf' : DataW.trod enc Try.prog W 0 (fun _ => true) true fuel 23 [u, v] = some (d, p) := by simpa [Value.cells] using hf
    obtain ⟨y, z, n, h1, h2⟩ := trod_pair_of Try.underlying23 cells_tryn hf'
    obtain ⟨x1, e1, _, w1⟩ := DataW.trod_int Try.underlying22 h1
    obtain ⟨x2, e2, _, w2⟩ := DataW.trod_int Try.underlying22 h2
    simp only [List.cons.injEq, and_true] at e1 e2
    subst e1 e2
    exact ⟨x1, x2, rfl⟩
set_option maxRecDepth 100000 in
theorem open_try {H : Type} {enc : TypeId × Value → H} {W : World} {base : Nat} {v : Value} {d : DataW H} {p : List MemPlace}
    (hok : Value.okWide Try.prog W .any base 26 v) (h : DataW.Trod enc Try.prog W 0 (fun _ => true) true 26 v d p) (hz : ∀ n ∈ d.weights Try.prog 26, n ≤ reachBytes) :
    ∃ (A1 : Option Addr) (n1 c1 : Nat) (l1 : List UInt8) (A2 : Option Addr) (n2 c2 : Nat) (l2 : List UInt8) (a b : Int) (u : UInt8), v = .agg #[.slice A1 n1 c1, .slice A2 n2 c2, .int .u64 a, .int .u64 b, .int .u8 (u.toNat : Int)] ∧ (Byt W W.heap.size A1 n1 l1 ∧ n1 ≤ c1 ∧ n1 ≤ 140737488351232) ∧ (Byt W W.heap.size A2 n2 l2 ∧ n2 ≤ c2 ∧ n2 ≤ 140737488351232) := by
  obtain ⟨cs, rfl, _⟩ := okWide_struct Try.underlying26 hok
  obtain ⟨fuel, hf⟩ := h
  obtain ⟨xs, m, _, hx, hlen, hsz, hg⟩ := DataW.trod_struct Try.underlying26 hf
  rw [cells_try] at hlen
  obtain ⟨cs⟩ := cs
  simp only [Value.cells] at hlen hg
  match cs, hlen, xs, hsz, hx with
  | [c0, c1, c2, c3, c4], _, [y0, y1, y2, y3], _, hx =>
    have g0 : DataW.trod enc Try.prog W 0 (fun _ => true) true m 24 (([c0, c1, c2, c3, c4].drop 0).take (Try.prog.cellsOf 24)) = some y0 := hg 0 _ rfl
    have g1 : DataW.trod enc Try.prog W 0 (fun _ => true) true m 24 (([c0, c1, c2, c3, c4].drop 1).take (Try.prog.cellsOf 24)) = some y1 := hg 1 _ rfl
    have g2 : DataW.trod enc Try.prog W 0 (fun _ => true) true m 23 (([c0, c1, c2, c3, c4].drop 2).take (Try.prog.cellsOf 23)) = some y2 := hg 2 _ rfl
    have g3 : DataW.trod enc Try.prog W 0 (fun _ => true) true m 5 (([c0, c1, c2, c3, c4].drop 4).take (Try.prog.cellsOf 5)) = some y3 := hg 3 _ rfl
    rw [cells_bytes] at g0 g1
    rw [cells_try3] at g2
    rw [cells_u8] at g3
    have hd : d = .agg [y0.1, y1.1, y2.1, y3.1] := congrArg Prod.fst hx
    subst hd
    have hw : DataW.weights Try.prog 26 (.agg [y0.1, y1.1, y2.1, y3.1]) = DataW.weightsEach Try.prog [24, 24, 23, 5] [y0.1, y1.1, y2.1, y3.1] := by
      simp only [DataW.weights, Try.underlying26]
      rfl
    obtain ⟨A1, n1, k1, l1, e0, b1, m1, r1⟩ := bytes_reach g0 (fun n hn => hz n (by rw [hw]; exact DataW.weights_mem_each (j := 0) rfl rfl n hn))
    obtain ⟨A2, n2, k2, l2, e1, b2, m2, r2⟩ := bytes_reach g1 (fun n hn => hz n (by rw [hw]; exact DataW.weights_mem_each (j := 1) rfl rfl n hn))
    have g2' : DataW.trod enc Try.prog W 0 (fun _ => true) true m 23 [c2, c3] = some y2 := g2
    obtain ⟨y, z, n, h1, h2⟩ := trod_pair_of Try.underlying23 cells_tryn g2'
    obtain ⟨x1, f1, _, w1⟩ := DataW.trod_int Try.underlying22 h1
    obtain ⟨x2, f2, _, w2⟩ := DataW.trod_int Try.underlying22 h2
    obtain ⟨x3, f3, _, w3⟩ := DataW.trod_int Try.underlying5 g3
    obtain ⟨u, rfl⟩ := wf_byte w3
    have e0' : c0 = .slice A1 n1 k1 := by simpa using e0
    have e1' : c1 = .slice A2 n2 k2 := by simpa using e1
    have f1' : c2 = .int .u64 x1 := by simpa using f1
    have f2' : c3 = .int .u64 x2 := by simpa using f2
    have f3' : c4 = .int .u8 (u.toNat : Int) := by simpa using f3
    exact ⟨A1, n1, k1, l1, A2, n2, k2, l2, x1, x2, u, by rw [e0', e1', f1', f2', f3'], ⟨b1, m1, r1⟩, b2, m2, r2⟩
set_option maxRecDepth 100000 in
theorem cells_parts : Try.prog.cellsOf 45 = 2 := by kernel_rfl
set_option maxRecDepth 100000 in
theorem open_parts {H : Type} {enc : TypeId × Value → H} {W : World} {base : Nat} {v : Value} {d : DataW H} {p : List MemPlace}
    (hok : Value.okWide Try.prog W .any base 45 v) (h : DataW.Trod enc Try.prog W 0 (fun _ => true) true 45 v d p) (hz : ∀ n ∈ d.weights Try.prog 45, n ≤ reachBytes) :
    ∃ (A1 : Option Addr) (n1 c1 : Nat) (l1 : List UInt8) (A2 : Option Addr) (n2 c2 : Nat) (l2 : List UInt8), v = .agg #[.slice A1 n1 c1, .slice A2 n2 c2] ∧ (Byt W W.heap.size A1 n1 l1 ∧ n1 ≤ c1 ∧ n1 ≤ 140737488351232) ∧ (Byt W W.heap.size A2 n2 l2 ∧ n2 ≤ c2 ∧ n2 ≤ 140737488351232) := by
  obtain ⟨cs, rfl, hsz⟩ := okWide_arr Try.underlying45 hok
  rw [cells_parts] at hsz
  obtain ⟨cs⟩ := cs
  match cs, hsz with
  | [c0, c1], _ =>
    obtain ⟨fuel, hf⟩ := h
    have hf' : DataW.trod enc Try.prog W 0 (fun _ => true) true fuel 45 [c0, c1] = some (d, p) := by simpa [Value.cells] using hf
    obtain ⟨xs, m, _, hx, _, hxl, hel⟩ := DataW.trod_array Try.underlying45 hf'
    match xs, hxl, hx with
    | [y0, y1], _, hx =>
      have hd : d = .agg [y0.1, y1.1] := congrArg Prod.fst hx
      subst hd
      have hw : DataW.weights Try.prog 45 (.agg [y0.1, y1.1]) = DataW.weightsAll Try.prog 24 [y0.1, y1.1] := by
        simp only [DataW.weights, Try.underlying45]
      obtain ⟨A, n, c, vs, e, r⟩ := bytes_reach (show DataW.trod enc Try.prog W 0 (fun _ => true) true m 24 [c0] = some y0 from hel 0 (by decide)) (fun n hn => hz n (by rw [hw]; simp only [DataW.weightsAll, List.mem_append]; exact .inl hn))
      obtain ⟨A', n', c', vs', e', r'⟩ := bytes_reach (show DataW.trod enc Try.prog W 0 (fun _ => true) true m 24 [c1] = some y1 from hel 1 (by decide)) (fun n hn => hz n (by rw [hw]; simp only [DataW.weightsAll, List.mem_append]; exact .inr (.inl hn)))
      simp only [List.cons.injEq, and_true] at e e'
      subst e e'
      exact ⟨A, n, c, vs, A', n', c', vs', rfl, r, r'⟩
end Go.Proofs.Ytgelmhldicmmdaa
