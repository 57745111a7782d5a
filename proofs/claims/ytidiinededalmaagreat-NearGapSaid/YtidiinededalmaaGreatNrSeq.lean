/-
  What slices.Backward gives of forks.
-/
import Derived.Test.YtidiinededalmaaGreatNrAlong
import Derived.Test.YtidiinededalmaaGreatNrBack
import Derived.Test.YtidiinededalmaaGreatStops
namespace Go.Proofs.YtidiinededalmaaGreat
open Go.RowKit Go.Shelf
attribute [local go_sem] Oper.semAt_some

/-- The values that come, the last fork first. -/
def xsB (A : Option Addr) (gs : List (Fk × Nat)) : List (Value × Array Value) :=
  (List.range gs.length).map fun k => (.int .i64 ((gs.length - 1 - k : Nat) : Int), match gs[gs.length - 1 - k]? with | some p => #[.pointer (some ⟨p.2, 0, none⟩), .slice A p.1.way.length p.1.way.length, .int .i64 (p.1.on.toNat : Int)] | none => #[])
theorem xsB_len (A : Option Addr) (gs : List (Fk × Nat)) : (xsB A gs).length = gs.length := by simp [xsB]
theorem xsB_at {A : Option Addr} {gs : List (Fk × Nat)} {k j : Nat} (hj : j + 1 + k = gs.length) {p : Fk × Nat} (hp : gs[j]? = some p) :
    (xsB A gs)[k]? = some (.int .i64 (j : Int), #[.pointer (some ⟨p.2, 0, none⟩), .slice A p.1.way.length p.1.way.length, .int .i64 (p.1.on.toNat : Int)]) := by
  have e : gs.length - 1 - k = j := by omega
  unfold xsB
  rw [List.getElem?_map, List.getElem?_range (by omega), Option.map_some, e, hp]
theorem xsB_of {A : Option Addr} {gs : List (Fk × Nat)} {k : Nat} {x : Value × Array Value} (h : (xsB A gs)[k]? = some x) :
    ∃ j p, j + 1 + k = gs.length ∧ gs[j]? = some p ∧ x = (.int .i64 (j : Int), #[.pointer (some ⟨p.2, 0, none⟩), .slice A p.1.way.length p.1.way.length, .int .i64 (p.1.on.toNat : Int)]) := by
  have hk : k < gs.length := by have := (List.getElem?_eq_some_iff.1 h).1; rwa [xsB_len] at this
  have hj : gs.length - 1 - k < gs.length := by omega
  have hp := List.getElem?_eq_getElem hj
  have := xsB_at (A := A) (k := k) (j := gs.length - 1 - k) (by omega) hp
  rw [h] at this
  injection this with this
  exact ⟨_, _, by omega, hp, this⟩

set_option maxRecDepth 100000 in
theorem nback_any (F : Option Addr) (n c : Nat) (w : World) : Calls Tryz.prog 36 #[.slice F n c] w fun e w' => e = .returned (.func (.func 54) #[] #[.pointer (some ⟨w.heap.size, 0, none⟩)]) ∧ w' = w.alloc (.cells #[.slice F n c] 53) := by
  go_enter Tryz.func36, Tryz.ntmps36
  go_wp2
  go_ret
  exact ⟨rfl, rfl⟩
set_option maxRecDepth 100000 in
set_option maxHeartbeats 1000000 in
theorem nback1_seqs {A F : Option Addr} {c Bx : Nat} {gs : List (Fk × Nat)} {w : World} (hc : w.cell? ⟨Bx, 0, none⟩ = some (.slice F gs.length c)) (hr : Rws w w.heap.size F gs.length 3 (gs.map (fkC A))) (hm : gs.length ≤ 100000) :
    SeqB w.heap.size Tryz.prog 54 #[.pointer (some ⟨Bx, 0, none⟩)] ((xsB A gs).map fun x => #[x.1, .agg x.2]) w := by
  intro m l J Jx W hW hnW hA hY h0
  obtain ⟨N, hN⟩ : ∃ N, gs.length = N := ⟨_, rfl⟩
  have hB := Lib.hid (fun (V : World) (hV : Below w.heap.size W V) => show V.cell? ⟨Bx, 0, none⟩ = some (.slice F N c) from hN ▸ ((hW.trans hV).cell (p := ⟨Bx, 0, none⟩) (lt_cell hc)).trans hc)
  have hR := Lib.hid (fun (V : World) (hV : Below w.heap.size W V) => show Rws V w.heap.size F N 3 (gs.map (fkC A)) from hN ▸ hr.below (hW.trans hV))
  have HN := Lib.hid hN
  have HA := Lib.hid hA
  have HY := Lib.hid hY
  have H0 := Lib.hid h0
  have HSZ := Lib.hid hnW
  have hN5 : N ≤ 100000 := by omega
  have hcW := hB.out W (Below.refl _ _)
  rw [List.length_map, xsB_len, hN]
  have ew0 : IntKind.i64.wrap ((N : Int) - 1) = (N : Int) - 1 := by rw [IntKind.wrap_i64]; omega
  clear hc hr hm hA hY h0 hN hnW
  refine callsIn_of_wp Tryz.func54 rfl trivial ?_
  simp only [Tryz.ntmps54, List.size_toArray, List.length_cons, List.length_nil, Nat.reduceAdd, Nat.reduceSub, Array.replicate_succ, Array.replicate_zero, List.push_toArray, List.append_toArray, List.nil_append, List.cons_append]
  gi_wp2
  gi_loopw [3] (fun i wr => ∃ (k : Nat) (z : Int), z + k + 1 = N ∧ k ≤ N ∧ i = .int .i64 z ∧ Hid (J k wr ∧ Below w.heap.size W wr)) (fun i _ => (intOf i + 1).toNat)
  case atStart => exact ⟨0, (N : Int) - 1, by omega, Nat.zero_le _, rfl, Lib.hid ⟨H0.out, Below.refl _ _⟩⟩
  case round =>
    obtain ⟨k, z, hz, hkN, rfl, HJ⟩ := hrel
    by_cases h0 : 0 ≤ z
    · obtain ⟨j, rfl⟩ : ∃ j : Nat, z = (j : Int) := ⟨z.toNat, by omega⟩
      have hjN : j < N := by omega
      have hw1 := hB.out wr HJ.out.2
      obtain ⟨ad, cs, rfl, _, e1, e2, e3⟩ := (hR.out wr HJ.out.2).at_ hjN
      rw [List.getElem?_map] at e1
      obtain ⟨p, hp, hcs⟩ := Option.map_eq_some_iff.1 e1
      subst hcs
      have c0 := e3 0 _ rfl
      have c1 := e3 1 _ rfl
      have c2 := e3 2 _ rfl
      rw [Nat.add_zero] at c0
      rw [← add_of_add] at c1 c2
      have c1' : wr.cell? ⟨(ad.add (j * 3)).block, (ad.add (j * 3)).off + 1, none⟩ = some (.slice A p.1.way.length p.1.way.length) := c1
      have c2' : wr.cell? ⟨(ad.add (j * 3)).block, (ad.add (j * 3)).off + 2, none⟩ = some (.int .i64 (p.1.on.toNat : Int)) := c2
      have hx := xsB_at (A := A) (k := k) (j := j) (by have := HN.out; omega) hp
      obtain ⟨fn, tmps, assign, body, hy, hRr⟩ := HY.out (m - 1) k wr #[.int .i64 (j : Int), .agg #[.pointer (some ⟨p.2, 0, none⟩), .slice A p.1.way.length p.1.way.length, .int .i64 (p.1.on.toNat : Int)]] HJ.out.1 (by rw [List.getElem?_map, hx]; rfl) (Nat.le_trans HSZ.out HJ.out.2.size)
      have HRr := Lib.hid hRr
      have ew1 : IntKind.i64.wrap ((j : Int) - 1) = (j : Int) - 1 := by rw [IntKind.wrap_i64]; omega
      clear hx e1 e2 e3 hp c1 c2 hRr
      gi_wp2_with fail
      refine ⟨wide_deep, ?_⟩
      refine HRr.out.mono ?_
      rintro e W3 (⟨rfl, hJ3, hk3⟩ | ⟨rfl, hJx3⟩)
      · have FIN := Lib.hid (show J (k + 1) W3 ∧ Below w.heap.size W W3 from ⟨hJ3, HJ.out.2.trans hk3⟩)
        clear hJ3 hk3
        gi_wp2
        exact ⟨⟨k + 1, (j : Int) - 1, by omega, by omega, rfl, FIN⟩, by simp [intOf]⟩
      · have FIN := Lib.hid hJx3
        clear hJx3
        gi_wp2
        exact bodyPost_ret (results_none rfl _ _ _) rfl ⟨⟨_, rfl⟩, .inr FIN.out⟩
    · obtain rfl : k = N := by omega
      gi_wp2
      go_end0
      exact ⟨⟨_, rfl⟩, .inl HJ.out.1⟩
end Go.Proofs.YtidiinededalmaaGreat
