/-
  Proved here: the next one of any prefix, as keys.Next tells it, is the document's; what begins with the prefix is within it and the next one, as keys.Within tells it, and nothing else is; nothing that came in is turned. No condition.
-/
import Derived.Test.YtdllgcaeenldaaaRow
import Derived.Test.YtdllgcaeenldaaaAlive
namespace Go.Proofs.Ytdllgcaeenldaaa.keysNext
open Go.ChangeShapes Go.WideShapes Go.ChangeAt Go.RowKit

theorem within_beg (p k : List UInt8) : withinB k p (nextL p) (!nextB p) = begB k p := within_next p k

set_option maxHeartbeats 1000000 in
theorem walk (A : Option Addr) (n c : Nat) (l : List UInt8) (A' : Option Addr) (n' c' : Nat) (m : List UInt8) (w : World) (ha : Byt w w.heap.size A n l) (hnc : n ≤ c) (hb : Byt w w.heap.size A' n' m) (_ : n' ≤ c') :
    Calls Try.prog 4 #[.slice A n c, .slice A' n' c'] w fun e w' => e = .returned (.bool true) ∧ Below w.heap.size w w' := by
  by_cases hf : farB [(A, n, c), (A', n', c')] = true
  · go_enter Try.func4, Try.ntmps4
    go_wp2_with fail
    (with_reducible refine (far_two _ _ _ _ _ _ w _ _).mono ?_)
    rintro e w1 ⟨rfl, rfl⟩
    go_wp2_with fail
    (with_reducible refine (alive_any _).mono ?_)
    rintro e w2 ⟨rfl, hbel⟩
    have HB := Lib.hid (((Below.refl w.heap.size w).alloc (Nat.le_refl _) _).trans (hbel.mono (by simp)))
    clear hbel
    go_wp2
    go_ret
    exact ⟨rfl, HB.out⟩
  · have hf' : farB [(A, n, c), (A', n', c')] = false := by simpa using hf
    obtain ⟨hn3, _⟩ := farB_two hf'
    clear hf
    have hk : ∀ W, Below w.heap.size w W → Byt W w.heap.size A n l ∧ Byt W w.heap.size A' n' m := fun W h => ⟨ha.below h, hb.below h⟩
    have HK := Lib.hid hk
    clear hk ha hb
    go_enter Try.func4, Try.ntmps4
    go_wp2_with fail
    (with_reducible refine (far_two _ _ _ _ _ _ w _ _).mono ?_)
    rintro e w0 ⟨rfl, hw0⟩
    have B0 := Lib.hid (show Below w.heap.size w w0 from by rw [← hw0]; exact (Below.refl w.heap.size w).alloc (Nat.le_refl _) _)
    have z0 : w.heap.size ≤ w0.heap.size := B0.out.size
    clear hw0
    go_wp2_with fail
    (with_reducible refine (next_any _ _ _ w.heap.size l _ (HK.out _ B0.out).1 z0 (by omega)).mono ?_)
    rintro e w1 ⟨A1, n1, c1, rfl, y1, h1⟩
    have z1 : w0.heap.size ≤ w1.heap.size := h1.size
    have B1 := Lib.hid (B0.out.trans (h1.mono z0))
    have Y1 := Lib.hid y1
    clear h1 y1
    go_wp2_with fail
    (with_reducible refine (rnext_any _ _ _ w.heap.size l _ (HK.out _ B1.out).1 hnc (by omega)).mono ?_)
    rintro e w2 ⟨A2, n2, c2, rfl, y2, h2⟩
    have z2 : w1.heap.size ≤ w2.heap.size := h2.size
    have B2 := Lib.hid (B1.out.trans (h2.mono (by omega)))
    have Y2 := Lib.hid y2
    have Y1' := Lib.hid ((Y1.out.below h2).more z2)
    clear h2 y2
    go_wp2_with fail
    (with_reducible refine (same_any _ _ _ _ _ _ w2.heap.size (nextL l) (nextL l) _ Y1'.out Y2.out).mono ?_)
    rintro e w3 ⟨rfl, h3⟩
    rw [show sameB (nextL l) (nextL l) = true from by simp [sameB]]
    have z3 : w2.heap.size ≤ w3.heap.size := (h3.below 0).size
    have B3 := Lib.hid (B2.out.trans (h3.below _))
    have Y3 := Lib.hid (Y1'.out.below (h3.below _))
    clear h3
    go_wp2_with fail
    (with_reducible refine (within_any _ _ _ _ _ _ _ _ _ w2.heap.size m l (nextL l) (!nextB l) _ ((HK.out _ B3.out).2.more (by omega)) ((HK.out _ B3.out).1.more (by omega)) Y3.out).mono ?_)
    rintro e w4 ⟨rfl, h4⟩
    rw [within_beg]
    have B4 := Lib.hid (B3.out.trans (h4.below _))
    clear h4
    go_wp2_with fail
    (with_reducible refine (rbegins_any _ _ _ _ _ _ w.heap.size m l _ (HK.out _ B4.out).2 (HK.out _ B4.out).1).mono ?_)
    rintro e w5 ⟨rfl, h5⟩
    have B5 := Lib.hid (B4.out.trans (h5.below _))
    clear h5
    go_wp2_with fail
    (with_reducible refine (alive_any _).mono ?_)
    rintro e w6 ⟨rfl, h6⟩
    have B6 := Lib.hid (B5.out.trans (h6.mono B5.out.size))
    clear h6
    go_wp2
    go_ret
    exact ⟨rfl, B6.out⟩

set_option maxRecDepth 100000 in
theorem lifted (os : Os) (started : os.Started) (H : Type) (enc : TypeId × Value → H) :
    ReturnsInHanded {} Try.checked os 4 .any (Rows.keysNextSpec.pre6 enc Try.prog Try.f4 Rows.keysNextRow.domain false) (Rows.keysNextSpec.post enc Try.prog Try.f4 false true false false) := by
  refine returnsInHanded_of_change (C := Try.checked) own started (by kernel_rfl) Try.func4
    (ChangeSpec.witness6 (enc := enc) (C := Try.checked) false ⟨#[], #[.slice none 0 0, .slice none 0 0], []⟩ 8 (by kernel_rfl) (by kernel_rfl) (by kernel_rfl) (by kernel_rfl)) ?_
  intro W base args ds gs before hval0 hW hcnd _
  have hval : ∀ (j : Nat) t v, Try.f4.params[j]? = some t → args[j]? = some v → Value.okWide Try.prog W .any base t v := hval0
  have hW' := hW
  obtain ⟨p, q, hA0, hV, rfl, hfz, hnd⟩ := hW
  have hA : DataW.TrodAll enc Try.prog W 0 (fun _ => true) true Try.f4.params.toList args.toList ds p := hA0
  rw [Try.params4] at hA hval
  obtain ⟨v0, vs0, d0, ds0, p0, q0, hargs, rfl, rfl, h0, r0⟩ := trodAll_cons hA
  obtain ⟨v1, vs1, d1, ds1, p1, q1, rfl, rfl, rfl, h1, r1⟩ := trodAll_cons r0
  obtain ⟨rfl, rfl, rfl⟩ := trodAll_nil r1
  obtain rfl : args = #[v0, v1] := by cases args; simp_all
  obtain ⟨rfl, rfl⟩ := trodVars_none hV
  have k0 := h0
  have lt0 : ∀ x ∈ p0, x.block < W.heap.size := by obtain ⟨m, hm⟩ := k0; exact DataW.trod_lt m _ _ _ hm
  have k1 := h1
  have lt1 : ∀ x ∈ p1, x.block < W.heap.size := by obtain ⟨m, hm⟩ := k1; exact DataW.trod_lt m _ _ _ hm
  obtain ⟨A0, n0, c0, l0, rfl, b0, nc0⟩ := open_byt (hval 0 22 v0 rfl rfl) h0
  obtain ⟨A1, n1, c1, l1, rfl, b1, nc1⟩ := open_byt (hval 1 22 v1 rfl rfl) h1
  clear hA0 hval0
  refine (walk A0 n0 c0 l0 A1 n1 c1 l1 W b0 nc0 b1 nc1).mono fun e W' ⟨he, bel⟩ => ?_
  subst he
  exact ⟨_, rfl, _, _, _, [], _, [], hW', trodAll_mk1 (shut_bool Try.underlying4 _), (trodAll_cons_mk (Below.trod laidOut (by kernel_rfl) (of_decide_eq_true (by kernel_rfl)) k0 bel lt0) (trodAll_cons_mk (Below.trod laidOut (by kernel_rfl) (of_decide_eq_true (by kernel_rfl)) k1 bel lt1) trodAll_mk0)), rfl, bel.frame _, fun h => by cases h⟩

theorem proved : Rows.KeysNextSaid :=
  OpenClaim.holds_of_wide 4 Try.f4 rfl rfl rfl rfl rfl rfl rfl ⟨rfl, rfl, rfl, rfl, rfl⟩ rfl rfl rfl rfl rfl (by kernel_rfl) Try.func4 (by kernel_rfl)
    (of_decide_eq_true (by kernel_rfl)) (by unfold Func.isWrapper; first | (rw [if_pos (by decide +kernel)]; kernel_rfl) | (rw [if_neg (by decide +kernel)]; exact ⟨rfl, rfl⟩))
    (fun os started H enc _ => lifted os started H enc)
#print axioms proved
end Go.Proofs.Ytdllgcaeenldaaa.keysNext
