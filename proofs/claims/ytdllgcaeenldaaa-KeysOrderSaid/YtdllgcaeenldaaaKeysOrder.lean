/-
  Proved here: for any two keys, keys.Cmp, Same, Common and Begins answer what the document's answer says, and nothing that came in is turned. No condition.
-/
import Derived.Test.YtdllgcaeenldaaaRow
import Derived.Test.YtdllgcaeenldaaaAlive
namespace Go.Proofs.Ytdllgcaeenldaaa.keysOrder
open Go.ChangeShapes Go.WideShapes Go.ChangeAt Go.RowKit

set_option maxHeartbeats 1000000 in
theorem walk (A A' : Option Addr) (n n' c c' : Nat) (l m : List UInt8) (w : World) (ha : Byt w w.heap.size A n l) (hb : Byt w w.heap.size A' n' m) :
    Calls Try.prog 3 #[.slice A n c, .slice A' n' c'] w fun e w' => e = .returned (.bool true) ∧ Below w.heap.size w w' := by
  by_cases hf : farB [(A, n, c), (A', n', c')] = true
  · go_enter Try.func3, Try.ntmps3
    go_wp2_with fail
    (with_reducible refine (far_two _ _ _ _ _ _ w _ _).mono ?_)
    rintro e w1 ⟨rfl, rfl⟩
    go_wp2_with fail
    (with_reducible refine (alive_any _).mono ?_)
    rintro e w2 ⟨rfl, hbel⟩
    have HB := Lib.hid (((Below.refl w.heap.size w).alloc (Nat.le_refl _) _).trans (hbel.mono (by simp)))
    clear hbel
    go_wp2
    go_ret
    exact ⟨rfl, HB.out⟩
  · have hf' : farB [(A, n, c), (A', n', c')] = false := by simpa using hf
    clear hf
    have hk : ∀ W, Below w.heap.size w W → Byt W w.heap.size A n l ∧ Byt W w.heap.size A' n' m := fun W h => ⟨ha.below h, hb.below h⟩
    have HK := Lib.hid hk
    clear hk ha hb
    go_enter Try.func3, Try.ntmps3
    go_wp2_with fail
    (with_reducible refine (far_two _ _ _ _ _ _ w _ _).mono ?_)
    rintro e w0 ⟨rfl, hw0⟩
    have B0 := Lib.hid (show Below w.heap.size w w0 from by rw [← hw0]; exact (Below.refl w.heap.size w).alloc (Nat.le_refl _) _)
    clear hw0
    go_wp2_with fail
    (with_reducible refine (cmp_any _ _ _ _ _ _ w.heap.size l m _ (HK.out _ B0.out).1 (HK.out _ B0.out).2).mono ?_)
    rintro e w1 ⟨rfl, h1⟩
    have B1 := Lib.hid (B0.out.trans (h1.below _))
    clear h1
    go_wp2_with fail
    (with_reducible refine (rcmp_any _ _ _ _ _ _ w.heap.size l m _ (HK.out _ B1.out).1 (HK.out _ B1.out).2).mono ?_)
    rintro e w2 ⟨rfl, h2⟩
    have B2 := Lib.hid (B1.out.trans (h2.below _))
    clear h2
    go_wp2_with fail
    (with_reducible refine (same_any _ _ _ _ _ _ w.heap.size l m _ (HK.out _ B2.out).1 (HK.out _ B2.out).2).mono ?_)
    rintro e w3 ⟨rfl, h3⟩
    have B3 := Lib.hid (B2.out.trans (h3.below _))
    clear h3
    go_wp2_with fail
    (with_reducible refine (rsame_any _ _ _ _ _ _ w.heap.size l m _ (HK.out _ B3.out).1 (HK.out _ B3.out).2).mono ?_)
    rintro e w4 ⟨rfl, h4⟩
    have B4 := Lib.hid (B3.out.trans (h4.below _))
    clear h4
    go_wp2_with fail
    (with_reducible refine (common_any _ _ _ _ _ _ w.heap.size l m _ (HK.out _ B4.out).1 (HK.out _ B4.out).2).mono ?_)
    rintro e w5 ⟨rfl, h5⟩
    have B5 := Lib.hid (B4.out.trans (h5.below _))
    clear h5
    go_wp2_with fail
    (with_reducible refine (rcommon_any _ _ _ _ _ _ w.heap.size l m _ (HK.out _ B5.out).1 (HK.out _ B5.out).2).mono ?_)
    rintro e w6 ⟨rfl, h6⟩
    have B6 := Lib.hid (B5.out.trans (h6.below _))
    clear h6
    go_wp2_with fail
    (with_reducible refine (begins_any _ _ _ _ _ _ w.heap.size l m _ (HK.out _ B6.out).1 (HK.out _ B6.out).2).mono ?_)
    rintro e w7 ⟨rfl, h7⟩
    have B7 := Lib.hid (B6.out.trans (h7.below _))
    clear h7
    go_wp2_with fail
    (with_reducible refine (rbegins_any _ _ _ _ _ _ w.heap.size l m _ (HK.out _ B7.out).1 (HK.out _ B7.out).2).mono ?_)
    rintro e w8 ⟨rfl, h8⟩
    have B8 := Lib.hid (B7.out.trans (h8.below _))
    clear h8
    go_wp2_with fail
    (with_reducible refine (alive_any _).mono ?_)
    rintro e w9 ⟨rfl, h9⟩
    have B9 := Lib.hid (B8.out.trans (h9.mono B8.out.size))
    clear h9
    go_wp2
    go_ret
    exact ⟨rfl, B9.out⟩

set_option maxRecDepth 100000 in
theorem lifted (os : Os) (started : os.Started) (H : Type) (enc : TypeId × Value → H) :
    ReturnsInHanded {} Try.checked os 3 .any (Rows.keysOrderSpec.pre6 enc Try.prog Try.f3 Rows.keysOrderRow.domain false) (Rows.keysOrderSpec.post enc Try.prog Try.f3 false true false false) := by
  refine returnsInHanded_of_change (C := Try.checked) own started (by kernel_rfl) Try.func3
    (ChangeSpec.witness6 (enc := enc) (C := Try.checked) false ⟨#[], #[.slice none 0 0, .slice none 0 0], []⟩ 8 (by kernel_rfl) (by kernel_rfl) (by kernel_rfl) (by kernel_rfl)) ?_
  intro W base args ds gs before hval0 hW hcnd _
  have hval : ∀ (j : Nat) t v, Try.f3.params[j]? = some t → args[j]? = some v → Value.okWide Try.prog W .any base t v := hval0
  have hW' := hW
  obtain ⟨p, q, hA0, hV, rfl, hfz, hnd⟩ := hW
  have hA : DataW.TrodAll enc Try.prog W 0 (fun _ => true) true Try.f3.params.toList args.toList ds p := hA0
  rw [Try.params3] at hA hval
  obtain ⟨v0, vs0, d0, ds0, p0, q0, hargs, rfl, rfl, h0, r0⟩ := trodAll_cons hA
  obtain ⟨v1, vs1, d1, ds1, p1, q1, rfl, rfl, rfl, h1, r1⟩ := trodAll_cons r0
  obtain ⟨rfl, rfl, rfl⟩ := trodAll_nil r1
  obtain rfl : args = #[v0, v1] := by cases args; simp_all
  obtain ⟨rfl, rfl⟩ := trodVars_none hV
  have k0 := h0
  have lt0 : ∀ x ∈ p0, x.block < W.heap.size := by obtain ⟨m, hm⟩ := k0; exact DataW.trod_lt m _ _ _ hm
  have k1 := h1
  have lt1 : ∀ x ∈ p1, x.block < W.heap.size := by obtain ⟨m, hm⟩ := k1; exact DataW.trod_lt m _ _ _ hm
  obtain ⟨A0, n0, c0, l0, rfl, b0, _⟩ := open_byt (hval 0 22 v0 rfl rfl) h0
  obtain ⟨A1, n1, c1, l1, rfl, b1, _⟩ := open_byt (hval 1 22 v1 rfl rfl) h1
  clear hA0 hval0
  refine (walk A0 A1 n0 n1 c0 c1 l0 l1 W b0 b1).mono fun e W' ⟨he, bel⟩ => ?_
  subst he
  exact ⟨_, rfl, _, _, _, [], _, [], hW', trodAll_mk1 (shut_bool Try.underlying4 _), (trodAll_cons_mk (Below.trod laidOut (by kernel_rfl) (of_decide_eq_true (by kernel_rfl)) k0 bel lt0) (trodAll_cons_mk (Below.trod laidOut (by kernel_rfl) (of_decide_eq_true (by kernel_rfl)) k1 bel lt1) trodAll_mk0)), rfl, bel.frame _, fun h => by cases h⟩

theorem proved : Rows.KeysOrderSaid :=
  OpenClaim.holds_of_wide 3 Try.f3 rfl rfl rfl rfl rfl rfl rfl ⟨rfl, rfl, rfl, rfl, rfl⟩ rfl rfl rfl rfl rfl (by kernel_rfl) Try.func3 (by kernel_rfl)
    (of_decide_eq_true (by kernel_rfl)) (by unfold Func.isWrapper; first | (rw [if_pos (by decide +kernel)]; kernel_rfl) | (rw [if_neg (by decide +kernel)]; exact ⟨rfl, rfl⟩))
    (fun os started H enc _ => lifted os started H enc)
#print axioms proved
end Go.Proofs.Ytdllgcaeenldaaa.keysOrder
