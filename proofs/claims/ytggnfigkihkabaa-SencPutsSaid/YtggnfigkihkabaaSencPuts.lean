/-
  Proved here: any text's bytes, as senc.Put tells them, how many they are, as senc.Len tells it, and the other ones of any bytes, as senc.Other tells them, are the document's; nothing that came in is turned. No condition.
-/
import Derived.Test.YtggnfigkihkabaaRow
import Derived.Test.YtggnfigkihkabaaSencD
namespace Go.Proofs.Ytggnfigkihkabaa.sencPuts
open Go.ChangeShapes Go.WideShapes Go.ChangeAt Go.RowKit

set_option maxHeartbeats 1000000 in
theorem walk (A : Option Addr) (n c : Nat) (l : List UInt8) (w : World) (ha : Byt w w.heap.size A n l) (_ : n ≤ c) :
    Calls Try.prog 3 #[.slice A n c] w fun e w' => e = .returned (.bool true) ∧ Below w.heap.size w w' := by
  have hna : n ≤ 9223372036854775807 := by have := ha.2.1; unfold maxLen at this; omega
  have hk : ∀ W, Below w.heap.size w W → Byt W w.heap.size A n l := fun W h => ha.below h
  have HK := Lib.hid hk
  clear hk ha
  by_cases hg : 500 < n
  · go_enter Try.func3, Try.ntmps3
    go_wp2_with fail
    (with_reducible refine (alive_any _).mono ?_)
    rintro e w4 ⟨rfl, h4⟩
    have B4 := Lib.hid h4
    clear h4
    go_wp2
    go_ret
    exact ⟨rfl, B4.out⟩
  · go_enter Try.func3, Try.ntmps3
    go_wp2_with fail
    (with_reducible refine (rsput_any _ _ _ _ l _ (HK.out _ (Below.refl _ _)) (Nat.le_refl _) (by omega)).mono ?_)
    rintro e w1 ⟨A1, n1, c1, rfl, y1, _, h1⟩
    have B1 := Lib.hid h1
    have Y1 := Lib.hid y1
    have HL : Hid (∀ W, Below w.heap.size w W → Calls Try.prog 10 #[.slice A n c] W fun e w' => e = .returned (.int .i64 (n1 : Int)) ∧ Still W w') := Lib.hid (fun W h => by
      have h2 := len_any A n c w.heap.size l W (HK.out _ h) (by omega)
      rwa [y1.1] at h2)
    clear h1 y1
    go_wp2_with fail
    (with_reducible refine (sput_any _ _ _ _ l _ (HK.out _ B1.out) B1.out.size (by omega)).mono ?_)
    rintro e w2 ⟨A2, n2, c2, rfl, y2, _, h2⟩
    have B2 := Lib.hid (B1.out.trans (h2.mono B1.out.size))
    have Y2 := Lib.hid y2
    have Y1' := Lib.hid ((Y1.out.below h2).more h2.size)
    clear h2 y2
    go_wp2_with fail
    (with_reducible refine (rsame_any _ _ _ _ _ _ w2.heap.size (sputL l) (sputL l) _ Y2.out Y1'.out).mono ?_)
    rintro e w3 ⟨rfl, h3⟩
    rw [show sameB (sputL l) (sputL l) = true from by simp [sameB]]
    have B3 := Lib.hid (B2.out.trans (h3.below _))
    clear h3
    go_wp2_with fail
    (with_reducible refine (HL.out _ B3.out).mono ?_)
    rintro e w4 ⟨rfl, h4⟩
    have B4 := Lib.hid (B3.out.trans (h4.below _))
    clear h4
    go_wp2_with fail
    (with_reducible refine (oth_any _ _ _ _ l _ (HK.out _ B4.out) B4.out.size (by omega)).mono ?_)
    rintro e w5 ⟨A5, n5, c5, rfl, y5, _, h5⟩
    have B5 := Lib.hid (B4.out.trans (h5.mono B4.out.size))
    have Y5 := Lib.hid y5
    clear h5 y5
    go_wp2_with fail
    (with_reducible refine (roth_any _ _ _ _ l _ (HK.out _ B5.out) B5.out.size (by omega)).mono ?_)
    rintro e w6 ⟨A6, n6, c6, rfl, y6, _, h6⟩
    have B6 := Lib.hid (B5.out.trans (h6.mono B5.out.size))
    have Y6 := Lib.hid y6
    have Y5' := Lib.hid ((Y5.out.below h6).more h6.size)
    clear h6 y6
    go_wp2_with fail
    (with_reducible refine (rsame_any _ _ _ _ _ _ w6.heap.size (othL l) (othL l) _ Y5'.out Y6.out).mono ?_)
    rintro e w7 ⟨rfl, h7⟩
    rw [show sameB (othL l) (othL l) = true from by simp [sameB]]
    have B7 := Lib.hid (B6.out.trans (h7.below _))
    clear h7
    go_wp2_with fail
    (with_reducible refine (alive_any _).mono ?_)
    rintro e w8 ⟨rfl, h8⟩
    have B8 := Lib.hid (B7.out.trans (h8.mono B7.out.size))
    clear h8
    go_wp2
    go_ret
    exact ⟨rfl, B8.out⟩

set_option maxRecDepth 100000 in
theorem lifted (os : Os) (started : os.Started) (H : Type) (enc : TypeId × Value → H) :
    ReturnsInHanded {} Try.checked os 3 .any (Rows.sencPutsSpec.pre6 enc Try.prog Try.f3 Rows.sencPutsRow.domain false) (Rows.sencPutsSpec.post enc Try.prog Try.f3 false true false false) := by
  refine returnsInHanded_of_change (C := Try.checked) own started (by kernel_rfl) Try.func3
    (ChangeSpec.witness6 (enc := enc) (C := Try.checked) false ⟨#[], #[.slice none 0 0], []⟩ 8 (by kernel_rfl) (by kernel_rfl) (by kernel_rfl) (by kernel_rfl)) ?_
  intro W base args ds gs before hval0 hW hcnd _
  have hval : ∀ (j : Nat) t v, Try.f3.params[j]? = some t → args[j]? = some v → Value.okWide Try.prog W .any base t v := hval0
  have hW' := hW
  obtain ⟨p, q, hA0, hV, rfl, hfz, hnd⟩ := hW
  have hA : DataW.TrodAll enc Try.prog W 0 (fun _ => true) true Try.f3.params.toList args.toList ds p := hA0
  rw [Try.params3] at hA hval
  obtain ⟨v0, vs0, d0, ds0, p0, q0, hargs, rfl, rfl, h0, r0⟩ := trodAll_cons hA
  obtain ⟨rfl, rfl, rfl⟩ := trodAll_nil r0
  obtain rfl : args = #[v0] := by cases args; simp_all
  obtain ⟨rfl, rfl⟩ := trodVars_none hV
  have k0 := h0
  have lt0 : ∀ x ∈ p0, x.block < W.heap.size := by obtain ⟨m, hm⟩ := k0; exact DataW.trod_lt m _ _ _ hm
  obtain ⟨A0, n0, c0, l0, rfl, b0, nc0⟩ := open_byt (hval 0 22 v0 rfl rfl) h0
  clear hA0 hval0
  refine (walk A0 n0 c0 l0 W b0 nc0).mono fun e W' ⟨he, bel⟩ => ?_
  subst he
  exact ⟨_, rfl, _, _, _, [], _, [], hW', trodAll_mk1 (shut_bool Try.underlying4 _), (trodAll_cons_mk (Below.trod laidOut (by kernel_rfl) (of_decide_eq_true (by kernel_rfl)) k0 bel lt0) trodAll_mk0), rfl, bel.frame _, fun h => by cases h⟩

theorem proved : Rows.SencPutsSaid :=
  OpenClaim.holds_of_wide 3 Try.f3 rfl rfl rfl rfl rfl rfl rfl ⟨rfl, rfl, rfl, rfl, rfl⟩ rfl rfl rfl rfl rfl (by kernel_rfl) Try.func3 (by kernel_rfl)
    (of_decide_eq_true (by kernel_rfl)) (by unfold Func.isWrapper; first | (rw [if_pos (by decide +kernel)]; kernel_rfl) | (rw [if_neg (by decide +kernel)]; exact ⟨rfl, rfl⟩))
    (fun os started H enc _ => lifted os started H enc)
#print axioms proved
end Go.Proofs.Ytggnfigkihkabaa.sencPuts
