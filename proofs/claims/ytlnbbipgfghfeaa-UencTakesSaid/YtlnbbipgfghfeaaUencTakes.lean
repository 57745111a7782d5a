/-
  Proved here: the number that any bytes begin with, or are, as uenc.Take and uenc.Get tell it, is the document's, or refused as it refuses; nothing that came in is turned. No condition.
-/
import Derived.Test.YtlnbbipgfghfeaaRow
import Derived.Test.YtlnbbipgfghfeaaUencMore
namespace Go.Proofs.Ytlnbbipgfghfeaa.uencTakes
open Go.ChangeShapes Go.WideShapes Go.ChangeAt Go.RowKit

set_option maxHeartbeats 1000000 in
theorem walk (x : Int) (A : Option Addr) (n c : Nat) (l : List UInt8) (w : World) (_ : (Lit.int .i64 x).wf = true) (ha : Byt w w.heap.size A n l) (hnc : n ≤ c) :
    Calls Try.prog 4 #[.int .i64 x, .slice A n c] w fun e w' => e = .returned (.bool true) ∧ Below w.heap.size w w' := by
  have hna : n ≤ 9223372036854775807 := by have := ha.2.1; unfold maxLen at this; omega
  have hk : ∀ W, Below w.heap.size w W → Byt W w.heap.size A n l := fun W h => ha.below h
  have HK := Lib.hid hk
  clear hk ha
  by_cases hg : 300 < n
  · go_enter Try.func4, Try.ntmps4
    go_wp2_with fail
    (with_reducible refine (alive_any _).mono ?_)
    rintro e w4 ⟨rfl, h4⟩
    have B4 := Lib.hid h4
    clear h4
    go_wp2
    go_ret
    exact ⟨rfl, B4.out⟩
  · go_enter Try.func4, Try.ntmps4
    go_wp2_with fail
    (with_reducible refine (take_any _ _ _ _ _ l _ (HK.out _ (Below.refl _ _)) hnc (Nat.le_refl _) (by omega)).mono ?_)
    rintro e w1 ⟨A1, n1, c1, rfl, y1, _, h1⟩
    have B1 := Lib.hid h1
    have Y1 := Lib.hid y1
    clear h1 y1
    go_wp2_with fail
    (with_reducible refine (rtake_any _ _ _ _ _ l _ (HK.out _ B1.out) hnc B1.out.size).mono ?_)
    rintro e w2 ⟨A2, n2, c2, rfl, y2, _, h2⟩
    have B2 := Lib.hid (B1.out.trans (h2.mono B1.out.size))
    have Y2 := Lib.hid y2
    have Y1' := Lib.hid ((Y1.out.below h2).more h2.size)
    clear h2 y2
    go_wp2_with fail
    (with_reducible refine (get_any _ _ _ _ _ l _ (HK.out _ B2.out)).mono ?_)
    rintro e w' ⟨rfl, rfl⟩
    go_wp2_with fail
    (with_reducible refine (rget_any _ _ _ _ _ l _ (HK.out _ B2.out) hnc B2.out.size).mono ?_)
    rintro e w3 ⟨rfl, h3⟩
    have z3 := h3.size
    have B3 := Lib.hid (B2.out.trans (h3.mono B2.out.size))
    have Y3 := Lib.hid (Y1'.out.below h3)
    have Y4 := Lib.hid (Y2.out.below h3)
    clear h3
    go_wp2_with fail
    (with_reducible refine (rsame_any _ _ _ _ _ _ w2.heap.size (restL x l) (restL x l) _ Y3.out Y4.out).mono ?_)
    rintro e w4 ⟨rfl, h4⟩
    rw [show sameB (restL x l) (restL x l) = true from by simp [sameB]]
    have B4 := Lib.hid (B3.out.trans (h4.below _))
    clear h4
    go_wp2_with fail
    (with_reducible refine (alive_any _).mono ?_)
    rintro e w5 ⟨rfl, h5⟩
    have B5 := Lib.hid (B4.out.trans (h5.mono B4.out.size))
    clear h5
    go_wp2
    go_ret
    exact ⟨rfl, B5.out⟩

set_option maxRecDepth 100000 in
theorem lifted (os : Os) (started : os.Started) (H : Type) (enc : TypeId × Value → H) :
    ReturnsInHanded {} Try.checked os 4 .any (Rows.uencTakesSpec.pre6 enc Try.prog Try.f4 Rows.uencTakesRow.domain false) (Rows.uencTakesSpec.post enc Try.prog Try.f4 false true false false) := by
  refine returnsInHanded_of_change (C := Try.checked) own started (by kernel_rfl) Try.func4
    (ChangeSpec.witness6 (enc := enc) (C := Try.checked) false ⟨#[], #[.int .i64 0, .slice none 0 0], []⟩ 8 (by kernel_rfl) (by kernel_rfl) (by kernel_rfl) (by kernel_rfl)) ?_
  intro W base args ds gs before hval0 hW hcnd _
  have hval : ∀ (j : Nat) t v, Try.f4.params[j]? = some t → args[j]? = some v → Value.okWide Try.prog W .any base t v := hval0
  have hW' := hW
  obtain ⟨p, q, hA0, hV, rfl, hfz, hnd⟩ := hW
  have hA : DataW.TrodAll enc Try.prog W 0 (fun _ => true) true Try.f4.params.toList args.toList ds p := hA0
  rw [Try.params4] at hA hval
  obtain ⟨v0, vs0, d0, ds0, p0, q0, hargs, rfl, rfl, h0, r0⟩ := trodAll_cons hA
  obtain ⟨v1, vs1, d1, ds1, p1, q1, rfl, rfl, rfl, h1, r1⟩ := trodAll_cons r0
  obtain ⟨rfl, rfl, rfl⟩ := trodAll_nil r1
  obtain rfl : args = #[v0, v1] := by cases args; simp_all
  obtain ⟨rfl, rfl⟩ := trodVars_none hV
  have k0 := h0
  have lt0 : ∀ x ∈ p0, x.block < W.heap.size := by obtain ⟨m, hm⟩ := k0; exact DataW.trod_lt m _ _ _ hm
  have k1 := h1
  have lt1 : ∀ x ∈ p1, x.block < W.heap.size := by obtain ⟨m, hm⟩ := k1; exact DataW.trod_lt m _ _ _ hm
  obtain ⟨x0, rfl, _, _, wx0⟩ := open_int Try.underlying3 (hval 0 3 v0 rfl rfl) h0
  obtain ⟨A1, n1, c1, l1, rfl, b1, nc1⟩ := open_byt (hval 1 23 v1 rfl rfl) h1
  clear hA0 hval0
  refine (walk x0 A1 n1 c1 l1 W wx0 b1 nc1).mono fun e W' ⟨he, bel⟩ => ?_
  subst he
  exact ⟨_, rfl, _, _, _, [], _, [], hW', trodAll_mk1 (shut_bool Try.underlying4 _), (trodAll_cons_mk (Below.trod laidOut (by kernel_rfl) (of_decide_eq_true (by kernel_rfl)) k0 bel lt0) (trodAll_cons_mk (Below.trod laidOut (by kernel_rfl) (of_decide_eq_true (by kernel_rfl)) k1 bel lt1) trodAll_mk0)), rfl, bel.frame _, fun h => by cases h⟩

theorem proved : Rows.UencTakesSaid :=
  OpenClaim.holds_of_wide 4 Try.f4 rfl rfl rfl rfl rfl rfl rfl ⟨rfl, rfl, rfl, rfl, rfl⟩ rfl rfl rfl rfl rfl (by kernel_rfl) Try.func4 (by kernel_rfl)
    (of_decide_eq_true (by kernel_rfl)) (by unfold Func.isWrapper; first | (rw [if_pos (by decide +kernel)]; kernel_rfl) | (rw [if_neg (by decide +kernel)]; exact ⟨rfl, rfl⟩))
    (fun os started H enc _ => lifted os started H enc)
#print axioms proved
end Go.Proofs.Ytlnbbipgfghfeaa.uencTakes
