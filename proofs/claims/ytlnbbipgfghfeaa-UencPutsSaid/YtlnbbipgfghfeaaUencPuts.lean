/-
  Proved here: any number's bytes in any width, as uenc.Put tells them, and the greatest number of it, as uenc.Most tells it, are the document's, or refused as it refuses. No condition.
-/
import Derived.Test.YtlnbbipgfghfeaaRow
import Derived.Test.YtlnbbipgfghfeaaUencMore
namespace Go.Proofs.Ytlnbbipgfghfeaa.uencPuts
open Go.ChangeShapes Go.WideShapes Go.ChangeAt Go.RowKit

set_option maxHeartbeats 1000000 in
theorem walk0 (x : Int) (n : Nat) (w : World) (hn : n ≤ 18446744073709551615) :
    Calls Try.prog 3 #[.int .i64 x, .int .u64 (n : Int)] w fun e w' => e = .returned (.bool true) ∧ Below w.heap.size w w' := by
  go_enter Try.func3, Try.ntmps3
  go_wp2_with fail
  (with_reducible refine (put_any _ _ _ hn).mono ?_)
  rintro e w1 ⟨A1, n1, c1, rfl, y1, h1⟩
  have B1 := Lib.hid h1
  have Y1 := Lib.hid y1
  clear h1 y1
  go_wp2_with fail
  (with_reducible refine (rput_any _ _ _ hn).mono ?_)
  rintro e w2 ⟨A2, n2, c2, rfl, y2, h2⟩
  have B2 := Lib.hid (B1.out.trans (h2.mono B1.out.size))
  have Y2 := Lib.hid y2
  have Y1' := Lib.hid ((Y1.out.below h2).more h2.size)
  clear h2 y2
  go_wp2_with fail
  (with_reducible refine (most_any _ _).mono ?_)
  rintro e w' ⟨rfl, rfl⟩
  go_wp2_with fail
  (with_reducible refine (rmost_any _ _).mono ?_)
  rintro e w' ⟨rfl, rfl⟩
  go_wp2_with fail
  (with_reducible refine (rsame_any _ _ _ _ _ _ w2.heap.size (putL x n) (putL x n) _ Y1'.out Y2.out).mono ?_)
  rintro e w3 ⟨rfl, h3⟩
  rw [show sameB (putL x n) (putL x n) = true from by simp [sameB]]
  have B3 := Lib.hid (B2.out.trans (h3.below _))
  clear h3
  go_wp2_with fail
  (with_reducible refine (alive_any _).mono ?_)
  rintro e w4 ⟨rfl, h4⟩
  have B4 := Lib.hid (B3.out.trans (h4.mono B3.out.size))
  clear h4
  go_wp2
  go_ret
  exact ⟨rfl, B4.out⟩

theorem walk (x : Int) (y : Int) (w : World) (_ : (Lit.int .i64 x).wf = true) (hy : (Lit.int .u64 y).wf = true) :
    Calls Try.prog 3 #[.int .i64 x, .int .u64 y] w fun e w' => e = .returned (.bool true) ∧ Below w.heap.size w w' := by
  have hb : 0 ≤ y ∧ y ≤ 18446744073709551615 := by simpa [Lit.wf, IntKind.min, IntKind.max, IntKind.signed, IntKind.bits] using hy
  have h := walk0 x y.toNat w (by omega)
  rwa [Int.toNat_of_nonneg hb.1] at h

set_option maxRecDepth 100000 in
theorem lifted (os : Os) (started : os.Started) (H : Type) (enc : TypeId × Value → H) :
    ReturnsInHanded {} Try.checked os 3 .any (Rows.uencPutsSpec.pre6 enc Try.prog Try.f3 Rows.uencPutsRow.domain false) (Rows.uencPutsSpec.post enc Try.prog Try.f3 false true false false) := by
  refine returnsInHanded_of_change (C := Try.checked) own started (by kernel_rfl) Try.func3
    (ChangeSpec.witness6 (enc := enc) (C := Try.checked) false ⟨#[], #[.int .i64 0, .int .u64 0], []⟩ 8 (by kernel_rfl) (by kernel_rfl) (by kernel_rfl) (by kernel_rfl)) ?_
  intro W base args ds gs before hval0 hW hcnd _
  have hval : ∀ (j : Nat) t v, Try.f3.params[j]? = some t → args[j]? = some v → Value.okWide Try.prog W .any base t v := hval0
  have hW' := hW
  obtain ⟨p, q, hA0, hV, rfl, hfz, hnd⟩ := hW
  have hA : DataW.TrodAll enc Try.prog W 0 (fun _ => true) true Try.f3.params.toList args.toList ds p := hA0
  rw [Try.params3] at hA hval
  obtain ⟨v0, vs0, d0, ds0, p0, q0, hargs, rfl, rfl, h0, r0⟩ := trodAll_cons hA
  obtain ⟨v1, vs1, d1, ds1, p1, q1, rfl, rfl, rfl, h1, r1⟩ := trodAll_cons r0
  obtain ⟨rfl, rfl, rfl⟩ := trodAll_nil r1
  obtain rfl : args = #[v0, v1] := by cases args; simp_all
  obtain ⟨rfl, rfl⟩ := trodVars_none hV
  have k0 := h0
  have lt0 : ∀ x ∈ p0, x.block < W.heap.size := by obtain ⟨m, hm⟩ := k0; exact DataW.trod_lt m _ _ _ hm
  have k1 := h1
  have lt1 : ∀ x ∈ p1, x.block < W.heap.size := by obtain ⟨m, hm⟩ := k1; exact DataW.trod_lt m _ _ _ hm
  obtain ⟨x0, rfl, _, _, wx0⟩ := open_int Try.underlying3 (hval 0 3 v0 rfl rfl) h0
  obtain ⟨x1, rfl, _, _, wx1⟩ := open_int Try.underlying22 (hval 1 22 v1 rfl rfl) h1
  clear hA0 hval0
  refine (walk x0 x1 W wx0 wx1).mono fun e W' ⟨he, bel⟩ => ?_
  subst he
  exact ⟨_, rfl, _, _, _, [], _, [], hW', trodAll_mk1 (shut_bool Try.underlying4 _), (trodAll_cons_mk (Below.trod laidOut (by kernel_rfl) (of_decide_eq_true (by kernel_rfl)) k0 bel lt0) (trodAll_cons_mk (Below.trod laidOut (by kernel_rfl) (of_decide_eq_true (by kernel_rfl)) k1 bel lt1) trodAll_mk0)), rfl, bel.frame _, fun h => by cases h⟩

theorem proved : Rows.UencPutsSaid :=
  OpenClaim.holds_of_wide 3 Try.f3 rfl rfl rfl rfl rfl rfl rfl ⟨rfl, rfl, rfl, rfl, rfl⟩ rfl rfl rfl rfl rfl (by kernel_rfl) Try.func3 (by kernel_rfl)
    (of_decide_eq_true (by kernel_rfl)) (by unfold Func.isWrapper; first | (rw [if_pos (by decide +kernel)]; kernel_rfl) | (rw [if_neg (by decide +kernel)]; exact ⟨rfl, rfl⟩))
    (fun os started H enc _ => lifted os started H enc)
#print axioms proved
end Go.Proofs.Ytlnbbipgfghfeaa.uencPuts
