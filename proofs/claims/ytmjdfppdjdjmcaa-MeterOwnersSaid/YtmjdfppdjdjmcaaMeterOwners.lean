/-
  Proved here: owners are given from 1 on, each once, rising, as many as are asked for; nobody's gives none; nothing that came in is turned. No condition.
-/
import Derived.Test.YtmjdfppdjdjmcaaRow
import Derived.Test.YtmjdfppdjdjmcaaMtrAlive
namespace Go.Proofs.Ytmjdfppdjdjmcaa.meterOwners
open Go.ChangeShapes Go.WideShapes Go.ChangeAt Go.RowKit

set_option maxRecDepth 100000 in
set_option maxHeartbeats 4000000 in
theorem walk (x : Int) (w : World) (wx : (Lit.int .u16 x).wf = true) :
    Calls Try.prog 4 #[.int .u16 x] w fun e w' => e = .returned (.bool true) ∧ Below w.heap.size w w' := by
  have hx : 0 ≤ x ∧ x ≤ 65535 := by simpa [Lit.wf, IntKind.min, IntKind.max, IntKind.signed, IntKind.bits] using wx
  obtain ⟨m, hm⟩ : ∃ m : Nat, x % 1000 = (m : Int) := ⟨(x % 1000).toNat, by omega⟩
  have hm1 : m < 1000 := by omega
  have HM := Lib.hid hm
  clear hm
  go_enter Try.func4, Try.ntmps4
  go_wp2_with fail
  go_loopw [9] (fun i wr => ∃ k : Nat, k ≤ m ∧ i = .int .u64 k ∧ Hid (Blk wr w.heap.size #[.int .u64 k]) ∧ Hid (Below w.heap.size w wr)) (fun i _ => m - (intOf i).toNat)
  case atStart => exact ⟨0, Nat.zero_le _, rfl, Blk.new w _ _, (Below.refl _ _).alloc (Nat.le_refl _) _⟩
  case round =>
    obtain ⟨k, hk, rfl, BK, ZK⟩ := hrel
    have CL := Lib.hid (last_any w.heap.size k wr (BK.out.cell 0))
    by_cases h1 : k < m
    · have e1 : IntKind.u64.wrap ((k : Int) + 1) = (k : Int) + 1 := by simp [IntKind.wrap, IntKind.bits, IntKind.signed]; omega
      have h1' : (k : Int) < x % 1000 := by have := HM.out; omega
      go_wp2_with fail
      (with_reducible refine CL.out.mono ?_)
      rintro e w' ⟨rfl, rfl⟩
      go_wp2_with fail
      (with_reducible refine (next_any w.heap.size k w' BK.out (by omega) (by omega)).mono ?_)
      rintro e w2 ⟨rfl, h2, k2⟩
      have B2 := Lib.hid h2
      have Z2 := Lib.hid (ZK.out.trans (k2.below (B := w.heap.size) ZK.out.size (fun g q => by omega)))
      clear h2 k2
      go_wp2_with fail
      (with_reducible refine (next_nil w2).mono ?_)
      rintro e w' ⟨rfl, rfl⟩
      go_wp2
      exact ⟨⟨k + 1, by omega, by go_num, Lib.hid (by have := B2.out; simpa using this), Z2⟩, by simp [intOf]; omega⟩
    · obtain rfl : k = m := by omega
      have h1' : ¬ (k : Int) < x % 1000 := by have := HM.out; omega
      have h2' : ((k : Int) == x % 1000) = true := by have := HM.out; simp; omega
      go_wp2_with fail
      (with_reducible refine CL.out.mono ?_)
      rintro e w' ⟨rfl, rfl⟩
      go_wp2_with fail
      (with_reducible refine (last_nil w').mono ?_)
      rintro e w' ⟨rfl, rfl⟩
      go_wp2_with fail
      (with_reducible refine (alive_any _).mono ?_)
      rintro e w4 ⟨rfl, h4⟩
      have B4 := Lib.hid (ZK.out.trans (h4.mono ZK.out.size))
      clear h4
      go_wp2
      go_ret
      exact ⟨rfl, B4.out⟩

set_option maxRecDepth 100000 in
theorem lifted (os : Os) (started : os.Started) (H : Type) (enc : TypeId × Value → H) :
    ReturnsInHanded {} Try.checked os 4 .any (Rows.meterOwnersSpec.pre6 enc Try.prog Try.f4 Rows.meterOwnersRow.domain false) (Rows.meterOwnersSpec.post enc Try.prog Try.f4 false true false false) := by
  refine returnsInHanded_of_change (C := Try.checked) own started (by kernel_rfl) Try.func4
    (ChangeSpec.witness6 (enc := enc) (C := Try.checked) false ⟨#[], #[.int .u16 0], []⟩ 8 (by kernel_rfl) (by kernel_rfl) (by kernel_rfl) (by kernel_rfl)) ?_
  intro W base args ds gs before hval0 hW hcnd _
  have hval : ∀ (j : Nat) t v, Try.f4.params[j]? = some t → args[j]? = some v → Value.okWide Try.prog W .any base t v := hval0
  have hW' := hW
  obtain ⟨p, q, hA0, hV, rfl, hfz, hnd⟩ := hW
  have hA : DataW.TrodAll enc Try.prog W 0 (fun _ => true) true Try.f4.params.toList args.toList ds p := hA0
  rw [Try.params4] at hA hval
  obtain ⟨v0, vs0, d0, ds0, p0, q0, hargs, rfl, rfl, h0, r0⟩ := trodAll_cons hA
  obtain ⟨rfl, rfl, rfl⟩ := trodAll_nil r0
  obtain rfl : args = #[v0] := by cases args; simp_all
  obtain ⟨rfl, rfl⟩ := trodVars_none hV
  have k0 := h0
  have lt0 : ∀ x ∈ p0, x.block < W.heap.size := by obtain ⟨m, hm⟩ := k0; exact DataW.trod_lt m _ _ _ hm
  obtain ⟨x0, rfl, _, _, wx0⟩ := open_int Try.underlying40 (hval 0 40 v0 rfl rfl) h0
  clear hA0 hval0
  refine (walk x0 W wx0).mono fun e W' ⟨he, bel⟩ => ?_
  subst he
  exact ⟨_, rfl, _, _, _, [], _, [], hW', trodAll_mk1 (shut_bool Try.underlying4 _), (trodAll_cons_mk (Below.trod laidOut (by kernel_rfl) (of_decide_eq_true (by kernel_rfl)) k0 bel lt0) trodAll_mk0), rfl, bel.frame _, fun h => by cases h⟩

set_option maxRecDepth 100000 in
theorem proved : Rows.MeterOwnersSaid :=
  OpenClaim.holds_of_wide 4 Try.f4 rfl rfl rfl rfl rfl rfl rfl ⟨rfl, rfl, rfl, rfl, rfl⟩ rfl rfl rfl rfl rfl (by kernel_rfl) Try.func4 (by kernel_rfl)
    (of_decide_eq_true (by kernel_rfl)) (by unfold Func.isWrapper; first | (rw [if_pos (by decide +kernel)]; kernel_rfl) | (rw [if_neg (by decide +kernel)]; exact ⟨rfl, rfl⟩))
    (fun os started H enc _ => lifted os started H enc)
end Go.Proofs.Ytmjdfppdjdjmcaa.meterOwners
