/-
  Proved here: kids that nobody made, nil or not given by New, hold nothing, take nothing, let nothing go, are of no kind, and have no copy, whatever the byte and the place to go on from; nothing that came in is turned. No condition.
-/
import Derived.Test.YtahmalmpbdfnhaaRow
import Derived.Test.YtahmalmpbdfnhaaKdOwn
namespace Go.Proofs.Ytahmalmpbdfnhaa.kidsNobody
open Go.ChangeShapes Go.WideShapes Go.ChangeAt Go.RowKit

set_option maxRecDepth 100000 in
set_option maxHeartbeats 2000000 in
theorem walk (x a : Int) (w : World) :
    Calls Try.prog 6 #[.int .u8 x, .int .i64 a] w fun e w' => e = .returned (.bool true) ∧ Below w.heap.size w w' := by
  have Z : Lst (w.alloc (.cells #[.pointer none, .pointer none] 55)) w.heap.size [.pointer none, .pointer none] := Blk.new w _ _
  generalize hW0 : w.alloc (.cells #[.pointer none, .pointer none] 55) = W0 at Z
  have s0 : W0.heap.size = w.heap.size + 1 := by subst hW0; simp
  have B0 : Below w.heap.size w W0 := by subst hW0; exact (Below.refl _ _).alloc (Nat.le_refl _) _
  have P1 := Blk.new W0 23 #[.pointer none, .pointer (some ⟨w.heap.size, 0, none⟩)]
  have Z1 := Blk.alloc Z (.cells #[.pointer none, .pointer (some ⟨w.heap.size, 0, none⟩)] 23)
  rw [s0] at P1
  have B1 := Lib.hid (B0.alloc B0.size (.cells #[.pointer none, .pointer (some ⟨w.heap.size, 0, none⟩)] 23))
  generalize hW1 : W0.alloc (.cells #[.pointer none, .pointer (some ⟨w.heap.size, 0, none⟩)] 23) = W1 at P1 Z1 B1
  have c0 : W1.cell? ⟨w.heap.size + 1, 0, none⟩ = some (.pointer none) := P1.cell 0
  have c1 : W1.cell? ⟨w.heap.size + 1, 1, none⟩ = some (.pointer (some ⟨w.heap.size, 0, none⟩)) := P1.cell 1
  have RD := Lib.hid Z1
  clear Z Z1 P1 B0
  go_enter Try.func6, Try.ntmps6
  go_wp2_with fail
  try rw [hW0]
  try rw [hW1]
  clear hW0 hW1 s0
  go_loopw [19] (fun i wr => ∃ k : Nat, k ≤ 2 ∧ i = .int .i64 k ∧ wr = W1) (fun i _ => 2 - (intOf i).toNat)
  case atStart => exact ⟨0, by omega, rfl, rfl⟩
  case round =>
    obtain ⟨k, hk, rfl, rfl⟩ := hrel
    rcases (show k = 0 ∨ k = 1 ∨ k = 2 by omega) with rfl | rfl | rfl
    · go_wp2_with (first
        | (go_at_call 14; refine (kget_no (NoK.nil _) _).mono ?_; rintro e w' ⟨rfl, rfl⟩)
        | (go_at_call 21; refine (knext_no (NoK.nil _) _).mono ?_; rintro e w' ⟨rfl, rfl⟩)
        | (go_at_call 23; refine (kprev_no (NoK.nil _) _).mono ?_; rintro e w' ⟨rfl, rfl⟩)
        | (go_at_call 12; refine (kset_no (NoK.nil _) _ _).mono ?_; rintro e w' ⟨rfl, rfl⟩)
        | (go_at_call 10; refine (kdrop_no (NoK.nil _) _).mono ?_; rintro e w' ⟨rfl, rfl⟩)
        | (go_at_call 22; refine (klen_no (NoK.nil _)).mono ?_; rintro e w' ⟨rfl, rfl⟩)
        | (go_at_call 15; refine (kkind_no (NoK.nil _)).mono ?_; rintro e w' ⟨rfl, rfl⟩)
        | (go_at_call 20; refine (kcopy_nil _).mono ?_; rintro e w' ⟨rfl, rfl⟩))
      exact ⟨⟨1, by omega, rfl, by trivial⟩, by simp [intOf]⟩
    · go_wp2_with (first
        | (go_at_call 14; refine (kget_no (NoK.zero RD.out) _).mono ?_; rintro e w' ⟨rfl, rfl⟩)
        | (go_at_call 21; refine (knext_no (NoK.zero RD.out) _).mono ?_; rintro e w' ⟨rfl, rfl⟩)
        | (go_at_call 23; refine (kprev_no (NoK.zero RD.out) _).mono ?_; rintro e w' ⟨rfl, rfl⟩)
        | (go_at_call 12; refine (kset_no (NoK.zero RD.out) _ _).mono ?_; rintro e w' ⟨rfl, rfl⟩)
        | (go_at_call 10; refine (kdrop_no (NoK.zero RD.out) _).mono ?_; rintro e w' ⟨rfl, rfl⟩)
        | (go_at_call 22; refine (klen_no (NoK.zero RD.out)).mono ?_; rintro e w' ⟨rfl, rfl⟩)
        | (go_at_call 15; refine (kkind_no (NoK.zero RD.out)).mono ?_; rintro e w' ⟨rfl, rfl⟩)
        | (go_at_call 20; refine (kcopy_zero RD.out).mono ?_; rintro e w' ⟨rfl, rfl⟩))
      exact ⟨⟨2, by omega, rfl, by trivial⟩, by simp [intOf]⟩
    · go_wp2_with (go_at_call 18; refine (kalive_any _).mono ?_; rintro e w2 ⟨rfl, hbel⟩; have HB2 := Lib.hid (B1.out.trans (hbel.mono (by have := B1.out.size; simpa using this))); clear hbel)
      go_ret
      exact ⟨rfl, HB2.out⟩

set_option maxRecDepth 100000 in
theorem lifted (os : Os) (started : os.Started) (H : Type) (enc : TypeId × Value → H) :
    ReturnsInHanded {} Try.checked os 6 .any (Rows.kidsNobodySpec.pre6 enc Try.prog Try.f6 Rows.kidsNobodyRow.domain false) (Rows.kidsNobodySpec.post enc Try.prog Try.f6 false true false false) := by
  refine returnsInHanded_of_change (C := Try.checked) own started (by kernel_rfl) Try.func6
    (ChangeSpec.witness6 (enc := enc) (C := Try.checked) false ⟨#[], #[.int .u8 0, .int .i64 0], []⟩ 8 (by kernel_rfl) (by kernel_rfl) (by kernel_rfl) (by kernel_rfl)) ?_
  intro W base args ds gs before hval0 hW hcnd _
  have hval : ∀ (j : Nat) t v, Try.f6.params[j]? = some t → args[j]? = some v → Value.okWide Try.prog W .any base t v := hval0
  have hW' := hW
  obtain ⟨p, q, hA0, hV, rfl, hfz, hnd⟩ := hW
  have hA : DataW.TrodAll enc Try.prog W 0 (fun _ => true) true Try.f6.params.toList args.toList ds p := hA0
  rw [Try.params6] at hA hval
  obtain ⟨v0, vs0, d0, ds0, p0, q0, hargs, rfl, rfl, h0, r0⟩ := trodAll_cons hA
  obtain ⟨v1, vs1, d1, ds1, p1, q1, rfl, rfl, rfl, h1, r1⟩ := trodAll_cons r0
  obtain ⟨rfl, rfl, rfl⟩ := trodAll_nil r1
  obtain rfl : args = #[v0, v1] := by cases args; simp_all
  obtain ⟨rfl, rfl⟩ := trodVars_none hV
  have k0 := h0
  have lt0 : ∀ x ∈ p0, x.block < W.heap.size := by obtain ⟨m, hm⟩ := k0; exact DataW.trod_lt m _ _ _ hm
  have k1 := h1
  have lt1 : ∀ x ∈ p1, x.block < W.heap.size := by obtain ⟨m, hm⟩ := k1; exact DataW.trod_lt m _ _ _ hm
  obtain ⟨x0, rfl, _, _, _⟩ := open_int Try.underlying5 (hval 0 5 v0 rfl rfl) h0
  obtain ⟨x1, rfl, _, _, _⟩ := open_int Try.underlying3 (hval 1 3 v1 rfl rfl) h1
  clear hA0 hval0
  refine (walk x0 x1 W).mono fun e W' ⟨he, bel⟩ => ?_
  subst he
  exact ⟨_, rfl, _, _, _, [], _, [], hW', trodAll_mk1 (shut_bool Try.underlying4 _), (trodAll_cons_mk (Below.trod laidOut (by kernel_rfl) (of_decide_eq_true (by kernel_rfl)) k0 bel lt0) (trodAll_cons_mk (Below.trod laidOut (by kernel_rfl) (of_decide_eq_true (by kernel_rfl)) k1 bel lt1) trodAll_mk0)), rfl, bel.frame _, fun h => by cases h⟩

set_option maxRecDepth 100000 in
theorem proved : Rows.KidsNobodySaid :=
  OpenClaim.holds_of_wide 6 Try.f6 rfl rfl rfl rfl rfl rfl rfl ⟨rfl, rfl, rfl, rfl, rfl⟩ rfl rfl rfl rfl rfl (by kernel_rfl) Try.func6 (by kernel_rfl)
    (of_decide_eq_true (by kernel_rfl)) (by unfold Func.isWrapper; first | (rw [if_pos (by decide +kernel)]; kernel_rfl) | (rw [if_neg (by decide +kernel)]; exact ⟨rfl, rfl⟩))
    (fun os started H enc _ => lifted os started H enc)
end Go.Proofs.Ytahmalmpbdfnhaa.kidsNobody
