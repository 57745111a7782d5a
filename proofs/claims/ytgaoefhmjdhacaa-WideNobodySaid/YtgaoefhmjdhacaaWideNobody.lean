/-
  Proved here: a board that nobody made, nil or not given by New, holds nothing, takes nothing, lets nothing go, and has no copy, whatever the byte and the place to go on from; nothing that came in is turned. No condition.
-/
import Derived.Test.YtgaoefhmjdhacaaRow
import Derived.Test.YtgaoefhmjdhacaaBdAlive
namespace Go.Proofs.Ytgaoefhmjdhacaa.wideNobody
open Go.ChangeShapes Go.WideShapes Go.ChangeAt Go.RowKit

section
variable {w : World} {g : Nat} {v : Value}
set_option maxRecDepth 100000 in
theorem zget (h : Bd w g v 0 [] 0) (b : UInt8) (z : Int) (hz : z = (b.toNat : Int)) : Calls Try.prog 14 #[.pointer (some ⟨g, 0, none⟩), .int .u8 z] w fun e w' => e = .returned (.tuple #[.int .i64 0, .bool false]) ∧ Still w w' := by
  subst hz
  exact wget_any h b
set_option maxRecDepth 100000 in
theorem znext (h : Bd w g v 0 [] 0) (a : Int) (ha : -9223372036854775808 ≤ a) : Calls Try.prog 18 #[.pointer (some ⟨g, 0, none⟩), .int .i64 a] w fun e w' => e = .returned (.tuple #[.int .u8 0, .int .i64 0, .bool false]) ∧ Still w w' := by
  have e : nextE [] a = none := by simp [nextE]
  have := wnext_any h a ha
  rw [e] at this
  exact this
set_option maxRecDepth 100000 in
theorem zprev (h : Bd w g v 0 [] 0) (a : Int) (ha : a ≤ 9223372036854775807) : Calls Try.prog 19 #[.pointer (some ⟨g, 0, none⟩), .int .i64 a] w fun e w' => e = .returned (.tuple #[.int .u8 0, .int .i64 0, .bool false]) ∧ Still w w' := by
  have e : prevE [] a = none := by simp [prevE]
  have := wprev_any h a ha
  rw [e] at this
  exact this
set_option maxRecDepth 100000 in
theorem zlen (h : Bd w g v 0 [] 0) : Calls Try.prog 13 #[.pointer (some ⟨g, 0, none⟩)] w fun e w' => e = .returned (.int .i64 0) ∧ Still w w' := wlen_any h
set_option maxRecDepth 100000 in
theorem zroom (h : Bd w g v 0 [] 0) : Calls Try.prog 20 #[.pointer (some ⟨g, 0, none⟩)] w fun e w' => e = .returned (.int .i64 0) ∧ w' = w := wroom_any h
set_option maxRecDepth 100000 in
theorem zused (h : Bd w g v 0 [] 0) : Calls Try.prog 15 #[.pointer (some ⟨g, 0, none⟩)] w fun e w' => e = .returned (.int .i64 0) ∧ w' = w := wused_any h
set_option maxRecDepth 100000 in
theorem nnext (w : World) (a : Int) (ha : -9223372036854775808 ≤ a) : Calls Try.prog 18 #[.pointer none, .int .i64 a] w fun e w' => e = .returned (.tuple #[.int .u8 0, .int .i64 0, .bool false]) ∧ Still w w' := wnext_nil w a ha
set_option maxRecDepth 100000 in
theorem nprev (w : World) (a : Int) (ha : a ≤ 9223372036854775807) : Calls Try.prog 19 #[.pointer none, .int .i64 a] w fun e w' => e = .returned (.tuple #[.int .u8 0, .int .i64 0, .bool false]) ∧ Still w w' := wprev_nil w a ha
set_option maxRecDepth 100000 in
theorem nget (w : World) (b : Int) : Calls Try.prog 14 #[.pointer none, .int .u8 b] w fun e w' => e = .returned (.tuple #[.int .i64 0, .bool false]) ∧ w' = w := wget_nil w b
end

set_option maxRecDepth 100000 in
set_option maxHeartbeats 2000000 in
theorem walk (x a : Int) (w : World) (wx : (Lit.int .u8 x).wf = true) (wa : (Lit.int .i64 a).wf = true) :
    Calls Try.prog 5 #[.int .u8 x, .int .i64 a] w fun e w' => e = .returned (.bool true) ∧ Below w.heap.size w w' := by
  have hx : 0 ≤ x ∧ x ≤ 255 := by simpa [Lit.wf, IntKind.min, IntKind.max, IntKind.signed, IntKind.bits] using wx
  have ha : -9223372036854775808 ≤ a ∧ a ≤ 9223372036854775807 := by simpa [Lit.wf, IntKind.min, IntKind.max, IntKind.signed, IntKind.bits] using wa
  obtain ⟨b, hb⟩ : ∃ b : UInt8, x = (b.toNat : Int) := ⟨UInt8.ofNat x.toNat, by rw [UInt8.toNat_ofNat']; omega⟩
  have HB := Lib.hid hb
  have HA := Lib.hid ha
  clear hb ha hx
  have HBU := Lib.hid bd_built0
  have Z : Bd (w.alloc (.cells (bdL 0 (fun _ => 0) (.slice none 0 0) (fun _ => 0) 0).toArray 52)) w.heap.size (.slice none 0 0) 0 [] 0 := Bd.first (by omega) (Blk.new w _ _)
  generalize (bdL 0 (fun _ => 0) (.slice none 0 0) (fun _ => 0) 0).toArray = cs at HBU Z
  generalize hW0 : w.alloc (.cells cs 52) = W0 at Z
  have s0 : W0.heap.size = w.heap.size + 1 := by subst hW0; simp
  have B0 : Below w.heap.size w W0 := by subst hW0; exact (Below.refl _ _).alloc (Nat.le_refl _) _
  have P1 := Blk.new W0 23 #[.pointer none, .pointer (some ⟨w.heap.size, 0, none⟩)]
  have Z1 := Z.below ((Below.refl _ _).alloc (Nat.le_refl _) (.cells #[.pointer none, .pointer (some ⟨w.heap.size, 0, none⟩)] 23))
  rw [s0] at P1
  have B1 := Lib.hid (B0.alloc B0.size (.cells #[.pointer none, .pointer (some ⟨w.heap.size, 0, none⟩)] 23))
  generalize hW1 : W0.alloc (.cells #[.pointer none, .pointer (some ⟨w.heap.size, 0, none⟩)] 23) = W1 at P1 Z1 B1
  have c0 : W1.cell? ⟨w.heap.size + 1, 0, none⟩ = some (.pointer none) := P1.cell 0
  have c1 : W1.cell? ⟨w.heap.size + 1, 1, none⟩ = some (.pointer (some ⟨w.heap.size, 0, none⟩)) := P1.cell 1
  have RD := Lib.hid Z1
  clear Z Z1 P1 B0
  go_enter Try.func5, Try.ntmps5
  go_wp2_with (refine wpList_build_is rfl 52 #[] rfl [] (by simp) cs HBU.out ?_)
  try rw [hW0]
  try rw [hW1]
  clear hW0 hW1 s0 HBU
  go_loopw [19] (fun i wr => ∃ k : Nat, k ≤ 2 ∧ i = .int .i64 k ∧ Still W1 wr) (fun i _ => 2 - (intOf i).toNat)
  case atStart => exact ⟨0, by omega, rfl, Still.refl _⟩
  case round =>
    obtain ⟨k, hk, rfl, q, rfl⟩ := hrel
    rcases (show k = 0 ∨ k = 1 ∨ k = 2 by omega) with rfl | rfl | rfl
    · go_wp2_with (first
        | (go_at_call 14; refine (nget _ _).mono ?_; rintro e w' ⟨rfl, rfl⟩)
        | (go_at_call 18; refine (nnext _ _ HA.out.1).mono ?_; rintro e w' ⟨rfl, q2, rfl⟩)
        | (go_at_call 19; refine (nprev _ _ HA.out.2).mono ?_; rintro e w' ⟨rfl, q2, rfl⟩)
        | (go_at_call 11; refine (wset_nil _ _ _).mono ?_; rintro e w' ⟨rfl, rfl⟩)
        | (go_at_call 9; refine (wdrop_nil _ _).mono ?_; rintro e w' ⟨rfl, rfl⟩)
        | (go_at_call 13; refine (wlen_nil _).mono ?_; rintro e w' ⟨rfl, rfl⟩)
        | (go_at_call 20; refine (wroom_nil _).mono ?_; rintro e w' ⟨rfl, rfl⟩)
        | (go_at_call 15; refine (wused_nil _).mono ?_; rintro e w' ⟨rfl, rfl⟩)
        | (go_at_call 17; refine (wcopy_nil _).mono ?_; rintro e w' ⟨rfl, rfl⟩))
      exact ⟨⟨1, by omega, rfl, by repeat (first | exact Still.refl _ | apply Still.step)⟩, by simp [intOf]⟩
    · go_wp2_with (first
        | (go_at_call 14; refine (zget (by repeat (first | exact RD.out | apply Bd.drewN)) b _ HB.out).mono ?_; rintro e w' ⟨rfl, q2, rfl⟩)
        | (go_at_call 18; refine (znext (by repeat (first | exact RD.out | apply Bd.drewN)) _ HA.out.1).mono ?_; rintro e w' ⟨rfl, q2, rfl⟩)
        | (go_at_call 19; refine (zprev (by repeat (first | exact RD.out | apply Bd.drewN)) _ HA.out.2).mono ?_; rintro e w' ⟨rfl, q2, rfl⟩)
        | (go_at_call 11; refine (wset_zero (by repeat (first | exact RD.out | apply Bd.drewN)) _ _).mono ?_; rintro e w' ⟨rfl, rfl⟩)
        | (go_at_call 9; refine (wdrop_zero (by repeat (first | exact RD.out | apply Bd.drewN)) _).mono ?_; rintro e w' ⟨rfl, rfl⟩)
        | (go_at_call 13; refine (zlen (by repeat (first | exact RD.out | apply Bd.drewN))).mono ?_; rintro e w' ⟨rfl, q2, rfl⟩)
        | (go_at_call 20; refine (zroom (by repeat (first | exact RD.out | apply Bd.drewN))).mono ?_; rintro e w' ⟨rfl, rfl⟩)
        | (go_at_call 15; refine (zused (by repeat (first | exact RD.out | apply Bd.drewN))).mono ?_; rintro e w' ⟨rfl, rfl⟩)
        | (go_at_call 17; refine (wcopy_zero (by repeat (first | exact RD.out | apply Bd.drewN))).mono ?_; rintro e w' ⟨rfl, rfl⟩))
      exact ⟨⟨2, by omega, rfl, by repeat (first | exact Still.refl _ | apply Still.step)⟩, by simp [intOf]⟩
    · go_wp2_with (go_at_call 8; refine (walive_any _).mono ?_; rintro e w2 ⟨rfl, hbel⟩; have HB2 := Lib.hid ((below_drewN B1.out q).trans (hbel.mono (by have := B1.out.size; simpa using this))); clear hbel)
      go_ret
      exact ⟨rfl, HB2.out⟩

set_option maxRecDepth 100000 in
theorem lifted (os : Os) (started : os.Started) (H : Type) (enc : TypeId × Value → H) :
    ReturnsInHanded {} Try.checked os 5 .any (Rows.wideNobodySpec.pre6 enc Try.prog Try.f5 Rows.wideNobodyRow.domain false) (Rows.wideNobodySpec.post enc Try.prog Try.f5 false true false false) := by
  refine returnsInHanded_of_change (C := Try.checked) own started (by kernel_rfl) Try.func5
    (ChangeSpec.witness6 (enc := enc) (C := Try.checked) false ⟨#[], #[.int .u8 0, .int .i64 0], []⟩ 8 (by kernel_rfl) (by kernel_rfl) (by kernel_rfl) (by kernel_rfl)) ?_
  intro W base args ds gs before hval0 hW hcnd _
  have hval : ∀ (j : Nat) t v, Try.f5.params[j]? = some t → args[j]? = some v → Value.okWide Try.prog W .any base t v := hval0
  have hW' := hW
  obtain ⟨p, q, hA0, hV, rfl, hfz, hnd⟩ := hW
  have hA : DataW.TrodAll enc Try.prog W 0 (fun _ => true) true Try.f5.params.toList args.toList ds p := hA0
  rw [Try.params5] at hA hval
  obtain ⟨v0, vs0, d0, ds0, p0, q0, hargs, rfl, rfl, h0, r0⟩ := trodAll_cons hA
  obtain ⟨v1, vs1, d1, ds1, p1, q1, rfl, rfl, rfl, h1, r1⟩ := trodAll_cons r0
  obtain ⟨rfl, rfl, rfl⟩ := trodAll_nil r1
  obtain rfl : args = #[v0, v1] := by cases args; simp_all
  obtain ⟨rfl, rfl⟩ := trodVars_none hV
  have k0 := h0
  have lt0 : ∀ x ∈ p0, x.block < W.heap.size := by obtain ⟨m, hm⟩ := k0; exact DataW.trod_lt m _ _ _ hm
  have k1 := h1
  have lt1 : ∀ x ∈ p1, x.block < W.heap.size := by obtain ⟨m, hm⟩ := k1; exact DataW.trod_lt m _ _ _ hm
  obtain ⟨x0, rfl, _, _, wx0⟩ := open_int Try.underlying5 (hval 0 5 v0 rfl rfl) h0
  obtain ⟨x1, rfl, _, _, wx1⟩ := open_int Try.underlying3 (hval 1 3 v1 rfl rfl) h1
  clear hA0 hval0
  refine (walk x0 x1 W wx0 wx1).mono fun e W' ⟨he, bel⟩ => ?_
  subst he
  exact ⟨_, rfl, _, _, _, [], _, [], hW', trodAll_mk1 (shut_bool Try.underlying4 _), (trodAll_cons_mk (Below.trod laidOut (by kernel_rfl) (of_decide_eq_true (by kernel_rfl)) k0 bel lt0) (trodAll_cons_mk (Below.trod laidOut (by kernel_rfl) (of_decide_eq_true (by kernel_rfl)) k1 bel lt1) trodAll_mk0)), rfl, bel.frame _, fun h => by cases h⟩

set_option maxRecDepth 100000 in
theorem proved : Rows.WideNobodySaid :=
  OpenClaim.holds_of_wide 5 Try.f5 rfl rfl rfl rfl rfl rfl rfl ⟨rfl, rfl, rfl, rfl, rfl⟩ rfl rfl rfl rfl rfl (by kernel_rfl) Try.func5 (by kernel_rfl)
    (of_decide_eq_true (by kernel_rfl)) (by unfold Func.isWrapper; first | (rw [if_pos (by decide +kernel)]; kernel_rfl) | (rw [if_neg (by decide +kernel)]; exact ⟨rfl, rfl⟩))
    (fun os started H enc _ => lifted os started H enc)
end Go.Proofs.Ytgaoefhmjdhacaa.wideNobody
