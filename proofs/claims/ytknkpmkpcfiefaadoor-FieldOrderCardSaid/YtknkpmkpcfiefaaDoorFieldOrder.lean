/-
  Proved here: any two values' order by any field, as field.Cmp and field.Same tell it, is the document's; if they may be, their bytes, as field.Put tells them, are in that order, none are the beginning of others, and what is put is taken by field.Take, whatever stands behind; nothing that came in is turned. The one condition is the card's own: the table of the widths lies as the program's text lays it (tied).
-/
import Derived.Test.YtknkpmkpcfiefaaDoorFieldOrderE
import Derived.Test.YtknkpmkpcfiefaaDoorFieldOrderZ
import Derived.Test.YtknkpmkpcfiefaaDoorFieldOrderN
import Derived.Test.YtknkpmkpcfiefaaDoorFieldRow
import Derived.Test.YtknkpmkpcfiefaaDoorTie
import Derived.Test.YtknkpmkpcfiefaaDoorCards
import Derived.SevenTiedAt
namespace Go.Proofs.YtknkpmkpcfiefaaDoor.fieldOrder
open Go.ChangeShapes Go.WideShapes Go.ChangeAt Go.RowKit

set_option maxRecDepth 100000 in
set_option maxHeartbeats 4000000 in
theorem walk (k : Int) (f : Bool) (u : Nat) (i : Int) (A : Option Addr) (n c : Nat) (t : Bool) (l : List UInt8) (u' : Nat) (i' : Int) (A' : Option Addr) (n' c' : Nat) (t' : Bool) (l' : List UInt8) (Ax : Option Addr) (m cx : Nat) (b : List UInt8) (w : World) (hT : Tab w) (hu : u ≤ 18446744073709551615) (hi : i ≤ 9223372036854775807) (ha : Byt w w.heap.size A n l) (hnc : n ≤ c) (hu' : u' ≤ 18446744073709551615) (hi' : i' ≤ 9223372036854775807) (ha' : Byt w w.heap.size A' n' l') (_ : n' ≤ c') (hb : Byt w w.heap.size Ax m b) (_ : m ≤ cx) :
    Calls Tryd.prog 5 #[.agg #[.int .i64 k, .bool f], .agg #[.int .u64 (u : Int), .int .i64 i, .slice A n c, .bool t, .int .u64 (u' : Int), .int .i64 i', .slice A' n' c', .bool t'], .slice Ax m cx] w fun e w' => e = .returned (.bool true) ∧ Below w.heap.size w w' := by
  by_cases hg : n ≤ 300 ∧ n' ≤ 300 ∧ m ≤ 300
  · obtain ⟨h1, h2, h3⟩ := hg
    by_cases he : fE k u i = 0
    · by_cases hg : fE k u' i' = 0
      · by_cases hc : fC k f u i l t u' i' l' t' = 0
        · exact walk_z k f u i A n c t l u' i' A' n' c' t' l' Ax m cx b w hT hu hi ha hnc hu' hi' ha' hb h1 h2 h3 he hg hc
        · exact walk_n k f u i A n c t l u' i' A' n' c' t' l' Ax m cx b w hT hu hi ha hnc hu' hi' ha' hb h1 h2 h3 he hg hc
      · exact walk_g k f u i A n c t l u' i' A' n' c' t' l' Ax m cx b w hT hu hi ha hnc hu' hi' ha' hb h1 h2 h3 he hg
    · exact walk_e k f u i A n c t l u' i' A' n' c' t' l' Ax m cx b w hT hu hi ha hnc hu' hi' ha' hb h1 h2 h3 he
  · have na : n ≤ 9223372036854775807 := by have := ha.2.1; unfold maxLen at this; omega
    have na' : n' ≤ 9223372036854775807 := by have := ha'.2.1; unfold maxLen at this; omega
    have nb : m ≤ 9223372036854775807 := by have := hb.2.1; unfold maxLen at this; omega
    have HT := Lib.hid (fun V (h : Below w.heap.size w V) => hT.below h)
    have HB := Lib.hid (((Below.refl w.heap.size w).alloc (Nat.le_refl _) (.cells #[.int .i64 k, .bool f] 23)).alloc (by simp) (.cells #[.int .u64 (u : Int), .int .i64 i, .slice A n c, .bool t, .int .u64 (u' : Int), .int .i64 i', .slice A' n' c', .bool t'] 48))
    clear hT ha ha' hb
    by_cases g1 : 300 < n
    · have e1 : (300 : Int) < (n : Int) := by omega
      have d1 : decide ((300 : Int) < (n : Int)) = true := decide_eq_true e1
      go_enter Tryd.func5, Tryd.ntmps5
      go_wp2_with fail
      (with_reducible refine (alive_any _ (HT.out _ HB.out)).mono ?_)
      rintro e z1 ⟨rfl, hz⟩
      have BZ := Lib.hid (HB.out.trans (hz.mono HB.out.size))
      clear hz
      go_wp2
      go_ret
      exact ⟨rfl, BZ.out⟩
    · have e1 : ¬ (300 : Int) < (n : Int) := by omega
      have d1 : decide ((300 : Int) < (n : Int)) = false := decide_eq_false e1
      by_cases g2 : 300 < n'
      · have e2 : (300 : Int) < (n' : Int) := by omega
        have d2 : decide ((300 : Int) < (n' : Int)) = true := decide_eq_true e2
        go_enter Tryd.func5, Tryd.ntmps5
        go_wp2_with fail
        (with_reducible refine (alive_any _ (HT.out _ HB.out)).mono ?_)
        rintro e z1 ⟨rfl, hz⟩
        have BZ := Lib.hid (HB.out.trans (hz.mono HB.out.size))
        clear hz
        go_wp2
        go_ret
        exact ⟨rfl, BZ.out⟩
      · have e2 : ¬ (300 : Int) < (n' : Int) := by omega
        have d2 : decide ((300 : Int) < (n' : Int)) = false := decide_eq_false e2
        have e3 : (300 : Int) < (m : Int) := by omega
        have d3 : decide ((300 : Int) < (m : Int)) = true := decide_eq_true e3
        go_enter Tryd.func5, Tryd.ntmps5
        go_wp2_with fail
        (with_reducible refine (alive_any _ (HT.out _ HB.out)).mono ?_)
        rintro e z1 ⟨rfl, hz⟩
        have BZ := Lib.hid (HB.out.trans (hz.mono HB.out.size))
        clear hz
        go_wp2
        go_ret
        exact ⟨rfl, BZ.out⟩

set_option maxRecDepth 100000 in
theorem lifted (os : Os) (started : os.Started) (H : Type) (enc : TypeId × Value → H) :
    ReturnsInHanded {} Tryd.checked os 5 .any (fun w args => (Rows.fieldOrderSpec.pre enc Tryd.prog Tryd.f5 [] false w args ∧ laidMetH Tryd.prog [("spunyarn/ienc.widths", Rows.laid_spunyarn_ienc_widths)] w) ∧ sizedMet enc Tryd.prog Tryd.f5 (OpenSpec.ofChange Rows.fieldOrderSpec) false w args) (Rows.fieldOrderSpec.post enc Tryd.prog Tryd.f5 false true false false) := by
  refine returnsInHanded_of_change_and (C := Tryd.checked) (X := fun w _ => laidMetH Tryd.prog [("spunyarn/ienc.widths", Rows.laid_spunyarn_ienc_widths)] w) (fun _ _ _ hh h => h.of_heap hh) own started (by kernel_rfl) Tryd.func5
    (ChangeSpec.witness_shaped (enc := enc) (C := Tryd.checked) (os := os) (X := fun w _ => laidMetH Tryd.prog [("spunyarn/ienc.widths", Rows.laid_spunyarn_ienc_widths)] w) false (World.doorLaid Tryd.prog 400 os) #[.agg #[.int .i64 0, .bool false], .agg #[.int .u64 0, .int .i64 0, .slice none 0 0, .bool false, .int .u64 0, .int .i64 0, .slice none 0 0, .bool false], .slice none 0 0] 8 rfl (World.shaped_of_RefB (by kernel_rfl) (by kernel_rfl)) (by kernel_rfl) (by kernel_rfl) (by kernel_rfl) (door_met os _)) ?_
  intro W base args ds gs before hval0 hW _ _ hL _
  have hval : ∀ (j : Nat) t v, Tryd.f5.params[j]? = some t → args[j]? = some v → Value.okWide Tryd.prog W .any base t v := hval0
  have hW' := hW
  obtain ⟨p, q, hA0, hV, rfl, hfz, hnd⟩ := hW
  have hA : DataW.TrodAll enc Tryd.prog W 0 (fun _ => true) true Tryd.f5.params.toList args.toList ds p := hA0
  rw [Tryd.params5] at hA hval
  obtain ⟨v0, vs0, d0, ds0, p0, q0, hargs, rfl, rfl, h0, r0⟩ := trodAll_cons hA
  obtain ⟨v1, vs1, d1, ds1, p1, q1, rfl, rfl, rfl, h1, r1⟩ := trodAll_cons r0
  obtain ⟨v2, vs2, d2, ds2, p2, q2, rfl, rfl, rfl, h2, r2⟩ := trodAll_cons r1
  obtain ⟨rfl, rfl, rfl⟩ := trodAll_nil r2
  obtain rfl : args = #[v0, v1, v2] := by cases args; simp_all
  obtain ⟨rfl, rfl⟩ := trodVars_none hV
  have k0 := h0
  have lt0 : ∀ x ∈ p0, x.block < W.heap.size := by obtain ⟨m, hm⟩ := k0; exact DataW.trod_lt m _ _ _ hm
  have k1 := h1
  have lt1 : ∀ x ∈ p1, x.block < W.heap.size := by obtain ⟨m, hm⟩ := k1; exact DataW.trod_lt m _ _ _ hm
  have k2 := h2
  have lt2 : ∀ x ∈ p2, x.block < W.heap.size := by obtain ⟨m, hm⟩ := k2; exact DataW.trod_lt m _ _ _ hm
  obtain ⟨fk0, ff0, rfl⟩ := open_fld (hval 0 23 v0 rfl rfl) h0
  obtain ⟨u1, i1, A1, n1, c1, t1, l1, u1', i1', A1', n1', c1', t1', l1', rfl, ⟨hu1, hi1, b1, nc1⟩, ⟨hu1', hi1', b1', nc1'⟩⟩ := open_vals (hval 1 48 v1 rfl rfl) h1
  obtain ⟨A2, n2, c2, l2, rfl, b2, nc2⟩ := open_byt (hval 2 25 v2 rfl rfl) h2
  clear hA0 hval0
  refine (walk fk0 ff0 u1 i1 A1 n1 c1 t1 l1 u1' i1' A1' n1' c1' t1' l1' A2 n2 c2 l2 W (of_laid hL) hu1 hi1 b1 nc1 hu1' hi1' b1' nc1' b2 nc2).mono fun e W' ⟨he, bel⟩ => ?_
  subst he
  exact ⟨_, rfl, _, _, _, [], _, [], hW', trodAll_mk1 (shut_bool Tryd.underlying4 _), (trodAll_cons_mk (Below.trod laidOut (by kernel_rfl) (of_decide_eq_true (by kernel_rfl)) k0 bel lt0) (trodAll_cons_mk (Below.trod laidOut (by kernel_rfl) (of_decide_eq_true (by kernel_rfl)) k1 bel lt1) (trodAll_cons_mk (Below.trod laidOut (by kernel_rfl) (of_decide_eq_true (by kernel_rfl)) k2 bel lt2) trodAll_mk0))), rfl, bel.frame _, fun h => by cases h⟩

theorem proved : Rows.FieldOrderSaid :=
  OpenClaim.holds_of_wide 5 Tryd.f5 rfl rfl rfl rfl rfl rfl rfl ⟨rfl, rfl, rfl, rfl, rfl⟩ rfl rfl rfl rfl rfl (by kernel_rfl) Tryd.func5 (by kernel_rfl)
    (of_decide_eq_true (by kernel_rfl)) (by unfold Func.isWrapper; first | (rw [if_pos (by decide +kernel)]; kernel_rfl) | (rw [if_neg (by decide +kernel)]; exact ⟨rfl, rfl⟩))
    (fun os started H enc _ => lifted os started H enc)
#print axioms proved

theorem card_holds : Rows.FieldOrderCardSaid :=
  Claim7.holds_tied_plain_at .later [] [.data] true _ false
    proved (fun _ h => by cases h) (by kernel_rfl) (fun _ h => by cases h) fieldOrder_row_tie rfl ⟨rfl, rfl⟩ (by kernel_rfl) rfl
    (fun f fn hf hfn => by
      obtain rfl : f = 5 := Option.some.inj ((show Tryd.prog.funcNamed "spunyarn/spunyarnlaw05.FieldOrder" = some 5 by kernel_rfl).symm.trans hf) |>.symm
      obtain rfl : fn = Tryd.f5 := (Option.some.inj (Tryd.func5.symm.trans hfn)).symm
      exact ⟨by kernel_rfl, fun j t ht => by
        rw [Tryd.params5] at ht
        have hm : t ∈ [23, 48, 25] := by simpa using Array.mem_of_getElem? ht
        have hall : ([23, 48, 25].all fun u => !Tryd.prog.wantsStandIn u) = true := by kernel_rfl
        exact (show Tryd.prog.wantsStandIn t = false by simpa using List.all_eq_true.1 hall t hm)⟩)
    (by kernel_rfl)
#print axioms card_holds
end Go.Proofs.YtknkpmkpcfiefaaDoor.fieldOrder
