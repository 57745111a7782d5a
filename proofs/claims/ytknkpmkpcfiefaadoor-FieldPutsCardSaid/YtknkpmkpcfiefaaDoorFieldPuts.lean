/-
  Proved here: any value's bytes by any field, and whether that may be, as field.Put and field.Check tell them, are the document's, or refused as it refuses; with its own part alone, as field.Bare tells it, it has the same ones; nothing that came in is turned. The one condition is the card's own: the table of the widths lies as the program's text lays it (tied).
-/
import Derived.Test.YtknkpmkpcfiefaaDoorFieldPutsA
import Derived.Test.YtknkpmkpcfiefaaDoorFieldPutsB
import Derived.Test.YtknkpmkpcfiefaaDoorFieldPutsC
import Derived.Test.YtknkpmkpcfiefaaDoorFieldRow
import Derived.Test.YtknkpmkpcfiefaaDoorTie
import Derived.Test.YtknkpmkpcfiefaaDoorCards
import Derived.SevenTiedAt
namespace Go.Proofs.YtknkpmkpcfiefaaDoor.fieldPuts
open Go.ChangeShapes Go.WideShapes Go.ChangeAt Go.RowKit

set_option maxRecDepth 100000 in
set_option maxHeartbeats 4000000 in
theorem walk (k : Int) (f : Bool) (u : Nat) (i : Int) (A : Option Addr) (n c : Nat) (t : Bool) (l : List UInt8) (w : World) (hT : Tab w) (hu : u ≤ 18446744073709551615) (hi : i ≤ 9223372036854775807) (ha : Byt w w.heap.size A n l) (hnc : n ≤ c) :
    Calls Tryd.prog 3 #[.agg #[.int .i64 k, .bool f], .agg #[.int .u64 (u : Int), .int .i64 i, .slice A n c, .bool t]] w fun e w' => e = .returned (.bool true) ∧ Below w.heap.size w w' := by
  by_cases hg : 500 < n
  · have hna : n ≤ 9223372036854775807 := by have := ha.2.1; unfold maxLen at this; omega
    have HT := Lib.hid (fun V (h : Below w.heap.size w V) => hT.below h)
    clear ha hT
    have HB := Lib.hid (((Below.refl w.heap.size w).alloc (Nat.le_refl _) (.cells #[.int .i64 k, .bool f] 23)).alloc (by simp) (.cells #[.int .u64 (u : Int), .int .i64 i, .slice A n c, .bool t] 27))
    go_enter Tryd.func3, Tryd.ntmps3
    go_wp2_with fail
    (with_reducible refine (alive_any _ (HT.out _ HB.out)).mono ?_)
    rintro e w1 ⟨rfl, h1⟩
    have B1 := Lib.hid (HB.out.trans (h1.mono HB.out.size))
    clear h1
    go_wp2
    go_ret
    exact ⟨rfl, B1.out⟩
  · by_cases h1 : k < 1
    · exact walk_lo k h1 f u i A n c t l w hT hu hi ha hnc (by omega)
    · by_cases h2 : 10 < k
      · exact walk_hi k h2 f u i A n c t l w hT hu hi ha hnc (by omega)
      · exact walk_one k (by omega) f u i A n c t l w hT hu hi ha hnc (by omega)

set_option maxRecDepth 100000 in
theorem lifted (os : Os) (started : os.Started) (H : Type) (enc : TypeId × Value → H) :
    ReturnsInHanded {} Tryd.checked os 3 .any (fun w args => (Rows.fieldPutsSpec.pre enc Tryd.prog Tryd.f3 [] false w args ∧ laidMetH Tryd.prog [("spunyarn/ienc.widths", Rows.laid_spunyarn_ienc_widths)] w) ∧ sizedMet enc Tryd.prog Tryd.f3 (OpenSpec.ofChange Rows.fieldPutsSpec) false w args) (Rows.fieldPutsSpec.post enc Tryd.prog Tryd.f3 false true false false) := by
  refine returnsInHanded_of_change_and (C := Tryd.checked) (X := fun w _ => laidMetH Tryd.prog [("spunyarn/ienc.widths", Rows.laid_spunyarn_ienc_widths)] w) (fun _ _ _ hh h => h.of_heap hh) own started (by kernel_rfl) Tryd.func3
    (ChangeSpec.witness_shaped (enc := enc) (C := Tryd.checked) (os := os) (X := fun w _ => laidMetH Tryd.prog [("spunyarn/ienc.widths", Rows.laid_spunyarn_ienc_widths)] w) false (World.doorLaid Tryd.prog 400 os) #[.agg #[.int .i64 0, .bool false], .agg #[.int .u64 0, .int .i64 0, .slice none 0 0, .bool false]] 8 rfl (World.shaped_of_RefB (by kernel_rfl) (by kernel_rfl)) (by kernel_rfl) (by kernel_rfl) (by kernel_rfl) (door_met os _)) ?_
  intro W base args ds gs before hval0 hW _ _ hL _
  have hval : ∀ (j : Nat) t v, Tryd.f3.params[j]? = some t → args[j]? = some v → Value.okWide Tryd.prog W .any base t v := hval0
  have hW' := hW
  obtain ⟨p, q, hA0, hV, rfl, hfz, hnd⟩ := hW
  have hA : DataW.TrodAll enc Tryd.prog W 0 (fun _ => true) true Tryd.f3.params.toList args.toList ds p := hA0
  rw [Tryd.params3] at hA hval
  obtain ⟨v0, vs0, d0, ds0, p0, q0, hargs, rfl, rfl, h0, r0⟩ := trodAll_cons hA
  obtain ⟨v1, vs1, d1, ds1, p1, q1, rfl, rfl, rfl, h1, r1⟩ := trodAll_cons r0
  obtain ⟨rfl, rfl, rfl⟩ := trodAll_nil r1
  obtain rfl : args = #[v0, v1] := by cases args; simp_all
  obtain ⟨rfl, rfl⟩ := trodVars_none hV
  have k0 := h0
  have lt0 : ∀ x ∈ p0, x.block < W.heap.size := by obtain ⟨m, hm⟩ := k0; exact DataW.trod_lt m _ _ _ hm
  have k1 := h1
  have lt1 : ∀ x ∈ p1, x.block < W.heap.size := by obtain ⟨m, hm⟩ := k1; exact DataW.trod_lt m _ _ _ hm
  obtain ⟨fk0, ff0, rfl⟩ := open_fld (hval 0 23 v0 rfl rfl) h0
  obtain ⟨u1, i1, A1, n1, c1, t1, l1, rfl, hu1, hi1, b1, nc1⟩ := open_val (hval 1 27 v1 rfl rfl) h1
  clear hA0 hval0
  refine (walk fk0 ff0 u1 i1 A1 n1 c1 t1 l1 W (of_laid hL) hu1 hi1 b1 nc1).mono fun e W' ⟨he, bel⟩ => ?_
  subst he
  exact ⟨_, rfl, _, _, _, [], _, [], hW', trodAll_mk1 (shut_bool Tryd.underlying4 _), (trodAll_cons_mk (Below.trod laidOut (by kernel_rfl) (of_decide_eq_true (by kernel_rfl)) k0 bel lt0) (trodAll_cons_mk (Below.trod laidOut (by kernel_rfl) (of_decide_eq_true (by kernel_rfl)) k1 bel lt1) trodAll_mk0)), rfl, bel.frame _, fun h => by cases h⟩

theorem proved : Rows.FieldPutsSaid :=
  OpenClaim.holds_of_wide 3 Tryd.f3 rfl rfl rfl rfl rfl rfl rfl ⟨rfl, rfl, rfl, rfl, rfl⟩ rfl rfl rfl rfl rfl (by kernel_rfl) Tryd.func3 (by kernel_rfl)
    (of_decide_eq_true (by kernel_rfl)) (by unfold Func.isWrapper; first | (rw [if_pos (by decide +kernel)]; kernel_rfl) | (rw [if_neg (by decide +kernel)]; exact ⟨rfl, rfl⟩))
    (fun os started H enc _ => lifted os started H enc)
#print axioms proved

theorem card_holds : Rows.FieldPutsCardSaid :=
  Claim7.holds_tied_plain_at .later [] [.data] true _ false
    proved (fun _ h => by cases h) (by kernel_rfl) (fun _ h => by cases h) fieldPuts_row_tie rfl ⟨rfl, rfl⟩ (by kernel_rfl) rfl
    (fun f fn hf hfn => by
      obtain rfl : f = 3 := Option.some.inj ((show Tryd.prog.funcNamed "spunyarn/spunyarnlaw05.FieldPuts" = some 3 by kernel_rfl).symm.trans hf) |>.symm
      obtain rfl : fn = Tryd.f3 := (Option.some.inj (Tryd.func3.symm.trans hfn)).symm
      exact ⟨by kernel_rfl, fun j t ht => by
        rw [Tryd.params3] at ht
        have hm : t ∈ [23, 27] := by simpa using Array.mem_of_getElem? ht
        have hall : ([23, 27].all fun u => !Tryd.prog.wantsStandIn u) = true := by kernel_rfl
        exact (show Tryd.prog.wantsStandIn t = false by simpa using List.all_eq_true.1 hall t hm)⟩)
    (by kernel_rfl)
#print axioms card_holds
end Go.Proofs.YtknkpmkpcfiefaaDoor.fieldPuts
