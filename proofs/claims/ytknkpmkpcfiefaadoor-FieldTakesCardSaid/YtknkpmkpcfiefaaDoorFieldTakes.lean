/-
  Proved here: the value by any field that any bytes begin with, and what stands behind it, as field.Take tells them, are the document's, or refused as it refuses; nothing that came in is turned. The one condition is the card's own: the table of the widths lies as the program's text lays it (tied).
-/
import Derived.Test.YtknkpmkpcfiefaaDoorFieldAlive
import Derived.Test.YtknkpmkpcfiefaaDoorFieldRTakeB
import Derived.Test.YtknkpmkpcfiefaaDoorFieldRow
import Derived.Test.YtknkpmkpcfiefaaDoorTie
import Derived.Test.YtknkpmkpcfiefaaDoorCards
import Derived.SevenTiedAt
namespace Go.Proofs.YtknkpmkpcfiefaaDoor.fieldTakes
open Go.ChangeShapes Go.WideShapes Go.ChangeAt Go.RowKit

set_option maxRecDepth 100000 in
set_option maxHeartbeats 4000000 in
theorem walk (k : Int) (f : Bool) (A : Option Addr) (n c : Nat) (l : List UInt8) (w : World) (hT : Tab w) (ha : Byt w w.heap.size A n l) (hnc : n ≤ c) :
    Calls Tryd.prog 4 #[.agg #[.int .i64 k, .bool f], .slice A n c] w fun e w' => e = .returned (.bool true) ∧ Below w.heap.size w w' := by
  have hna : n ≤ 9223372036854775807 := by have := ha.2.1; unfold maxLen at this; omega
  have HT := Lib.hid (fun V (h : Below w.heap.size w V) => hT.below h)
  have HK := Lib.hid (fun V (h : Below w.heap.size w V) => ha.below h)
  clear ha hT
  generalize hW : w.alloc (.cells #[.int .i64 k, .bool f] 23) = W
  have G0 := Lib.hid (show Two W w.heap.size (.int .i64 k) (.bool f) from by subst hW; exact Two.new _ _ _ _)
  have B0 := Lib.hid (show Below w.heap.size w W from by subst hW; exact (Below.refl _ _).alloc (Nat.le_refl _) _)
  by_cases hg : 500 < n
  · go_enter Tryd.func4, Tryd.ntmps4
    go_wp2_with fail
    clear hW
    (with_reducible refine (alive_any _ (HT.out _ B0.out)).mono ?_)
    rintro e w1 ⟨rfl, h1⟩
    have B1 := Lib.hid (B0.out.trans (h1.mono B0.out.size))
    clear h1
    go_wp2
    go_ret
    exact ⟨rfl, B1.out⟩
  · have HX := Lib.hid (fun V (h : Below w.heap.size w V) => ftake_any k f A n c _ l V (HT.out _ h) (HK.out _ h) hnc h.size (by omega))
    have HY := Lib.hid (fun V (h : Below w.heap.size w V) => rftake_any k f A n c _ l V (HK.out _ h) hnc h.size (by omega))
    generalize turn f (tR k (turn f l)) = R at HX HY
    generalize tU k (turn f l) = U at HX HY
    generalize tI k (turn f l) = I at HX HY
    generalize tL k (turn f l) = L at HX HY
    generalize tT k (turn f l) = Q at HX HY
    generalize tE k (turn f l) = E at HX HY
    have k0 := G0.out.k0
    have k1 := G0.out.k1
    go_enter Tryd.func4, Tryd.ntmps4
    go_wp2_with fail
    clear hW
    (with_reducible refine (HX.out _ B0.out).mono ?_)
    rintro e w1 ⟨A1, n1, c1, A2, n2, c2, rfl, y1, y2, h1⟩
    have G1 := Lib.hid (G0.out.below h1 G0.out.lt)
    have B1 := Lib.hid (B0.out.trans (h1.mono B0.out.size))
    have Y1 := Lib.hid y1
    have Y2 := Lib.hid y2
    clear h1 y1 y2 k0 k1
    have k0 : ∀ ob, (w1.alloc ob).cell? ⟨w.heap.size, 0, none⟩ = some (.int .i64 k) := fun ob => (G1.out.alloc ob).k0
    have k1 : ∀ ob, (w1.alloc ob).cell? ⟨w.heap.size, 1, none⟩ = some (.bool f) := fun ob => (G1.out.alloc ob).k1
    go_wp2_with fail
    generalize hV : w1.alloc (.cells #[.int .u64 (U : Int), .int .i64 I, .slice A1 n1 c1, .bool Q] 33) = V
    have F2 := Lib.hid (show Four V w1.heap.size (.int .u64 (U : Int)) (.int .i64 I) (.slice A1 n1 c1) (.bool Q) from by subst hV; exact Four.new _ _ _ _ _ _)
    have B2 := Lib.hid (show Below w.heap.size w V from by subst hV; exact B1.out.alloc B1.out.size _)
    have Y12 := Lib.hid (show Byt V V.heap.size A1 n1 L from by subst hV; exact (Y1.out.alloc (Nat.le_refl _) _).more (by simp))
    have Y22 := Lib.hid (show Byt V V.heap.size A2 n2 R from by subst hV; exact (Y2.out.alloc (Nat.le_refl _) _).more (by simp))
    clear hV k0 k1
    (with_reducible refine (HY.out _ B2.out).mono ?_)
    rintro e w3 ⟨A3, n3, c3, A4, n4, c4, rfl, y3, y4, h3⟩
    have F3 := Lib.hid (F2.out.below h3 F2.out.lt)
    have B3 := Lib.hid (B2.out.trans (h3.mono B2.out.size))
    have Y13 := Lib.hid ((Y12.out.below h3).more h3.size)
    have Y23 := Lib.hid ((Y22.out.below h3).more h3.size)
    have Y3 := Lib.hid y3
    have Y4 := Lib.hid y4
    clear h3 y3 y4
    have f0 : ∀ ob, (w3.alloc ob).cell? ⟨w1.heap.size, 0, none⟩ = some (.int .u64 (U : Int)) := fun ob => (F3.out.alloc ob).c0
    have f1 : ∀ ob, (w3.alloc ob).cell? ⟨w1.heap.size, 1, none⟩ = some (.int .i64 I) := fun ob => (F3.out.alloc ob).c1
    have f2 : ∀ ob, (w3.alloc ob).cell? ⟨w1.heap.size, 2, none⟩ = some (.slice A1 n1 c1) := fun ob => (F3.out.alloc ob).c2
    have f3 : ∀ ob, (w3.alloc ob).cell? ⟨w1.heap.size, 3, none⟩ = some (.bool Q) := fun ob => (F3.out.alloc ob).c3
    go_wp2_with fail
    generalize hV : w3.alloc (.cells #[.int .u64 (U : Int), .int .i64 I, .slice A3 n3 c3, .bool Q] 27) = V4
    have B4 := Lib.hid (show Below w.heap.size w V4 from by subst hV; exact B3.out.alloc B3.out.size _)
    have KY := Lib.hid (show ∀ Z, Below V4.heap.size V4 Z → (Byt Z V4.heap.size A1 n1 L ∧ Byt Z V4.heap.size A3 n3 L) ∧ Byt Z V4.heap.size A2 n2 R ∧ Byt Z V4.heap.size A4 n4 R from by
      have hs : w3.heap.size ≤ V4.heap.size := by subst hV; simp
      have q1 : Byt V4 V4.heap.size A1 n1 L := by subst hV; exact (Y13.out.alloc (Nat.le_refl _) _).more hs
      have q2 : Byt V4 V4.heap.size A2 n2 R := by subst hV; exact (Y23.out.alloc (Nat.le_refl _) _).more hs
      have q3 : Byt V4 V4.heap.size A3 n3 L := by subst hV; exact (Y3.out.alloc (Nat.le_refl _) _).more hs
      have q4 : Byt V4 V4.heap.size A4 n4 R := by subst hV; exact (Y4.out.alloc (Nat.le_refl _) _).more hs
      exact fun Z h => ⟨⟨q1.below h, q3.below h⟩, q2.below h, q4.below h⟩)
    clear hV f0 f1 f2 f3 Y1 Y2 Y12 Y22 Y13 Y23 Y3 Y4
    (with_reducible refine (same_yes _ _ _ _ _ _ _ _ _ L _ _ (KY.out _ (Below.refl _ _)).1.1 (KY.out _ (Below.refl _ _)).1.2 (Nat.le_refl _)).mono ?_)
    rintro e w5 ⟨rfl, h5⟩
    have B5 := Lib.hid h5
    clear h5
    go_wp2_with fail
    (with_reducible refine (rsame_any _ _ _ _ _ _ V4.heap.size R R _ (KY.out _ B5.out).2.1 (KY.out _ B5.out).2.2).mono ?_)
    rintro e w6 ⟨rfl, h6⟩
    rw [show sameB R R = true from by simp [sameB]]
    have B6 := Lib.hid (B4.out.trans ((B5.out.trans (h6.below _)).mono B4.out.size))
    clear h6
    go_wp2_with fail
    (with_reducible refine (alive_any _ (HT.out _ B6.out)).mono ?_)
    rintro e w7 ⟨rfl, h7⟩
    have B7 := Lib.hid (B6.out.trans (h7.mono B6.out.size))
    clear h7
    go_wp2
    go_ret
    exact ⟨rfl, B7.out⟩

set_option maxRecDepth 100000 in
theorem lifted (os : Os) (started : os.Started) (H : Type) (enc : TypeId × Value → H) :
    ReturnsInHanded {} Tryd.checked os 4 .any (fun w args => (Rows.fieldTakesSpec.pre enc Tryd.prog Tryd.f4 [] false w args ∧ laidMetH Tryd.prog [("spunyarn/ienc.widths", Rows.laid_spunyarn_ienc_widths)] w) ∧ sizedMet enc Tryd.prog Tryd.f4 (OpenSpec.ofChange Rows.fieldTakesSpec) false w args) (Rows.fieldTakesSpec.post enc Tryd.prog Tryd.f4 false true false false) := by
  refine returnsInHanded_of_change_and (C := Tryd.checked) (X := fun w _ => laidMetH Tryd.prog [("spunyarn/ienc.widths", Rows.laid_spunyarn_ienc_widths)] w) (fun _ _ _ hh h => h.of_heap hh) own started (by kernel_rfl) Tryd.func4
    (ChangeSpec.witness_shaped (enc := enc) (C := Tryd.checked) (os := os) (X := fun w _ => laidMetH Tryd.prog [("spunyarn/ienc.widths", Rows.laid_spunyarn_ienc_widths)] w) false (World.doorLaid Tryd.prog 400 os) #[.agg #[.int .i64 0, .bool false], .slice none 0 0] 8 rfl (World.shaped_of_RefB (by kernel_rfl) (by kernel_rfl)) (by kernel_rfl) (by kernel_rfl) (by kernel_rfl) (door_met os _)) ?_
  intro W base args ds gs before hval0 hW _ _ hL _
  have hval : ∀ (j : Nat) t v, Tryd.f4.params[j]? = some t → args[j]? = some v → Value.okWide Tryd.prog W .any base t v := hval0
  have hW' := hW
  obtain ⟨p, q, hA0, hV, rfl, hfz, hnd⟩ := hW
  have hA : DataW.TrodAll enc Tryd.prog W 0 (fun _ => true) true Tryd.f4.params.toList args.toList ds p := hA0
  rw [Tryd.params4] at hA hval
  obtain ⟨v0, vs0, d0, ds0, p0, q0, hargs, rfl, rfl, h0, r0⟩ := trodAll_cons hA
  obtain ⟨v1, vs1, d1, ds1, p1, q1, rfl, rfl, rfl, h1, r1⟩ := trodAll_cons r0
  obtain ⟨rfl, rfl, rfl⟩ := trodAll_nil r1
  obtain rfl : args = #[v0, v1] := by cases args; simp_all
  obtain ⟨rfl, rfl⟩ := trodVars_none hV
  have k0 := h0
  have lt0 : ∀ x ∈ p0, x.block < W.heap.size := by obtain ⟨m, hm⟩ := k0; exact DataW.trod_lt m _ _ _ hm
  have k1 := h1
  have lt1 : ∀ x ∈ p1, x.block < W.heap.size := by obtain ⟨m, hm⟩ := k1; exact DataW.trod_lt m _ _ _ hm
  obtain ⟨fk0, ff0, rfl⟩ := open_fld (hval 0 23 v0 rfl rfl) h0
  obtain ⟨A1, n1, c1, l1, rfl, b1, nc1⟩ := open_byt (hval 1 25 v1 rfl rfl) h1
  clear hA0 hval0
  refine (walk fk0 ff0 A1 n1 c1 l1 W (of_laid hL) b1 nc1).mono fun e W' ⟨he, bel⟩ => ?_
  subst he
  exact ⟨_, rfl, _, _, _, [], _, [], hW', trodAll_mk1 (shut_bool Tryd.underlying4 _), (trodAll_cons_mk (Below.trod laidOut (by kernel_rfl) (of_decide_eq_true (by kernel_rfl)) k0 bel lt0) (trodAll_cons_mk (Below.trod laidOut (by kernel_rfl) (of_decide_eq_true (by kernel_rfl)) k1 bel lt1) trodAll_mk0)), rfl, bel.frame _, fun h => by cases h⟩

theorem proved : Rows.FieldTakesSaid :=
  OpenClaim.holds_of_wide 4 Tryd.f4 rfl rfl rfl rfl rfl rfl rfl ⟨rfl, rfl, rfl, rfl, rfl⟩ rfl rfl rfl rfl rfl (by kernel_rfl) Tryd.func4 (by kernel_rfl)
    (of_decide_eq_true (by kernel_rfl)) (by unfold Func.isWrapper; first | (rw [if_pos (by decide +kernel)]; kernel_rfl) | (rw [if_neg (by decide +kernel)]; exact ⟨rfl, rfl⟩))
    (fun os started H enc _ => lifted os started H enc)
#print axioms proved

theorem card_holds : Rows.FieldTakesCardSaid :=
  Claim7.holds_tied_plain_at .later [] [.data] true _ false
    proved (fun _ h => by cases h) (by kernel_rfl) (fun _ h => by cases h) fieldTakes_row_tie rfl ⟨rfl, rfl⟩ (by kernel_rfl) rfl
    (fun f fn hf hfn => by
      obtain rfl : f = 4 := Option.some.inj ((show Tryd.prog.funcNamed "spunyarn/spunyarnlaw05.FieldTakes" = some 4 by kernel_rfl).symm.trans hf) |>.symm
      obtain rfl : fn = Tryd.f4 := (Option.some.inj (Tryd.func4.symm.trans hfn)).symm
      exact ⟨by kernel_rfl, fun j t ht => by
        rw [Tryd.params4] at ht
        have hm : t ∈ [23, 25] := by simpa using Array.mem_of_getElem? ht
        have hall : ([23, 25].all fun u => !Tryd.prog.wantsStandIn u) = true := by kernel_rfl
        exact (show Tryd.prog.wantsStandIn t = false by simpa using List.all_eq_true.1 hall t hm)⟩)
    (by kernel_rfl)
#print axioms card_holds
end Go.Proofs.YtknkpmkpcfiefaaDoor.fieldTakes
