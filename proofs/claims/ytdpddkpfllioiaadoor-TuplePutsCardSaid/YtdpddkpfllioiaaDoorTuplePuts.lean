/-
  Proved here: any tuple's bytes by any schema, and any schema's text, as tuple.Put, Text and Check tell them, are the document's, or refused as it refuses; nothing that came in is turned. The one condition is the card's own: the tables of the widths and of the kinds' names lie as the program's text lays them (tied).
-/
import Derived.Test.YtdpddkpfllioiaaDoorTupleTab
import Derived.Test.YtdpddkpfllioiaaDoorTupleRTxt
import Derived.Test.YtdpddkpfllioiaaDoorTupleParse
import Derived.Test.YtdpddkpfllioiaaDoorTie
import Derived.Test.YtdpddkpfllioiaaDoorCards
import Derived.SevenTiedAt
namespace Go.Proofs.YtdpddkpfllioiaaDoor.tuplePuts
open Go.ChangeShapes Go.WideShapes Go.ChangeAt Go.RowKit

set_option maxRecDepth 100000 in
set_option maxHeartbeats 4000000 in
theorem walk (A : Option Addr) (n c : Nat) (fs : List Fd) (A' : Option Addr) (n' c' : Nat) (vs : List Vl) (w : World) (hT : Tabs w) (ha : Fds w w.heap.size A n fs) (_ : n ≤ c) (hb : Vls w w.heap.size A' n' vs) (hbc : n' ≤ c') (hv : ∀ v ∈ vs, VB v) :
    Calls Tryd.prog 3 #[.slice A n c, .slice A' n' c'] w fun e w' => e = .returned (.bool true) ∧ Below w.heap.size w w' := by
  have hm : n ≤ 9223372036854775807 := by have := ha.2.1; unfold maxLen at this; omega
  have HL := Lib.hid hb.length
  have HT := Lib.hid (fun V (h : Below w.heap.size w V) => hT.below h)
  have HA := Lib.hid (fun V (h : Below w.heap.size w V) => And.intro (ha.below h) (hb.below h))
  have HVB := Lib.hid hv
  clear ha hb hT hv
  generalize hW : w.alloc (.cells #[.slice A' n' c'] 23) = W
  have B0 := Lib.hid (show Below w.heap.size w W from by subst hW; exact (Below.refl _ _).alloc (Nat.le_refl _) _)
  have HVV := Lib.hid (show VVs W W.heap.size (some ⟨w.heap.size, 0, none⟩) 1 [⟨A', n', c', vs⟩] from by
    have hbl : Blk W w.heap.size #[.slice A' n' c'] := by subst hW; exact Blk.new _ _ _
    refine ⟨⟨rfl, by unfold maxLen; omega, by simp, fun _ => ⟨_, rfl, hbl.lt, fun j i cc u hj hi => ?_⟩⟩, fun t ht => ?_⟩
    · match j, hj with
      | 0, hj =>
        simp at hj
        subst hj
        match i, hi with
        | 0, hi => simp at hi; subst hi; exact hbl.cell 0
    · simp at ht
      subst ht
      exact ⟨((HA.out _ B0.out).2.more B0.out.size), hbc⟩)
  go_enter Tryd.func3, Tryd.ntmps3
  go_wp2_with fail
  clear hW
  (with_reducible refine (far_any none (some ⟨w.heap.size, 0, none⟩) 0 0 1 1 W.heap.size _ W (by omega) HVV.out (Nat.le_refl _) (by omega)).mono ?_)
  rintro e w1 ⟨b, rfl, hsm, h1⟩
  have B1 := Lib.hid (B0.out.trans (h1.mono B0.out.size))
  clear h1 HVV
  cases b with
  | true =>
    clear hsm
    go_wp2_with fail
    (with_reducible refine (alive_any _ (HT.out _ B1.out)).mono ?_)
    rintro e wz ⟨rfl, hz⟩
    have BZ := Lib.hid (Below.trans B1.out (hz.mono (Below.size B1.out)))
    clear hz
    go_wp2
    go_ret
    exact ⟨rfl, BZ.out⟩
  | false =>
    obtain ⟨_, hsm⟩ := hsm rfl
    have HSM := Lib.hid (show Sm vs from hsm ⟨A', n', c', vs⟩ (by simp))
    have hn20 : n' ≤ 20 := by have := HSM.out.1; rw [HL.out] at this; exact this
    clear hsm
    by_cases hn : 300 < n
    · go_wp2_with fail
      (with_reducible refine (alive_any _ (HT.out _ B1.out)).mono ?_)
      rintro e wz ⟨rfl, hz⟩
      have BZ := Lib.hid (Below.trans B1.out (hz.mono (Below.size B1.out)))
      clear hz
      go_wp2
      go_ret
      exact ⟨rfl, BZ.out⟩
    · have HVL := Lib.hid (show ∀ v ∈ vs, VB v ∧ v.l.length ≤ 1000000 from fun v hv => ⟨HVB.out v hv, by have := HSM.out.2 v hv; omega⟩)
      go_wp2_with fail
      (with_reducible refine (fields_any A n c w.heap.size fs _ (HA.out _ B1.out).1 B1.out.size (by omega)).mono ?_)
      rintro e w2 ⟨A2, n2, c2, rfl, f2, nc2, h2⟩
      have B2 := Lib.hid (B1.out.trans (h2.mono B1.out.size))
      have F2 := Lib.hid f2
      clear h2 f2
      go_wp2_with fail
      (with_reducible refine (values_any A' n' c' w.heap.size vs _ (HA.out _ B2.out).2 B2.out.size (by omega)).mono ?_)
      rintro e w3 ⟨A3, n3, c3, rfl, v3, nc3, h3⟩
      have B3 := Lib.hid (B2.out.trans (h3.mono B2.out.size))
      have F3 := Lib.hid ((F2.out.below h3).more h3.size)
      have V3 := Lib.hid v3
      clear h3 v3
      go_wp2_with fail
      (with_reducible refine (tput_any A2 A3 n2 c2 n3 c3 _ fs vs _ (HT.out _ B3.out).tab F3.out V3.out (Nat.le_refl _) HVL.out).mono ?_)
      rintro e w4 ⟨A4, n4, c4, rfl, y4, nc4, h4⟩
      have B4 := Lib.hid (B3.out.trans (h4.mono B3.out.size))
      have Y4 := Lib.hid y4
      clear h4 y4
      go_wp2_with fail
      (with_reducible refine (rtput_any A A' n c n' c' w.heap.size fs vs _ (HA.out _ B4.out).1 (HA.out _ B4.out).2 B4.out.size HVL.out).mono ?_)
      rintro e w5 ⟨A5, n5, c5, rfl, y5, nc5, h5⟩
      have B5 := Lib.hid (B4.out.trans (h5.mono B4.out.size))
      have Y45 := Lib.hid ((Y4.out.below h5).more h5.size)
      have Y5 := Lib.hid y5
      clear h5 y5
      go_wp2_with fail
      (with_reducible refine (fields_any A n c w.heap.size fs _ (HA.out _ B5.out).1 B5.out.size (by omega)).mono ?_)
      rintro e w6 ⟨A6, n6, c6, rfl, f6, nc6, h6⟩
      have B6 := Lib.hid (B5.out.trans (h6.mono B5.out.size))
      have F6 := Lib.hid f6
      have Y46 := Lib.hid ((Y45.out.below h6).more h6.size)
      have Y56 := Lib.hid ((Y5.out.below h6).more h6.size)
      clear h6 f6
      go_wp2_with fail
      (with_reducible refine (ttext_any A6 n6 c6 _ fs _ (HT.out _ B6.out).nam F6.out (Nat.le_refl _)).mono ?_)
      rintro e w7 ⟨rfl, h7⟩
      have B7 := Lib.hid (B6.out.trans (h7.mono B6.out.size))
      have Y47 := Lib.hid ((Y46.out.below h7).more h7.size)
      have Y57 := Lib.hid ((Y56.out.below h7).more h7.size)
      clear h7
      go_wp2_with fail
      (with_reducible refine (rttext_any A n c w.heap.size fs _ (HA.out _ B7.out).1 B7.out.size).mono ?_)
      rintro e w8 ⟨rfl, h8⟩
      have B8 := Lib.hid (B7.out.trans (h8.mono B7.out.size))
      have Y48 := Lib.hid ((Y47.out.below h8).more h8.size)
      have Y58 := Lib.hid ((Y57.out.below h8).more h8.size)
      clear h8
      go_wp2_with fail
      (with_reducible refine (rsame_any A4 A5 n4 n5 c4 c5 w8.heap.size _ _ _ Y48.out Y58.out).mono ?_)
      rintro e w9 ⟨rfl, h9⟩
      rw [show sameB (putsL fs vs) (putsL fs vs) = true from by simp [sameB]]
      have B9 := Lib.hid (B8.out.trans (h9.below _))
      clear h9
      have hs0 : ((bst (txL fs)).toList == (bst (txL fs)).toList) = true := by simp
      go_wp2_with fail
      (with_reducible refine (fields_any A n c w.heap.size fs _ (HA.out _ B9.out).1 B9.out.size (by omega)).mono ?_)
      rintro e x1 ⟨A10, n10, c10, rfl, f10, nc10, g1⟩
      have C1 := Lib.hid (B9.out.trans (g1.mono B9.out.size))
      have F10 := Lib.hid f10
      clear g1 f10
      go_wp2_with fail
      (with_reducible refine (tcheck_any A10 n10 c10 _ fs _ F10.out (Nat.le_refl _)).mono ?_)
      rintro e x2 ⟨rfl, g2⟩
      have C2 := Lib.hid (C1.out.trans (g2.mono C1.out.size))
      clear g2
      go_wp2_with fail
      (with_reducible refine (rtcheck_any A n c w.heap.size fs _ (HA.out _ C2.out).1).mono ?_)
      rintro e x3 ⟨rfl, g3⟩
      have C3 := Lib.hid (C2.out.trans (g3.below _))
      clear g3
      go_wp2_with fail
      (with_reducible refine (alive_any _ (HT.out _ C3.out)).mono ?_)
      rintro e wz ⟨rfl, hz⟩
      have BZ := Lib.hid (Below.trans C3.out (hz.mono (Below.size C3.out)))
      clear hz
      go_wp2
      go_ret
      exact ⟨rfl, BZ.out⟩

set_option maxRecDepth 100000 in
theorem lifted (os : Os) (started : os.Started) (H : Type) (enc : TypeId × Value → H) :
    ReturnsInHanded {} Tryd.checked os 3 .any (fun w args => (Rows.tuplePutsSpec.pre enc Tryd.prog Tryd.f3 [] false w args ∧ laidMetH Tryd.prog laid2 w) ∧ sizedMet enc Tryd.prog Tryd.f3 (OpenSpec.ofChange Rows.tuplePutsSpec) false w args) (Rows.tuplePutsSpec.post enc Tryd.prog Tryd.f3 false true false false) := by
  refine returnsInHanded_of_change_and (C := Tryd.checked) (X := fun w _ => laidMetH Tryd.prog laid2 w) (fun _ _ _ hh h => h.of_heap hh) own started (by kernel_rfl) Tryd.func3
    (ChangeSpec.witness_shaped (enc := enc) (C := Tryd.checked) (os := os) (X := fun w _ => laidMetH Tryd.prog laid2 w) false (World.doorLaid Tryd.prog 400 os) #[.slice none 0 0, .slice none 0 0] 8 rfl (World.shaped_of_RefB (by kernel_rfl) (by kernel_rfl)) (by kernel_rfl) (by kernel_rfl) (by kernel_rfl) (door_met2 os _)) ?_
  intro W base args ds gs before hval0 hW _ _ hL _
  have hval : ∀ (j : Nat) t v, Tryd.f3.params[j]? = some t → args[j]? = some v → Value.okWide Tryd.prog W .any base t v := hval0
  have hW' := hW
  obtain ⟨p, q, hA0, hV, rfl, hfz, hnd⟩ := hW
  have hA : DataW.TrodAll enc Tryd.prog W 0 (fun _ => true) true Tryd.f3.params.toList args.toList ds p := hA0
  rw [Tryd.params3] at hA hval
  obtain ⟨v0, vs0, d0, ds0, p0, q0, hargs, rfl, rfl, h0, r0⟩ := trodAll_cons hA
  obtain ⟨v1, vs1, d1, ds1, p1, q1, rfl, rfl, rfl, h1, r1⟩ := trodAll_cons r0
  obtain ⟨rfl, rfl, rfl⟩ := trodAll_nil r1
  obtain rfl : args = #[v0, v1] := by cases args; simp_all
  obtain ⟨rfl, rfl⟩ := trodVars_none hV
  have k0 := h0
  have lt0 : ∀ x ∈ p0, x.block < W.heap.size := by obtain ⟨m, hm⟩ := k0; exact DataW.trod_lt m _ _ _ hm
  have k1 := h1
  have lt1 : ∀ x ∈ p1, x.block < W.heap.size := by obtain ⟨m, hm⟩ := k1; exact DataW.trod_lt m _ _ _ hm
  obtain ⟨A0, n0, c0, l0, rfl, b0, nc0⟩ := open_fds (hval 0 22 v0 rfl rfl) h0
  obtain ⟨A1, n1, c1, l1, rfl, b1, nc1, vb1⟩ := open_vls (hval 1 23 v1 rfl rfl) h1
  clear hA0 hval0
  refine (walk A0 n0 c0 l0 A1 n1 c1 l1 W (of_laid2 hL) b0 nc0 b1 nc1 vb1).mono fun e W' ⟨he, bel⟩ => ?_
  subst he
  exact ⟨_, rfl, _, _, _, [], _, [], hW', trodAll_mk1 (shut_bool Tryd.underlying4 _), (trodAll_cons_mk (Below.trod laidOut (by kernel_rfl) (of_decide_eq_true (by kernel_rfl)) k0 bel lt0) (trodAll_cons_mk (Below.trod laidOut (by kernel_rfl) (of_decide_eq_true (by kernel_rfl)) k1 bel lt1) trodAll_mk0)), rfl, bel.frame _, fun h => by cases h⟩

theorem proved : Rows.TuplePutsSaid :=
  OpenClaim.holds_of_wide 3 Tryd.f3 rfl rfl rfl rfl rfl rfl rfl ⟨rfl, rfl, rfl, rfl, rfl⟩ rfl rfl rfl rfl rfl (by kernel_rfl) Tryd.func3 (by kernel_rfl)
    (of_decide_eq_true (by kernel_rfl)) (by unfold Func.isWrapper; first | (rw [if_pos (by decide +kernel)]; kernel_rfl) | (rw [if_neg (by decide +kernel)]; exact ⟨rfl, rfl⟩))
    (fun os started H enc _ => lifted os started H enc)
#print axioms proved

theorem card_holds : Rows.TuplePutsCardSaid :=
  Claim7.holds_tied_plain_at .later [] [.data, .data] true _ false
    proved (fun _ h => by cases h) (by kernel_rfl) (fun _ h => by cases h) tuplePuts_row_tie rfl ⟨rfl, rfl⟩ (by kernel_rfl) rfl
    (fun f fn hf hfn => by
      obtain rfl : f = 3 := Option.some.inj ((show Tryd.prog.funcNamed "spunyarn/spunyarnlaw06.TuplePuts" = some 3 by kernel_rfl).symm.trans hf) |>.symm
      obtain rfl : fn = Tryd.f3 := (Option.some.inj (Tryd.func3.symm.trans hfn)).symm
      exact ⟨by kernel_rfl, fun j t ht => by
        rw [Tryd.params3] at ht
        have hm : t ∈ [22, 23] := by simpa using Array.mem_of_getElem? ht
        have hall : ([22, 23].all fun u => !Tryd.prog.wantsStandIn u) = true := by kernel_rfl
        exact (show Tryd.prog.wantsStandIn t = false by simpa using List.all_eq_true.1 hall t hm)⟩)
    (by kernel_rfl)
#print axioms card_holds
end Go.Proofs.YtdpddkpfllioiaaDoor.tuplePuts
