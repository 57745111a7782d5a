/-
  Proved here: the values of any bytes by any schema, and the bytes of any many first ones, as tuple.Get and First tell them, are the document's, or refused as it refuses; nothing that came in is turned. The one condition is the card's own: the tables of the widths and of the kinds' names lie as the program's text lays them (tied).
-/
import Derived.Test.YtdpddkpfllioiaaDoorTupleSame
import Derived.Test.YtdpddkpfllioiaaDoorTie
import Derived.Test.YtdpddkpfllioiaaDoorCards
import Derived.SevenTiedAt
namespace Go.Proofs.YtdpddkpfllioiaaDoor.tupleGets
open Go.ChangeShapes Go.WideShapes Go.ChangeAt Go.RowKit

set_option maxRecDepth 100000 in
set_option maxHeartbeats 4000000 in
theorem walk (A : Option Addr) (n c : Nat) (fs : List Fd) (A' : Option Addr) (n' c' : Nat) (b : List UInt8) (m : Int) (w : World) (hT : Tabs w) (ha : Fds w w.heap.size A n fs) (hac : n ≤ c) (hb : Byt w w.heap.size A' n' b) (hbc : n' ≤ c') (_ : (Lit.int .i64 m).wf = true) :
    Calls Tryd.prog 4 #[.slice A n c, .slice A' n' c', .int .i64 m] w fun e w' => e = .returned (.bool true) ∧ Below w.heap.size w w' := by
  have hm : n ≤ 9223372036854775807 := by have := ha.2.1; unfold maxLen at this; omega
  have hm' : n' ≤ 9223372036854775807 := by have := hb.2.1; unfold maxLen at this; omega
  have HT := Lib.hid (fun V (h : Below w.heap.size w V) => hT.below h)
  have HA := Lib.hid (fun V (h : Below w.heap.size w V) => And.intro (ha.below h) (hb.below h))
  clear ha hb hT
  have B0 := Lib.hid (Below.refl w.heap.size w)
  by_cases h1 : 300 < n
  · go_enter Tryd.func4, Tryd.ntmps4
    go_wp2_with fail
    (with_reducible refine (alive_any _ (HT.out _ B0.out)).mono ?_)
    rintro e wz ⟨rfl, hz⟩
    have BZ := Lib.hid (Below.trans B0.out (hz.mono (Below.size B0.out)))
    clear hz
    go_wp2
    go_ret
    exact ⟨rfl, BZ.out⟩
  · by_cases h2 : 2000 < n' ∧ n' < 65536
    · obtain ⟨h2, h3⟩ := h2
      go_enter Tryd.func4, Tryd.ntmps4
      go_wp2_with fail
      (with_reducible refine (alive_any _ (HT.out _ B0.out)).mono ?_)
      rintro e wz ⟨rfl, hz⟩
      have BZ := Lib.hid (Below.trans B0.out (hz.mono (Below.size B0.out)))
      clear hz
      go_wp2
      go_ret
      exact ⟨rfl, BZ.out⟩
    · by_cases h3 : 66000 < n'
      · have h4 : 2000 < n' := by omega
        have h5 : ¬ n' < 65536 := by omega
        go_enter Tryd.func4, Tryd.ntmps4
        go_wp2_with fail
        (with_reducible refine (alive_any _ (HT.out _ B0.out)).mono ?_)
        rintro e wz ⟨rfl, hz⟩
        have BZ := Lib.hid (Below.trans B0.out (hz.mono (Below.size B0.out)))
        clear hz
        go_wp2
        go_ret
        exact ⟨rfl, BZ.out⟩
      · by_cases h6 : 2000 < n'
        · have h4 : 2000 < n' := by omega
          have h5 : ¬ n' < 65536 := by omega
          clear h2
          go_enter Tryd.func4, Tryd.ntmps4
          go_wp2_with fail
          (with_reducible refine (fields_any A n c w.heap.size fs _ (HA.out _ B0.out).1 B0.out.size (by omega)).mono ?_)
          rintro e w2 ⟨A2, n2, c2, rfl, f2, nc2, h2⟩
          have B2 := Lib.hid (B0.out.trans (h2.mono B0.out.size))
          have F2 := Lib.hid f2
          clear h2 f2
          go_wp2_with fail
          (with_reducible refine (tget_any A2 A' n2 c2 n' c' w2.heap.size fs b w2 (HT.out _ B2.out).tab F2.out ((HA.out _ B2.out).2.more B2.out.size) hbc (Nat.le_refl _)).mono ?_)
          rintro e w3 ⟨A3, n3, c3, rfl, v3, nc3, h3⟩
          have B3 := Lib.hid (B2.out.trans (h3.mono B2.out.size))
          have V3 := Lib.hid v3
          clear h3 v3
          go_wp2_with fail
          (with_reducible refine (rtget_any A A' n c n' c' w.heap.size fs b w3 (HA.out _ B3.out).1 (HA.out _ B3.out).2 hbc B3.out.size).mono ?_)
          rintro e w4 ⟨A4, n4, c4, rfl, v4, nc4, h4⟩
          have B4 := Lib.hid (B3.out.trans (h4.mono B3.out.size))
          have V34 := Lib.hid ((V3.out.below h4).more h4.size)
          have V4 := Lib.hid v4
          clear h4 v4
          go_wp2_with fail
          (with_reducible refine (tsame_yes A3 A4 n3 n4 c3 c4 w4.heap.size _ w4 V34.out V4.out).mono ?_)
          rintro e w5 ⟨rfl, h5⟩
          have B5 := Lib.hid (B4.out.trans (h5.below _))
          clear h5
          go_wp2_with fail
          (with_reducible refine (alive_any _ (HT.out _ B5.out)).mono ?_)
          rintro e wz ⟨rfl, hz⟩
          have BZ := Lib.hid (Below.trans B5.out (hz.mono (Below.size B5.out)))
          clear hz
          go_wp2
          go_ret
          exact ⟨rfl, BZ.out⟩
        · have h4 : ¬ 2000 < n' := by omega
          clear h2
          go_enter Tryd.func4, Tryd.ntmps4
          go_wp2_with fail
          (with_reducible refine (fields_any A n c w.heap.size fs _ (HA.out _ B0.out).1 B0.out.size (by omega)).mono ?_)
          rintro e w2 ⟨A2, n2, c2, rfl, f2, nc2, h2⟩
          have B2 := Lib.hid (B0.out.trans (h2.mono B0.out.size))
          have F2 := Lib.hid f2
          clear h2 f2
          go_wp2_with fail
          (with_reducible refine (tget_any A2 A' n2 c2 n' c' w2.heap.size fs b w2 (HT.out _ B2.out).tab F2.out ((HA.out _ B2.out).2.more B2.out.size) hbc (Nat.le_refl _)).mono ?_)
          rintro e w3 ⟨A3, n3, c3, rfl, v3, nc3, h3⟩
          have B3 := Lib.hid (B2.out.trans (h3.mono B2.out.size))
          have V3 := Lib.hid v3
          clear h3 v3
          go_wp2_with fail
          (with_reducible refine (rtget_any A A' n c n' c' w.heap.size fs b w3 (HA.out _ B3.out).1 (HA.out _ B3.out).2 hbc B3.out.size).mono ?_)
          rintro e w4 ⟨A4, n4, c4, rfl, v4, nc4, h4⟩
          have B4 := Lib.hid (B3.out.trans (h4.mono B3.out.size))
          have V34 := Lib.hid ((V3.out.below h4).more h4.size)
          have V4 := Lib.hid v4
          clear h4 v4
          go_wp2_with fail
          (with_reducible refine (tsame_yes A3 A4 n3 n4 c3 c4 w4.heap.size _ w4 V34.out V4.out).mono ?_)
          rintro e w5 ⟨rfl, h5⟩
          have B5 := Lib.hid (B4.out.trans (h5.below _))
          clear h5
          go_wp2_with fail
          (with_reducible refine (fields_any A n c w.heap.size fs _ (HA.out _ B5.out).1 B5.out.size (by omega)).mono ?_)
          rintro e w6 ⟨A6, n6, c6, rfl, f6, nc6, h6⟩
          have B6 := Lib.hid (B5.out.trans (h6.mono B5.out.size))
          have F6 := Lib.hid f6
          clear h6 f6
          go_wp2_with fail
          (with_reducible refine (tfirst_any A6 A' n6 c6 n' c' w6.heap.size m fs b w6 (HT.out _ B6.out).tab F6.out nc6 ((HA.out _ B6.out).2.more B6.out.size) hbc (Nat.le_refl _) (by omega)).mono ?_)
          rintro e w7 ⟨A7, n7, c7, rfl, y7, nc7, h7⟩
          have B7 := Lib.hid (B6.out.trans (h7.mono B6.out.size))
          have Y7 := Lib.hid y7
          clear h7 y7
          go_wp2_with fail
          (with_reducible refine (rtfirst_any A A' n c n' c' w.heap.size m fs b w7 (HA.out _ B7.out).1 hac (HA.out _ B7.out).2 hbc B7.out.size (by omega)).mono ?_)
          rintro e w8 ⟨A8, n8, c8, rfl, y8, nc8, h8⟩
          have B8 := Lib.hid (B7.out.trans (h8.mono B7.out.size))
          have Y78 := Lib.hid ((Y7.out.below h8).more h8.size)
          have Y8 := Lib.hid y8
          clear h8 y8
          go_wp2_with fail
          (with_reducible refine (rsame_self A7 A8 n7 n8 c7 c8 w8.heap.size _ w8 Y78.out Y8.out).mono ?_)
          rintro e w9 ⟨rfl, h9⟩
          have B9 := Lib.hid (B8.out.trans (h9.below _))
          clear h9
          go_wp2_with fail
          (with_reducible refine (alive_any _ (HT.out _ B9.out)).mono ?_)
          rintro e wz ⟨rfl, hz⟩
          have BZ := Lib.hid (Below.trans B9.out (hz.mono (Below.size B9.out)))
          clear hz
          go_wp2
          go_ret
          exact ⟨rfl, BZ.out⟩

set_option maxRecDepth 100000 in
theorem lifted (os : Os) (started : os.Started) (H : Type) (enc : TypeId × Value → H) :
    ReturnsInHanded {} Tryd.checked os 4 .any (fun w args => (Rows.tupleGetsSpec.pre enc Tryd.prog Tryd.f4 [] false w args ∧ laidMetH Tryd.prog laid2 w) ∧ sizedMet enc Tryd.prog Tryd.f4 (OpenSpec.ofChange Rows.tupleGetsSpec) false w args) (Rows.tupleGetsSpec.post enc Tryd.prog Tryd.f4 false true false false) := by
  refine returnsInHanded_of_change_and (C := Tryd.checked) (X := fun w _ => laidMetH Tryd.prog laid2 w) (fun _ _ _ hh h => h.of_heap hh) own started (by kernel_rfl) Tryd.func4
    (ChangeSpec.witness_shaped (enc := enc) (C := Tryd.checked) (os := os) (X := fun w _ => laidMetH Tryd.prog laid2 w) false (World.doorLaid Tryd.prog 400 os) #[.slice none 0 0, .slice none 0 0, .int .i64 0] 8 rfl (World.shaped_of_RefB (by kernel_rfl) (by kernel_rfl)) (by kernel_rfl) (by kernel_rfl) (by kernel_rfl) (door_met2 os _)) ?_
  intro W base args ds gs before hval0 hW _ _ hL _
  have hval : ∀ (j : Nat) t v, Tryd.f4.params[j]? = some t → args[j]? = some v → Value.okWide Tryd.prog W .any base t v := hval0
  have hW' := hW
  obtain ⟨p, q, hA0, hV, rfl, hfz, hnd⟩ := hW
  have hA : DataW.TrodAll enc Tryd.prog W 0 (fun _ => true) true Tryd.f4.params.toList args.toList ds p := hA0
  rw [Tryd.params4] at hA hval
  obtain ⟨v0, vs0, d0, ds0, p0, q0, hargs, rfl, rfl, h0, r0⟩ := trodAll_cons hA
  obtain ⟨v1, vs1, d1, ds1, p1, q1, rfl, rfl, rfl, h1, r1⟩ := trodAll_cons r0
  obtain ⟨v2, vs2, d2, ds2, p2, q2, rfl, rfl, rfl, h2, r2⟩ := trodAll_cons r1
  obtain ⟨rfl, rfl, rfl⟩ := trodAll_nil r2
  obtain rfl : args = #[v0, v1, v2] := by cases args; simp_all
  obtain ⟨rfl, rfl⟩ := trodVars_none hV
  have k0 := h0
  have lt0 : ∀ x ∈ p0, x.block < W.heap.size := by obtain ⟨m, hm⟩ := k0; exact DataW.trod_lt m _ _ _ hm
  have k1 := h1
  have lt1 : ∀ x ∈ p1, x.block < W.heap.size := by obtain ⟨m, hm⟩ := k1; exact DataW.trod_lt m _ _ _ hm
  have k2 := h2
  have lt2 : ∀ x ∈ p2, x.block < W.heap.size := by obtain ⟨m, hm⟩ := k2; exact DataW.trod_lt m _ _ _ hm
  obtain ⟨A0, n0, c0, l0, rfl, b0, nc0⟩ := open_fds (hval 0 22 v0 rfl rfl) h0
  obtain ⟨A1, n1, c1, l1, rfl, b1, nc1⟩ := open_byt (hval 1 26 v1 rfl rfl) h1
  obtain ⟨x2, rfl, _, _, wx2⟩ := open_int Tryd.underlying3 (hval 2 3 v2 rfl rfl) h2
  clear hA0 hval0
  refine (walk A0 n0 c0 l0 A1 n1 c1 l1 x2 W (of_laid2 hL) b0 nc0 b1 nc1 wx2).mono fun e W' ⟨he, bel⟩ => ?_
  subst he
  exact ⟨_, rfl, _, _, _, [], _, [], hW', trodAll_mk1 (shut_bool Tryd.underlying4 _), (trodAll_cons_mk (Below.trod laidOut (by kernel_rfl) (of_decide_eq_true (by kernel_rfl)) k0 bel lt0) (trodAll_cons_mk (Below.trod laidOut (by kernel_rfl) (of_decide_eq_true (by kernel_rfl)) k1 bel lt1) (trodAll_cons_mk (Below.trod laidOut (by kernel_rfl) (of_decide_eq_true (by kernel_rfl)) k2 bel lt2) trodAll_mk0))), rfl, bel.frame _, fun h => by cases h⟩

theorem proved : Rows.TupleGetsSaid :=
  OpenClaim.holds_of_wide 4 Tryd.f4 rfl rfl rfl rfl rfl rfl rfl ⟨rfl, rfl, rfl, rfl, rfl⟩ rfl rfl rfl rfl rfl (by kernel_rfl) Tryd.func4 (by kernel_rfl)
    (of_decide_eq_true (by kernel_rfl)) (by unfold Func.isWrapper; first | (rw [if_pos (by decide +kernel)]; kernel_rfl) | (rw [if_neg (by decide +kernel)]; exact ⟨rfl, rfl⟩))
    (fun os started H enc _ => lifted os started H enc)
#print axioms proved

theorem card_holds : Rows.TupleGetsCardSaid :=
  Claim7.holds_tied_plain_at .later [] [.data, .data] true _ false
    proved (fun _ h => by cases h) (by kernel_rfl) (fun _ h => by cases h) tupleGets_row_tie rfl ⟨rfl, rfl⟩ (by kernel_rfl) rfl
    (fun f fn hf hfn => by
      obtain rfl : f = 4 := Option.some.inj ((show Tryd.prog.funcNamed "spunyarn/spunyarnlaw06.TupleGets" = some 4 by kernel_rfl).symm.trans hf) |>.symm
      obtain rfl : fn = Tryd.f4 := (Option.some.inj (Tryd.func4.symm.trans hfn)).symm
      exact ⟨by kernel_rfl, fun j t ht => by
        rw [Tryd.params4] at ht
        have hm : t ∈ [22, 26, 3] := by simpa using Array.mem_of_getElem? ht
        have hall : ([22, 26, 3].all fun u => !Tryd.prog.wantsStandIn u) = true := by kernel_rfl
        exact (show Tryd.prog.wantsStandIn t = false by simpa using List.all_eq_true.1 hall t hm)⟩)
    (by kernel_rfl)
#print axioms card_holds
end Go.Proofs.YtdpddkpfllioiaaDoor.tupleGets
