/-
  Proved here: the schema of any text, as tuple.Parse tells it, is the document's, or refused as it refuses; a schema's text, as tuple.Text tells it, is parsed; nothing that came in is turned. The one condition is the card's own: the tables of the widths and of the kinds' names lie as the program's text lays them (tied).
-/
import Derived.Test.YtdpddkpfllioiaaDoorTupleSame
import Derived.Test.YtdpddkpfllioiaaDoorTupleRParse
import Derived.Test.YtdpddkpfllioiaaDoorTie
import Derived.Test.YtdpddkpfllioiaaDoorCards
import Derived.SevenTiedAt
import Derived.ChangeMaps5
namespace Go.Proofs.YtdpddkpfllioiaaDoor.tupleParses
open Go.ChangeShapes Go.WideShapes Go.ChangeAt Go.RowKit
open Go.ChangeMaps (open_string)

set_option maxRecDepth 100000 in
set_option maxHeartbeats 8000000 in
theorem walk (s : ByteArray) (A : Option Addr) (n c : Nat) (fs : List Fd) (w : World) (hT : Tabs w) (hs : s.size ≤ maxLen) (ha : Fds w w.heap.size A n fs) (_ : n ≤ c) :
    Calls Tryd.prog 5 #[.string s, .slice A n c] w fun e w' => e = .returned (.bool true) ∧ Below w.heap.size w w' := by
  obtain ⟨l, rfl⟩ : ∃ l, s = bst l := ⟨s.data.toList, (bst_of s).symm⟩
  have hsz : (bst l).size = l.length := bst_size l
  have hll : l.length ≤ 9223372036854775807 := by rw [hsz] at hs; unfold maxLen at hs; omega
  have hm : n ≤ 9223372036854775807 := by have := ha.2.1; unfold maxLen at this; omega
  have HN := Lib.hid ha.length
  have HT := Lib.hid (fun V (h : Below w.heap.size w V) => hT.below h)
  have HA := Lib.hid (fun V (h : Below w.heap.size w V) => ha.below h)
  clear ha hT hs
  have B0 := Lib.hid (Below.refl w.heap.size w)
  by_cases h1 : 3000 < l.length
  · go_enter Tryd.func5, Tryd.ntmps5
    go_wp2_with fail
    (with_reducible refine (alive_any _ (HT.out _ B0.out)).mono ?_)
    rintro e wz ⟨rfl, hz⟩
    have BZ := Lib.hid (Below.trans B0.out (hz.mono (Below.size B0.out)))
    clear hz
    go_wp2
    go_ret
    exact ⟨rfl, BZ.out⟩
  · by_cases h2 : 300 < n
    · go_enter Tryd.func5, Tryd.ntmps5
      go_wp2_with fail
      (with_reducible refine (alive_any _ (HT.out _ B0.out)).mono ?_)
      rintro e wz ⟨rfl, hz⟩
      have BZ := Lib.hid (Below.trans B0.out (hz.mono (Below.size B0.out)))
      clear hz
      go_wp2
      go_ret
      exact ⟨rfl, BZ.out⟩
    · go_enter Tryd.func5, Tryd.ntmps5
      go_wp2_with fail
      (with_reducible refine (tparse_any l w (HT.out _ B0.out).nam (by omega)).mono ?_)
      rintro e w2 ⟨A2, n2, c2, rfl, f2, nc2, h2⟩
      have B2 := Lib.hid (B0.out.trans (h2.mono B0.out.size))
      have F2 := Lib.hid f2
      clear h2 f2
      go_wp2_with fail
      (with_reducible refine (rtparse_any l w2 (by omega)).mono ?_)
      rintro e w3 ⟨A3, n3, c3, rfl, f3, nc3, h3⟩
      obtain rfl : n2 = n3 := F2.out.length.symm.trans f3.length
      have hm2 : n2 ≤ 9223372036854775807 := by have := f3.2.1; unfold maxLen at this; omega
      have B3 := Lib.hid (B2.out.trans (h3.mono B2.out.size))
      have F23 := Lib.hid ((F2.out.below h3).more h3.size)
      have F3 := Lib.hid f3
      clear h3 f3
      go_wp2
      go_loopw [46] (fun i wr => ∃ k : Nat, k ≤ n2 ∧ i = .int .i64 k ∧ Still w3 wr) (fun i _ => n2 - (intOf i).toNat)
      case atStart => exact ⟨0, Nat.zero_le _, rfl, Still.refl _⟩
      case round =>
        obtain ⟨k, hk, rfl, q, rfl⟩ := hrel
        by_cases hlt : k < n2
        · obtain ⟨ad, f, rfl, _, hf, c0, c1⟩ := F23.out.at_ hlt
          obtain ⟨ad', f', rfl, _, hf', d0, d1⟩ := F3.out.at_ hlt
          obtain rfl : f = f' := by rw [hf] at hf'; exact Option.some.inj hf'
          clear hf hf'
          have i4 : (k : Int) < (n2 : Int) := by omega
          go_wp2_with fail
          go_quiet (fail)
          go_wp2
          exact ⟨⟨k + 1, by omega, by go_num, (by repeat (first | exact Still.refl _ | apply Still.step))⟩, by simp [intOf]; omega⟩
        · have HSt := Lib.hid (show Still w3 (w3.drewN q) from ⟨q, rfl⟩)
          have BL := Lib.hid (B3.out.trans (HSt.out.below _))
          generalize w3.drewN q = wl at BL
          go_wp2_with fail
          (with_reducible refine (fields_any A n c w.heap.size fs _ (HA.out _ BL.out) BL.out.size (by omega)).mono ?_)
          rintro e w4 ⟨A4, n4, c4, rfl, f4, nc4, h4⟩
          have B4 := Lib.hid (BL.out.trans (h4.mono BL.out.size))
          have F4 := Lib.hid f4
          clear h4 f4
          have HTX := Lib.hid (ttext_any A4 n4 c4 _ fs w4 (HT.out _ B4.out).nam F4.out (Nat.le_refl _))
          generalize hC : chkL fs = C at HTX
          have HC := Lib.hid hC
          clear hC
          go_wp2_with fail
          (with_reducible refine HTX.out.mono ?_)
          rintro e w5 ⟨rfl, h5⟩
          have B5 := Lib.hid (B4.out.trans (h5.mono B4.out.size))
          clear h5
          by_cases hc : C = 0
          · subst hc
            have HX := Lib.hid (show Calls Tryd.prog 23 #[.string (bst (txL fs))] w5 (PrPost w5 fs 0) from by
              have e : txL fs = textT fs := if_pos HC.out
              rw [e]
              obtain ⟨q1, q2⟩ := text_parse HC.out
              have q := tparse_any (textT fs) w5 (HT.out _ B5.out).nam (by have := join_length fs; rw [HN.out] at this; omega)
              rw [q1, q2] at q
              exact q)
            go_wp2_with fail
            (with_reducible refine HX.out.mono ?_)
            rintro e w6 ⟨A6, n6, c6, rfl, f6, nc6, h6⟩
            obtain rfl : n6 = n := f6.length.symm.trans HN.out
            have B6 := Lib.hid (B5.out.trans (h6.mono B5.out.size))
            have F6 := Lib.hid f6
            have FS6 := Lib.hid ((HA.out _ B6.out).more B6.out.size)
            clear h6 f6
            go_wp2
            go_loopw [84] (fun i wr => ∃ k : Nat, k ≤ n6 ∧ i = .int .i64 k ∧ Still w6 wr) (fun i _ => n6 - (intOf i).toNat)
            case atStart => exact ⟨0, Nat.zero_le _, rfl, Still.refl _⟩
            case round =>
              obtain ⟨k, hk, rfl, q, rfl⟩ := hrel
              by_cases hlt : k < n6
              · obtain ⟨ad, f, rfl, _, hf, c0, c1⟩ := F6.out.at_ hlt
                obtain ⟨ad', f', rfl, _, hf', d0, d1⟩ := FS6.out.at_ hlt
                obtain rfl : f = f' := by rw [hf] at hf'; exact Option.some.inj hf'
                clear hf hf'
                have i4 : (k : Int) < (n6 : Int) := by omega
                go_wp2_with fail
                go_quiet (fail)
                go_wp2
                exact ⟨⟨k + 1, by omega, by go_num, (by repeat (first | exact Still.refl _ | apply Still.step))⟩, by simp [intOf]; omega⟩
              · have HSt := Lib.hid (show Still w6 (w6.drewN q) from ⟨q, rfl⟩)
                have BL := Lib.hid (B6.out.trans (HSt.out.below _))
                generalize w6.drewN q = wl at BL
                go_wp2_with fail
                (with_reducible refine (alive_any _ (HT.out _ BL.out)).mono ?_)
                rintro e wz ⟨rfl, hz⟩
                have BZ := Lib.hid (Below.trans BL.out (hz.mono (Below.size BL.out)))
                clear hz
                go_wp2
                go_ret
                exact ⟨rfl, BZ.out⟩
          · go_wp2_with fail
            (with_reducible refine (alive_any _ (HT.out _ B5.out)).mono ?_)
            rintro e wz ⟨rfl, hz⟩
            have BZ := Lib.hid (Below.trans B5.out (hz.mono (Below.size B5.out)))
            clear hz
            go_wp2
            go_ret
            exact ⟨rfl, BZ.out⟩

set_option maxRecDepth 100000 in
theorem lifted (os : Os) (started : os.Started) (H : Type) (enc : TypeId × Value → H) :
    ReturnsInHanded {} Tryd.checked os 5 .any (fun w args => (Rows.tupleParsesSpec.pre enc Tryd.prog Tryd.f5 [] false w args ∧ laidMetH Tryd.prog laid2 w) ∧ sizedMet enc Tryd.prog Tryd.f5 (OpenSpec.ofChange Rows.tupleParsesSpec) false w args) (Rows.tupleParsesSpec.post enc Tryd.prog Tryd.f5 false true false false) := by
  refine returnsInHanded_of_change_and (C := Tryd.checked) (X := fun w _ => laidMetH Tryd.prog laid2 w) (fun _ _ _ hh h => h.of_heap hh) own started (by kernel_rfl) Tryd.func5
    (ChangeSpec.witness_shaped (enc := enc) (C := Tryd.checked) (os := os) (X := fun w _ => laidMetH Tryd.prog laid2 w) false (World.doorLaid Tryd.prog 400 os) #[.string .empty, .slice none 0 0] 8 rfl (World.shaped_of_RefB (by kernel_rfl) (by kernel_rfl)) (by kernel_rfl) (by kernel_rfl) (by kernel_rfl) (door_met2 os _)) ?_
  intro W base args ds gs before hval0 hW _ _ hL _
  have hval : ∀ (j : Nat) t v, Tryd.f5.params[j]? = some t → args[j]? = some v → Value.okWide Tryd.prog W .any base t v := hval0
  have hW' := hW
  obtain ⟨p, q, hA0, hV, rfl, hfz, hnd⟩ := hW
  have hA : DataW.TrodAll enc Tryd.prog W 0 (fun _ => true) true Tryd.f5.params.toList args.toList ds p := hA0
  rw [Tryd.params5] at hA hval
  obtain ⟨v0, vs0, d0, ds0, p0, q0, hargs, rfl, rfl, h0, r0⟩ := trodAll_cons hA
  obtain ⟨v1, vs1, d1, ds1, p1, q1, rfl, rfl, rfl, h1, r1⟩ := trodAll_cons r0
  obtain ⟨rfl, rfl, rfl⟩ := trodAll_nil r1
  obtain rfl : args = #[v0, v1] := by cases args; simp_all
  obtain ⟨rfl, rfl⟩ := trodVars_none hV
  have k0 := h0
  have lt0 : ∀ x ∈ p0, x.block < W.heap.size := by obtain ⟨m, hm⟩ := k0; exact DataW.trod_lt m _ _ _ hm
  have k1 := h1
  have lt1 : ∀ x ∈ p1, x.block < W.heap.size := by obtain ⟨m, hm⟩ := k1; exact DataW.trod_lt m _ _ _ hm
  obtain ⟨s0, rfl, _, _, hs0⟩ := open_string Tryd.underlying9 (hval 0 9 v0 rfl rfl) h0
  obtain ⟨A1, n1, c1, l1, rfl, b1, nc1⟩ := open_fds (hval 1 22 v1 rfl rfl) h1
  clear hA0 hval0
  refine (walk s0 A1 n1 c1 l1 W (of_laid2 hL) hs0 b1 nc1).mono fun e W' ⟨he, bel⟩ => ?_
  subst he
  exact ⟨_, rfl, _, _, _, [], _, [], hW', trodAll_mk1 (shut_bool Tryd.underlying4 _), (trodAll_cons_mk (Below.trod laidOut (by kernel_rfl) (of_decide_eq_true (by kernel_rfl)) k0 bel lt0) (trodAll_cons_mk (Below.trod laidOut (by kernel_rfl) (of_decide_eq_true (by kernel_rfl)) k1 bel lt1) trodAll_mk0)), rfl, bel.frame _, fun h => by cases h⟩

theorem proved : Rows.TupleParsesSaid :=
  OpenClaim.holds_of_wide 5 Tryd.f5 rfl rfl rfl rfl rfl rfl rfl ⟨rfl, rfl, rfl, rfl, rfl⟩ rfl rfl rfl rfl rfl (by kernel_rfl) Tryd.func5 (by kernel_rfl)
    (of_decide_eq_true (by kernel_rfl)) (by unfold Func.isWrapper; first | (rw [if_pos (by decide +kernel)]; kernel_rfl) | (rw [if_neg (by decide +kernel)]; exact ⟨rfl, rfl⟩))
    (fun os started H enc _ => lifted os started H enc)
#print axioms proved

theorem card_holds : Rows.TupleParsesCardSaid :=
  Claim7.holds_tied_plain_at .later [] [.data, .data] true _ false
    proved (fun _ h => by cases h) (by kernel_rfl) (fun _ h => by cases h) tupleParses_row_tie rfl ⟨rfl, rfl⟩ (by kernel_rfl) rfl
    (fun f fn hf hfn => by
      obtain rfl : f = 5 := Option.some.inj ((show Tryd.prog.funcNamed "spunyarn/spunyarnlaw06.TupleParses" = some 5 by kernel_rfl).symm.trans hf) |>.symm
      obtain rfl : fn = Tryd.f5 := (Option.some.inj (Tryd.func5.symm.trans hfn)).symm
      exact ⟨by kernel_rfl, fun j t ht => by
        rw [Tryd.params5] at ht
        have hm : t ∈ [9, 22] := by simpa using Array.mem_of_getElem? ht
        have hall : ([9, 22].all fun u => !Tryd.prog.wantsStandIn u) = true := by kernel_rfl
        exact (show Tryd.prog.wantsStandIn t = false by simpa using List.all_eq_true.1 hall t hm)⟩)
    (by kernel_rfl)
#print axioms card_holds
end Go.Proofs.YtdpddkpfllioiaaDoor.tupleParses
