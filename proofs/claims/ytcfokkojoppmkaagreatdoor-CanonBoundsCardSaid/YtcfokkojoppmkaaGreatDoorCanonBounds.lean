/-
  Proved here: of any keys, at least one, there are fewer points than keys, and no more nodes on a way than the longest key has bytes, and one; nothing that came in is turned. The one condition is the card's own: the table of the powers of ten lies as the program's library lays it (tied).
-/
import Derived.Test.YtcfokkojoppmkaaGreatDoorCnAlive
import Derived.Test.YtcfokkojoppmkaaGreatDoorPowTab
import Derived.Test.YtcfokkojoppmkaaGreatDoorCanonQ
import Derived.Test.YtcfokkojoppmkaaGreatDoorCnLaw
import Derived.Test.YtcfokkojoppmkaaGreatDoorSort
import Derived.Test.YtcfokkojoppmkaaGreatDoorRow
import Derived.Test.YtcfokkojoppmkaaGreatDoorTie
import Derived.Test.YtcfokkojoppmkaaGreatDoorCards
import Derived.SevenTiedAt
namespace Go.Proofs.YtcfokkojoppmkaaGreatDoor.canonBounds
open Go.ChangeShapes Go.WideShapes Go.ChangeAt Go.RowKit

theorem far_no {ps : List PV} {many : Nat} (h : farP ps many = false) : ps.length ≤ many ∧ ∀ p ∈ ps, p.key.length ≤ 300 := by
  unfold farP at h
  rw [Bool.or_eq_false_iff] at h
  obtain ⟨h1, h2⟩ := h
  refine ⟨by have := of_decide_eq_false h1; omega, fun p hp => ?_⟩
  have := List.any_eq_false.1 h2 p hp
  simp at this
  omega
theorem chk_ok {ps : List PV} (hr : Rsn ps) (hk : ∀ p ∈ ps, p.key.length ≤ 65535) : chkV (ps.map PV.key) = 0 := by
  unfold chkV
  have hb : bigB (ps.map PV.key) = false := by
    unfold bigB
    rw [List.any_map, List.any_eq_false]
    intro p hp
    have := hk p hp
    simp
    omega
  rw [hb, rsn_keys hr]
  rfl

set_option maxRecDepth 100000 in
set_option maxHeartbeats 4000000 in
theorem walk (A : Option Addr) (n c : Nat) (ps : List PV) (W : World) (htb : Tb W) (ha : Prs W W.heap.size A n ps) (hk : Kps W W.heap.size ps) (_ : n ≤ c) (_ : ∀ p ∈ ps, 0 ≤ p.val ∧ p.val ≤ 18446744073709551615) :
    Calls Tryz.prog 5 #[.slice A n c] W fun e w' => e = .returned (.bool true) ∧ Below W.heap.size W w' := by
  have hle : 0 < W.heap.size := htb.lt
  have HAL := Lib.hid (fun (V : World) (hb : Below W.heap.size W V) => calive_any V (htb.below hb hle))
  have H1 := Lib.hid (show Calls Tryz.prog 9 #[.slice A n c, .int .i64 200] W _ from cfar_any A n c W.heap.size 200 ps W ha (Nat.le_refl _) (by omega))
  have HA := Lib.hid ha
  have HK := Lib.hid hk
  have hln : ps.length = n := ha.1
  have hn9 : n ≤ 9223372036854775807 := by have := ha.2.1; unfold maxLen at this; omega
  have HLN := Lib.hid hln
  clear ha hk htb hle hln
  go_enter Tryz.func5, Tryz.ntmps5
  go_wp2_with fail
  (with_reducible refine H1.out.mono ?_)
  rintro e w1 ⟨rfl, b1⟩
  have B1 := Lib.hid b1
  obtain ⟨fb, hfb⟩ : ∃ b, farP ps 200 = b := ⟨_, rfl⟩
  rw [hfb]
  have HFB := Lib.hid hfb
  clear b1 hfb H1
  cases fb with
  | true =>
    have H2 := Lib.hid (HAL.out w1 B1.out)
    go_wp2_with fail
    (with_reducible refine H2.out.mono ?_)
    rintro e w2 ⟨rfl, b2⟩
    have B2 := Lib.hid (B1.out.trans (b2.mono B1.out.size))
    clear b2
    go_wp2_with fail
    go_ret
    exact ⟨rfl, B2.out⟩
  | false =>
    by_cases h0 : n = 0
    · have H2 := Lib.hid (HAL.out w1 B1.out)
      go_wp2_with fail
      (with_reducible refine H2.out.mono ?_)
      rintro e w2 ⟨rfl, b2⟩
      have B2 := Lib.hid (B1.out.trans (b2.mono B1.out.size))
      clear b2
      go_wp2_with fail
      go_ret
      exact ⟨rfl, B2.out⟩
    · obtain ⟨f1, f2⟩ := far_no HFB.out
      have hn200 : n ≤ 200 := by have := HLN.out; omega
      have F2 := Lib.hid f2
      have HS := Lib.hid (rsort_any A n c W.heap.size ps w1 (HA.out.below B1.out) (HK.out.below B1.out) B1.out.size (by omega))
      clear f1 f2
      go_wp2_with fail
      (with_reducible refine HS.out.mono ?_)
      rintro e w2 ⟨A2, c2, rfl, hc2, p2, g2, b2⟩
      obtain ⟨ps2, hps2⟩ : ∃ l, sortS ps = l := ⟨_, rfl⟩
      obtain ⟨n2, hn2⟩ : ∃ k, (sortS ps).length = k := ⟨_, rfl⟩
      have hn2a : 1 ≤ n2 ∧ n2 ≤ 200 := by
        have := sortS_len ps
        have hne : ps ≠ [] := fun q => by have h := HLN.out; rw [q] at h; simp at h; omega
        have := this.2 hne
        have := HLN.out
        omega
      have hrs : Rsn ps2 := hps2 ▸ sortS_rise ps
      have hk2 : ∀ p ∈ ps2, p.key.length ≤ 300 := hps2 ▸ sortS_all (P := fun p => p.key.length ≤ 300) (fun _ _ h _ => h) F2.out
      have hkp : ∀ V, Below W.heap.size W V → Kps V W.heap.size ps2 := fun V hb => hps2 ▸ Kps.sort (HK.out.below hb)
      rw [hn2] at p2 g2 hc2 ⊢
      rw [hps2] at p2 hn2
      have b2' : Below W.heap.size W w2 := B1.out.trans (b2.mono B1.out.size)
      obtain ⟨w3, hw3⟩ : ∃ V, w2.alloc (.cells #[.int .i64 0] 31) = V := ⟨_, rfl⟩
      have b3 : Below w2.heap.size w2 w3 := by rw [← hw3]; exact (Below.refl _ _).alloc (Nat.le_refl _) _
      have s3 : w3.heap.size = w2.heap.size + 1 := by rw [← hw3]; simp
      have m3 : Blk w3 w2.heap.size #[.int .i64 0] := by rw [← hw3]; exact Blk.new w2 _ _
      have b3' : Below W.heap.size W w3 := b2'.trans (b3.mono b2'.size)
      have HP := Lib.hid (cpairs_any A2 n2 c2 w2.heap.size ps2 w3 (p2.below b3) ((hkp w3 b3').more b2'.size) (by omega) (by omega))
      have HW3 := Lib.hid hw3
      have B2 := Lib.hid b2'
      have B3 := Lib.hid b3'
      have B23 := Lib.hid b3
      have P2 := Lib.hid p2
      have HRS := Lib.hid hrs
      have HK2 := Lib.hid hk2
      have HKP := Lib.hid hkp
      have HN2 := Lib.hid hn2
      have M3 := Lib.hid m3
      clear hps2 hrs hk2 hkp p2 g2 b2 b2' b3 b3' hw3 m3 hn2 HS
      go_wp2_with fail
      rw [HW3.out]
      (with_reducible refine HP.out.mono ?_)
      rintro e w4 ⟨A4, c4, rfl, hc4, p4, g4, b4⟩
      have b4' : Below W.heap.size W w4 := B3.out.trans (b4.mono B3.out.size)
      have hq4 : w2.heap.size < w3.heap.size := by omega
      have pm := PrM.of_prs (m := some w2.heap.size) (B0 := W.heap.size) (base := w3.heap.size) p4 (Nat.le_refl _) (HKP.out w4 b4') g4 (fun i e => by injection e with e; subst e; exact ⟨B2.out.size, hq4⟩)
      have hne2 : ps2 ≠ [] := fun q => by have h := HN2.out; rw [q] at h; simp at h; omega
      obtain ⟨T, hT⟩ : ∃ T, cT 1 301 (rel 0 ps2) = T := ⟨_, rfl⟩
      have hcan : CanF (ps2.map fun p => (p.key, p.val)) T := hT ▸ can_of 1 (f := 301) HRS.out hne2 (fun p hp => by have := HK2.out p hp; omega)
      have hbT : bTr 1 301 (rel 0 ps2) = some T := by
        unfold bTr
        rw [if_neg (fun q => by have := congrArg List.length q; rw [rel_len] at this; exact hne2 (List.eq_nil_of_length_eq_zero this)), hT]
      have hLl : (ps2.map fun p => (p.key, p.val)).length = n2 := by rw [List.length_map]; exact HN2.out
      have hpt := hcan.points
      have hnd := hcan.nodes
      have hct := hcan.count
      rw [hLl] at hpt hnd hct
      have hmt : Mt w4 (some w2.heap.size) [] 0 := fun g e => by
        injection e with e
        subst e
        exact ⟨M3.out.below b4 hq4, Int.le_refl _, by omega⟩
      have hb := cbuild_any (o := 1) (by omega) 301 n2 c4 w4.heap.size A4 ps2 (some w2.heap.size) [] 0 w4 pm (Nat.le_refl _) (by omega) hc4 (fun p hp => by have := HK2.out p hp; omega) hmt (by rw [hbT]; show (0 : Int) + (tnT T : Nat) ≤ _; omega)
      rw [hbT, chk_ok HRS.out (fun p hp => by have := HK2.out p hp; omega)] at hb
      have HBD := Lib.hid (show Calls Tryz.prog 11 #[.pointer (some ⟨w2.heap.size, 0, none⟩), .int .u64 1, .slice A4 n2 c4] w4 (CbPost w4 (some w2.heap.size) [] 0 (some T)) from hb.mono (fun e w' h => h.1 rfl))
      have HCN := Lib.hid hcan
      have HCT := Lib.hid hct
      have B4 := Lib.hid b4'
      have B34 := Lib.hid b4
      obtain ⟨np, hnp⟩ : ∃ k, (pointV (otvis (some T))).length = k := ⟨_, rfl⟩
      rw [hnp] at hpt hnd
      obtain ⟨nt, hnt⟩ : ∃ k, tnT T = k := ⟨_, rfl⟩
      rw [hnt] at hnd
      have HNP := Lib.hid hnp
      have HNT := Lib.hid hnt
      clear pm hbT hT hcan hLl hmt hb p4 g4 b4 b4' HP hct hnp hnt hne2
      go_wp2_with fail
      (with_reducible refine HBD.out.mono ?_)
      rintro e w5 ⟨p, rfl, t5, k5, l5⟩
      have t5' := t5.here
      have l5' : Lst w5 w2.heap.size [.int .i64 (nt : Int)] := by
        have := l5 _ rfl
        rw [show (0 : Int) + (otn (some T) : Nat) = (nt : Int) by rw [← HNT.out]; simp [otn]] at this
        exact this
      have b5 : Below W.heap.size W w5 := B4.out.trans (k5.below B4.out.size (fun i e => by injection e with e; have := B2.out.size; omega))
      have b25 : Below w2.heap.size w2 w5 := ((B23.out).trans (B34.out.mono (by omega))).trans (k5.below (by have := B34.out.size; omega) (fun i e => by injection e with e; omega))
      have p5 : Prs w5 w2.heap.size A2 n2 ps2 := P2.out.below b25
      have T5 := Lib.hid t5'
      have L5 := Lib.hid l5'
      have B5 := Lib.hid b5
      have P5 := Lib.hid p5
      have S25 := Lib.hid b25.size
      clear t5 t5' k5 l5 l5' b5 b25 p5 HBD
      go_wp2_with fail
      go_loopw [6, 28] (fun s6 i wr => ∃ k lg : Nat, k ≤ n2 ∧ i = .int .i64 k ∧ s6 = .int .i64 lg ∧ lg ≤ 300 ∧ Hid (∀ j p, j < k → ps2[j]? = some p → p.key.length ≤ lg) ∧ Hid (Below w5.heap.size w5 wr)) (fun _ i _ => n2 - (intOf i).toNat)
      case atStart => exact ⟨0, 0, Nat.zero_le _, rfl, rfl, by omega, Lib.hid (fun j p hj => by omega), Lib.hid (Below.refl _ _)⟩
      case round =>
        obtain ⟨k, lg, hk, rfl, rfl, hlg, HL, HB⟩ := hrel
        by_cases h1 : k < n2
        · obtain ⟨ad, p', rfl, hlt, e1, c1, c2x, by1⟩ := (P5.out.below (HB.out.mono S25.out)).at_ h1
          have hpn : p'.n = p'.key.length := by1.1.symm
          have hk3 := HK2.out p' (List.mem_of_getElem? e1)
          rw [← add_of_add] at c2x
          have c2' : wr.cell? ⟨(ad.add (k * 2)).block, (ad.add (k * 2)).off + 1, none⟩ = some (.int .u64 p'.val) := c2x
          have HB2 := Lib.hid (HB.out.alloc HB.out.size (.cells #[.slice p'.A p'.n p'.c, .int .u64 p'.val] 65))
          have HST := Lib.hid (show ∀ lg' : Nat, lg ≤ lg' → p'.n ≤ lg' → ∀ j q, j < k + 1 → ps2[j]? = some q → q.key.length ≤ lg' from fun lg' h2 h3 j q hj hq => by
            rcases Nat.lt_or_ge j k with h | h
            · have := HL.out j q h hq; omega
            · have : j = k := by omega
              subst this
              rw [e1] at hq
              injection hq with hq
              subst hq
              omega)
          have hpm : p'.n ≤ 300 := by omega
          clear by1 e1 hpn hk3 c2x
          by_cases hmx : lg < p'.n
          · go_wp2
            exact ⟨⟨k + 1, p'.n, by omega, by go_num, by go_num, by omega, Lib.hid (HST.out p'.n (by omega) (Nat.le_refl _)), HB2⟩, by simp [intOf]; omega⟩
          · go_wp2
            exact ⟨⟨k + 1, lg, by omega, by go_num, by go_num, by omega, Lib.hid (HST.out lg (Nat.le_refl _) (by omega)), HB2⟩, by simp [intOf]; omega⟩
        · obtain rfl : k = n2 := by omega
          have hmost : ∀ q ∈ (ps2.map fun p => (p.key, p.val)), q.1.length ≤ lg := fun q hq => by
            obtain ⟨z, hz, rfl⟩ := List.mem_map.1 hq
            obtain ⟨j, hj⟩ := List.mem_iff_getElem?.1 hz
            exact HL.out j z (by have := (List.getElem?_eq_some_iff.1 hj).1; have := HN2.out; omega) hj
          have hdp := HCN.out.depth hmost
          obtain ⟨dp, hdpe⟩ : ∃ d, dpV (otvis (some T)) = d := ⟨_, rfl⟩
          rw [hdpe] at hdp
          have HDP := Lib.hid hdpe
          have hfit : Fits (some T) := HCN.out.fits (fun q hq => by have := hmost q hq; omega) (by rw [List.length_map]; have := HN2.out; omega)
          have HFT := Lib.hid hfit
          have t6 := T5.out.below HB.out
          have T6 := Lib.hid t6
          have H12 := Lib.hid (cpoints_any _ _ wr t6 hfit)
          clear hmost hdpe hfit t6
          go_wp2_with fail
          (with_reducible refine H12.out.mono ?_)
          rintro e w7 ⟨A7, c7, y7, rfl, _, _, l7, q7⟩
          have hl7 : y7.length = np := by
            have := congrArg List.length l7
            rw [List.length_map, HNP.out] at this
            exact this
          rw [hl7]
          have b57 := HB.out.trans (q7.mono HB.out.size)
          have HCO := Lib.hid (count_any (g := w2.heap.size) (m := (nt : Int)) (w := w7) (((L5.out).below b57 (by have := Blk.lt L5.out; exact this)).cell 0))
          have T7 := Lib.hid (T6.out.below q7)
          have B57 := Lib.hid b57
          clear l7 hl7 q7 b57 H12
          go_wp2_with fail
          (with_reducible refine HCO.out.mono ?_)
          rintro e w8 ⟨rfl, rfl⟩
          have h13 := cdepth_any _ _ w8 T7.out HFT.out
          rw [HDP.out] at h13
          have H13 := Lib.hid h13
          clear h13
          go_wp2_with fail
          (with_reducible refine H13.out.mono ?_)
          rintro e w9 ⟨rfl, q9⟩
          have h14 := ccount_any _ _ w9 (T7.out.below q9) HFT.out
          rw [HCT.out] at h14
          have H14 := Lib.hid h14
          have B59 := Lib.hid (B57.out.trans (q9.mono B57.out.size))
          clear h14 q9
          go_wp2_with fail
          (with_reducible refine H14.out.mono ?_)
          rintro e w10 ⟨rfl, q10⟩
          have b10 : Below W.heap.size W w10 := B5.out.trans ((B59.out.trans (q10.mono B59.out.size)).mono B5.out.size)
          have H15 := Lib.hid (HAL.out w10 b10)
          have B10 := Lib.hid b10
          clear b10 q10
          go_wp2_with fail
          (with_reducible refine H15.out.mono ?_)
          rintro e w11 ⟨rfl, q11⟩
          have B11 := Lib.hid (B10.out.trans (q11.mono B10.out.size))
          clear q11
          go_wp2_with fail
          go_ret
          exact ⟨rfl, B11.out⟩
set_option maxRecDepth 100000 in
theorem lifted (os : Os) (started : os.Started) (H : Type) (enc : TypeId × Value → H) :
    ReturnsInHanded {} Tryz.checked os 5 .any (fun w args => (Rows.canonBoundsSpec.pre enc Tryz.prog Tryz.f5 [] false w args ∧ laidMetH Tryz.prog laid3 w) ∧ sizedMet enc Tryz.prog Tryz.f5 (OpenSpec.ofChange Rows.canonBoundsSpec) false w args) (Rows.canonBoundsSpec.post enc Tryz.prog Tryz.f5 false true false false) := by
  refine returnsInHanded_of_change_and (C := Tryz.checked) (X := fun w _ => laidMetH Tryz.prog laid3 w) (fun _ _ _ hh h => h.of_heap hh) own started (by kernel_rfl) Tryz.func5
    (ChangeSpec.witness_shaped (enc := enc) (C := Tryz.checked) (os := os) (X := fun w _ => laidMetH Tryz.prog laid3 w) false (World.doorLaid Tryz.prog 400 os) #[.slice none 0 0] 8 rfl (World.shaped_of_RefB (by kernel_rfl) (by kernel_rfl)) (by kernel_rfl) (by kernel_rfl) (by kernel_rfl) (door_met3 os _)) ?_
  intro W base args ds gs before hval0 hW _ _ hL _
  have hval : ∀ (j : Nat) t v, Tryz.f5.params[j]? = some t → args[j]? = some v → Value.okWide Tryz.prog W .any base t v := hval0
  have hW' := hW
  obtain ⟨p, q, hA0, hV, rfl, hfz, hnd⟩ := hW
  have hA : DataW.TrodAll enc Tryz.prog W 0 (fun _ => true) true Tryz.f5.params.toList args.toList ds p := hA0
  rw [Tryz.params5] at hA hval
  obtain ⟨v0, vs0, d0, ds0, p0, q0, hargs, rfl, rfl, h0, r0⟩ := trodAll_cons hA
  obtain ⟨rfl, rfl, rfl⟩ := trodAll_nil r0
  obtain rfl : args = #[v0] := by cases args; simp_all
  obtain ⟨rfl, rfl⟩ := trodVars_none hV
  have k0 := h0
  have lt0 : ∀ x ∈ p0, x.block < W.heap.size := by obtain ⟨m, hm⟩ := k0; exact DataW.trod_lt m _ _ _ hm
  obtain ⟨A0, n0, c0, l0, rfl, b0, kp0, nc0, vl0⟩ := open_kps (hval 0 22 v0 rfl rfl) h0
  clear hA0 hval0
  refine (walk A0 n0 c0 l0 W (of_laid3 hL) b0 kp0 nc0 vl0).mono fun e W' ⟨he, bel⟩ => ?_
  subst he
  exact ⟨_, rfl, _, _, _, [], _, [], hW', trodAll_mk1 (shut_bool Tryz.underlying4 _), (trodAll_cons_mk (Below.trod laidOut (by kernel_rfl) (of_decide_eq_true (by kernel_rfl)) k0 bel lt0) trodAll_mk0), rfl, bel.frame _, fun h => by cases h⟩

set_option maxRecDepth 100000 in
theorem proved : Rows.CanonBoundsSaid :=
  OpenClaim.holds_of_wide 5 Tryz.f5 rfl rfl rfl rfl rfl rfl rfl ⟨rfl, rfl, rfl, rfl, rfl⟩ rfl rfl rfl rfl rfl (by kernel_rfl) Tryz.func5 (by kernel_rfl)
    (of_decide_eq_true (by kernel_rfl)) (by unfold Func.isWrapper; first | (rw [if_pos (by decide +kernel)]; kernel_rfl) | (rw [if_neg (by decide +kernel)]; exact ⟨rfl, rfl⟩))
    (fun os started H enc _ => lifted os started H enc)
set_option maxRecDepth 100000 in
theorem card_holds : Rows.CanonBoundsCardSaid :=
  Claim7.holds_tied_plain_at .later [] [.data, .data, .data] true _ false
    proved (fun _ h => by cases h) (by kernel_rfl) (fun _ h => by cases h) canonBounds_row_tie rfl ⟨rfl, rfl⟩ (by kernel_rfl) rfl
    (fun f fn hf hfn => by
      obtain rfl : f = 5 := Option.some.inj ((show Tryz.prog.funcNamed "spunyarn/spunyarnlaw13.CanonBounds" = some 5 by kernel_rfl).symm.trans hf) |>.symm
      obtain rfl : fn = Tryz.f5 := (Option.some.inj (Tryz.func5.symm.trans hfn)).symm
      exact ⟨by kernel_rfl, fun j t ht => by
        rw [Tryz.params5] at ht
        have hm : t ∈ [22] := by simpa using Array.mem_of_getElem? ht
        have hall : ([22].all fun u => !Tryz.prog.wantsStandIn u) = true := by kernel_rfl
        exact (show Tryz.prog.wantsStandIn t = false by simpa using List.all_eq_true.1 hall t hm)⟩)
    (by kernel_rfl)
end Go.Proofs.YtcfokkojoppmkaaGreatDoor.canonBounds
