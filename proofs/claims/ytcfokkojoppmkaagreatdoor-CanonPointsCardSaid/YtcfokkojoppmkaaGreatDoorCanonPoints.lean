/-
  Proved here: the points of the tree of any pairs are the longest beginnings that two of their keys share, each once, rising, of the kind by how many bytes keys go on there, and with a value just if they are a key; nothing that came in is turned. The one condition is the card's own: the table of the powers of ten lies as the program's library lays it (tied).
-/
import Derived.Test.YtcfokkojoppmkaaGreatDoorCnAlive
import Derived.Test.YtcfokkojoppmkaaGreatDoorPowTab
import Derived.Test.YtcfokkojoppmkaaGreatDoorCanonQ
import Derived.Test.YtcfokkojoppmkaaGreatDoorCanonW
import Derived.Test.YtcfokkojoppmkaaGreatDoorRPoints
import Derived.Test.YtcfokkojoppmkaaGreatDoorRow
import Derived.Test.YtcfokkojoppmkaaGreatDoorTie
import Derived.Test.YtcfokkojoppmkaaGreatDoorCards
import Derived.SevenTiedAt
namespace Go.Proofs.YtcfokkojoppmkaaGreatDoor.canonPoints
open Go.ChangeShapes Go.WideShapes Go.ChangeAt Go.RowKit

theorem far_no {ps : List PV} {many : Nat} (h : farP ps many = false) : ps.length ≤ many ∧ ∀ p ∈ ps, p.key.length ≤ 300 := by
  unfold farP at h
  rw [Bool.or_eq_false_iff] at h
  obtain ⟨h1, h2⟩ := h
  refine ⟨by have := of_decide_eq_false h1; omega, fun p hp => ?_⟩
  have := List.any_eq_false.1 h2 p hp
  simp at this
  omega
theorem chk_ok {ps : List PV} (hr : Rsn ps) (hk : ∀ p ∈ ps, p.key.length ≤ 65535) : chkV (ps.map PV.key) = 0 := by
  unfold chkV
  have hb : bigB (ps.map PV.key) = false := by
    unfold bigB
    rw [List.any_map, List.any_eq_false]
    intro p hp
    have := hk p hp
    simp
    omega
  rw [hb, rsn_keys hr]
  rfl
abbrev KM (y : Ky) : List UInt8 × List Value := (y.key, y.more)
theorem can_points {ps : List PV} (o : Int) (f : Nat) (hr : Rsn ps) (hf : ∀ p ∈ ps, p.key.length < f) : pointV (otvis (bTr o f (rel 0 ps))) = ((sortS (allP ps ps.length)).map (ptK (ps.map kvP))).map KM := by
  by_cases hne : ps = []
  · subst hne
    rfl
  have hL : rel 0 ps = ps.map kvP := rel_zero ps
  have hne2 : rel 0 ps ≠ [] := by rw [hL]; simpa using hne
  have hc := can_of o hr hne hf
  have hlen : ∀ p ∈ rel 0 ps, p.1.length < f := fun p hp => by
    rw [hL] at hp
    obtain ⟨q, hq, rfl⟩ := List.mem_map.1 hp
    exact hf q hq
  obtain ⟨w1, w2⟩ := cT_wf o f (rel 0 ps) hne2 (rsn_rel hr) hlen
  unfold bTr
  rw [if_neg hne2]
  have hp := points_of (D := (sortS (allP ps ps.length)).map PV.key) w1 w2 hc.good hc.list (by rw [List.pairwise_map]; exact sortS_rise _) (fun z => pts_keys hr z)
  rw [show cT o f (rel 0 ps) = ((cT o f (rel 0 ps)).1, (cT o f (rel 0 ps)).2) from rfl, hp, List.map_map, List.map_map]
  rfl
theorem can_fit {ps : List PV} (o : Int) (f : Nat) (hr : Rsn ps) (hk : ∀ p ∈ ps, p.key.length ≤ 300) (hn : ps.length ≤ 60) (hf : 300 < f) : Fits (bTr o f (rel 0 ps)) ∧ otn (bTr o f (rel 0 ps)) ≤ 200 := by
  by_cases hne : ps = []
  · subst hne
    exact ⟨⟨fun v hv => (by cases hv), (by show (0 : Nat) ≤ _; omega)⟩, (by show (0 : Nat) ≤ _; omega)⟩
  have hne2 : rel 0 ps ≠ [] := by rw [rel_zero]; simpa using hne
  have hc := can_of o hr hne (f := f) (fun p hp => by have := hk p hp; omega)
  unfold bTr
  rw [if_neg hne2]
  refine ⟨hc.fits (fun p hp => by obtain ⟨q, hq, rfl⟩ := List.mem_map.1 hp; have := hk q hq; show q.key.length ≤ _; omega) (by rw [List.length_map]; omega), ?_⟩
  have h1 := hc.points
  have h2 := hc.nodes
  rw [List.length_map] at h1 h2
  show tnT _ ≤ 200
  omega

set_option maxRecDepth 100000 in
set_option maxHeartbeats 4000000 in
theorem walk (A : Option Addr) (n c : Nat) (ps : List PV) (W : World) (htb : Tb W) (ha : Prs W W.heap.size A n ps) (hk : Kps W W.heap.size ps) (_ : n ≤ c) (_ : ∀ p ∈ ps, 0 ≤ p.val ∧ p.val ≤ 18446744073709551615) :
    Calls Tryz.prog 4 #[.slice A n c] W fun e w' => e = .returned (.bool true) ∧ Below W.heap.size W w' := by
  have hle : 0 < W.heap.size := htb.lt
  have HAL := Lib.hid (fun (V : World) (hb : Below W.heap.size W V) => calive_any V (htb.below hb hle))
  have H1 := Lib.hid (show Calls Tryz.prog 9 #[.slice A n c, .int .i64 60] W _ from cfar_any A n c W.heap.size 60 ps W ha (Nat.le_refl _) (by omega))
  have HA := Lib.hid ha
  have HK := Lib.hid hk
  have hln : ps.length = n := ha.1
  have hn9 : n ≤ 9223372036854775807 := by have := ha.2.1; unfold maxLen at this; omega
  have HLN := Lib.hid hln
  clear ha hk htb hle hln
  go_enter Tryz.func4, Tryz.ntmps4
  go_wp2_with fail
  (with_reducible refine H1.out.mono ?_)
  rintro e w1 ⟨rfl, b1⟩
  have B1 := Lib.hid b1
  obtain ⟨fb, hfb⟩ : ∃ b, farP ps 60 = b := ⟨_, rfl⟩
  rw [hfb]
  have HFB := Lib.hid hfb
  clear b1 hfb H1
  cases fb with
  | true =>
    have H2 := Lib.hid (HAL.out w1 B1.out)
    go_wp2_with fail
    (with_reducible refine H2.out.mono ?_)
    rintro e w2 ⟨rfl, b2⟩
    have B2 := Lib.hid (B1.out.trans (b2.mono B1.out.size))
    clear b2
    go_wp2_with fail
    go_ret
    exact ⟨rfl, B2.out⟩
  | false =>
    obtain ⟨f1, f2⟩ := far_no HFB.out
    have hn60 : n ≤ 60 := by have := HLN.out; omega
    have F2 := Lib.hid f2
    have HS := Lib.hid (rsort_any A n c W.heap.size ps w1 (HA.out.below B1.out) (HK.out.below B1.out) B1.out.size (by omega))
    clear f1 f2
    go_wp2_with fail
    (with_reducible refine HS.out.mono ?_)
    rintro e w2 ⟨A2, c2, rfl, hc2, p2, g2, b2⟩
    obtain ⟨ps2, hps2⟩ : ∃ l, sortS ps = l := ⟨_, rfl⟩
    obtain ⟨n2, hn2⟩ : ∃ k, (sortS ps).length = k := ⟨_, rfl⟩
    have hn2a : n2 ≤ 60 := by
      have := sortS_len ps
      have := HLN.out
      omega
    have hrs : Rsn ps2 := hps2 ▸ sortS_rise ps
    have hk2 : ∀ p ∈ ps2, p.key.length ≤ 300 := hps2 ▸ sortS_all (P := fun p => p.key.length ≤ 300) (fun _ _ h _ => h) F2.out
    have hkp : ∀ V, Below W.heap.size W V → Kps V W.heap.size ps2 := fun V hb => hps2 ▸ Kps.sort (HK.out.below hb)
    rw [hn2] at p2 g2 hc2 ⊢
    rw [hps2] at p2 hn2
    have b2' : Below W.heap.size W w2 := B1.out.trans (b2.mono B1.out.size)
    have HP := Lib.hid (cpairs_any A2 n2 c2 w2.heap.size ps2 w2 p2 ((hkp w2 b2').more b2'.size) (by omega) (by omega))
    have B2 := Lib.hid b2'
    have P2 := Lib.hid p2
    have HRS := Lib.hid hrs
    have HK2 := Lib.hid hk2
    have HKP := Lib.hid hkp
    have HN2 := Lib.hid hn2
    clear hps2 hrs hk2 hkp p2 g2 b2 b2' hn2 HS
    go_wp2_with fail
    (with_reducible refine HP.out.mono ?_)
    rintro e w4 ⟨A4, c4, rfl, hc4, p4, g4, b4⟩
    have b4' : Below W.heap.size W w4 := B2.out.trans (b4.mono B2.out.size)
    have pm := PrM.of_prs (m := none) (B0 := W.heap.size) (base := w2.heap.size) p4 (Nat.le_refl _) (HKP.out w4 b4') g4 (fun i e => by cases e)
    obtain ⟨hft, hot⟩ := can_fit 1 301 HRS.out HK2.out (by have := HN2.out; omega) (by omega)
    have hpt := can_points 1 301 HRS.out (fun p hp => by have := HK2.out p hp; omega)
    obtain ⟨T, hT⟩ : ∃ T, bTr 1 301 (rel 0 ps2) = T := ⟨_, rfl⟩
    have hb := cbuild_any (o := 1) (by omega) 301 n2 c4 w4.heap.size A4 ps2 none [] 0 w4 pm (Nat.le_refl _) (by omega) hc4 (fun p hp => by have := HK2.out p hp; omega) (fun g e => by cases e) (by omega)
    rw [hT] at hft hpt hb
    rw [chk_ok HRS.out (fun p hp => by have := HK2.out p hp; omega)] at hb
    have HBD := Lib.hid (show Calls Tryz.prog 11 #[.pointer none, .int .u64 1, .slice A4 n2 c4] w4 (CbPost w4 none [] 0 T) from hb.mono (fun e w' h => h.1 rfl))
    have HFT := Lib.hid hft
    have HPT := Lib.hid hpt
    have B4 := Lib.hid b4'
    have P4 := Lib.hid (P2.out.below b4)
    have hs4 := b4.size
    clear pm hT hb p4 g4 b4 b4' HP hft hot hpt
    go_wp2_with fail
    (with_reducible refine HBD.out.mono ?_)
    rintro e w5 ⟨p, rfl, t5, k5, _⟩
    have b5 := k5.below (Nat.le_refl w4.heap.size) (fun i e => by cases e)
    have HPS := Lib.hid (cpoints_any _ _ w5 t5.here HFT.out)
    have B5 := Lib.hid (B4.out.trans (b5.mono B4.out.size))
    have P5 := Lib.hid (P4.out.below (b5.mono hs4))
    have hs5 : w2.heap.size ≤ w5.heap.size := Nat.le_trans hs4 b5.size
    clear t5 k5 b5 HBD
    go_wp2_with fail
    (with_reducible refine HPS.out.mono ?_)
    rintro e w6 ⟨A6, c6, y6, rfl, _, k6, l6, q6⟩
    have HL6 := Lib.hid (l6.trans HPT.out)
    have HK6 := Lib.hid k6
    have B6 := Lib.hid (B5.out.trans (q6.mono B5.out.size))
    have hrp := rpoints_any A2 n2 c2 w2.heap.size ps2 w6 (P5.out.below (q6.mono hs5)) ((HKP.out w6 B6.out).more B2.out.size) (Nat.le_trans hs5 q6.size) hn2a
    obtain ⟨D, hD⟩ : ∃ D, (sortS (allP ps2 n2)).map (ptK (ps2.map kvP)) = D := ⟨_, rfl⟩
    have hDl : (sortS (allP ps2 n2)).length = D.length := by rw [← hD, List.length_map]
    rw [hD, hDl] at hrp
    have HLL := Lib.hid (show y6.map KM = D.map KM by rw [← hD]; have h := HL6.out; rw [HN2.out] at h; exact h)
    have HRP := Lib.hid hrp
    have HPM := Lib.hid (show ∀ y ∈ D, ∃ kd hs, y.more = [.int .i64 kd, .bool hs] from fun y hy => by
      rw [← hD] at hy
      obtain ⟨z, _, rfl⟩ := List.mem_map.1 hy
      exact ⟨_, _, rfl⟩)
    clear hrp hD hDl k6 l6 q6 HPS HL6
    obtain ⟨d, hd⟩ : ∃ d, y6.length = d := ⟨_, rfl⟩
    have hdD : D.length = d := by have := congrArg List.length HLL.out; rw [List.length_map, List.length_map] at this; omega
    rw [hd]
    rw [hdD] at HRP
    have HD := Lib.hid (And.intro hd hdD)
    clear hd hdD
    go_wp2_with fail
    (with_reducible refine HRP.out.mono ?_)
    rintro e w7 ⟨A7, c7, rfl, _, k7, b7⟩
    have K6 := Lib.hid (show Kys w7 w7.heap.size A6 3 y6 from (HK6.out.below b7).more b7.size)
    have K7 := Lib.hid k7
    have B7 := Lib.hid (B6.out.trans (b7.mono B6.out.size))
    have d9 : d ≤ 9223372036854775807 := by have := k7.1.2.1; have := HD.out.2; unfold maxLen at *; omega
    clear k7 b7 HRP HK6
    go_wp2_with fail
    go_loopw [30] (fun i wr => ∃ k : Nat, k ≤ d ∧ i = .int .i64 k ∧ Still w7 wr) (fun i _ => d - (intOf i).toNat)
    case atStart => exact ⟨0, Nat.zero_le _, rfl, Still.refl _⟩
    case round =>
      obtain ⟨k, hk, rfl, q, rfl⟩ := hrel
      by_cases h1 : k < d
      · obtain ⟨ad, cs, rfl, _, e1, _, g1⟩ := K6.out.1.at_ (j := k) (by have := HD.out.1; omega)
        obtain ⟨ad', cs', rfl, _, e2, _, g2⟩ := K7.out.1.at_ (j := k) (by have := HD.out.2; omega)
        rw [List.getElem?_map] at e1 e2
        obtain ⟨y, hy, rfl⟩ := Option.map_eq_some_iff.1 e1
        obtain ⟨y', hy', rfl⟩ := Option.map_eq_some_iff.1 e2
        have hyy : KM y = KM y' := by
          have h2 : (y6.map KM)[k]? = (D.map KM)[k]? := by rw [HLL.out]
          rw [List.getElem?_map, List.getElem?_map, hy, hy'] at h2
          simpa using h2
        injection hyy with hk1 hm1
        obtain ⟨kd, hs, hm2⟩ := HPM.out y' (List.mem_of_getElem? hy')
        have c0 := g1 0 _ rfl
        have c1 := g1 1 (.int .i64 kd) (by show y.more[0]? = _; rw [hm1, hm2]; rfl)
        have c2 := g1 2 (.bool hs) (by show y.more[1]? = _; rw [hm1, hm2]; rfl)
        have c3 := g2 0 _ rfl
        have c4 := g2 1 (.int .i64 kd) (by show y'.more[0]? = _; rw [hm2]; rfl)
        have c5 := g2 2 (.bool hs) (by show y'.more[1]? = _; rw [hm2]; rfl)
        rw [← add_of_add] at c1 c2 c4 c5
        rw [Nat.add_zero] at c0 c3
        have d1 : w7.cell? ⟨(ad.add (k * 3)).block, (ad.add (k * 3)).off + 1, none⟩ = some (.int .i64 kd) := c1
        have d2 : w7.cell? ⟨(ad.add (k * 3)).block, (ad.add (k * 3)).off + 2, none⟩ = some (.bool hs) := c2
        have d4 : w7.cell? ⟨(ad'.add (k * 3)).block, (ad'.add (k * 3)).off + 1, none⟩ = some (.int .i64 kd) := c4
        have d5 : w7.cell? ⟨(ad'.add (k * 3)).block, (ad'.add (k * 3)).off + 2, none⟩ = some (.bool hs) := c5
        have hb1 := (K6.out.2 y (List.mem_of_getElem? hy)).1
        have hb2 := (K7.out.2 y' (List.mem_of_getElem? hy')).1
        rw [← hk1] at hb2 c3
        have HS1 := Lib.hid (fun t => rsame_me y.A y'.A y.key.length y.key.length y.c y'.c w7.heap.size y.key (w7.drewN t) (hb1.drewN t) (hb2.drewN t))
        generalize y.key.length = yn at c0 c3 HS1
        have i0 : (0 : Int) ≤ (k : Int) := by omega
        have i3 : (k : Int) < (d : Int) := by omega
        clear c1 c2 c4 c5 g1 g2 hm1 hm2 hk1 hb1 hb2 hy hy' e1 e2
        go_wp2_with fail
        go_quiet ((go_at_call 28; exact quiet_st2 (HS1.out _)))
        go_wp2
        exact ⟨⟨k + 1, by omega, by go_num, (by repeat (first | exact Still.refl _ | apply Still.step))⟩, by simp [intOf]; omega⟩
      · have BQ := Lib.hid (show Below W.heap.size W (w7.drewN q) from B7.out.trans (Still.below (w := w7) (w' := w7.drewN q) ⟨q, rfl⟩ _))
        have H2 := Lib.hid (HAL.out _ BQ.out)
        go_wp2_with fail
        (with_reducible refine H2.out.mono ?_)
        rintro e w8 ⟨rfl, b8⟩
        have B8 := Lib.hid (BQ.out.trans (b8.mono BQ.out.size))
        clear b8
        go_wp2_with fail
        go_ret
        exact ⟨rfl, B8.out⟩
set_option maxRecDepth 100000 in
theorem lifted (os : Os) (started : os.Started) (H : Type) (enc : TypeId × Value → H) :
    ReturnsInHanded {} Tryz.checked os 4 .any (fun w args => (Rows.canonPointsSpec.pre enc Tryz.prog Tryz.f4 [] false w args ∧ laidMetH Tryz.prog laid3 w) ∧ sizedMet enc Tryz.prog Tryz.f4 (OpenSpec.ofChange Rows.canonPointsSpec) false w args) (Rows.canonPointsSpec.post enc Tryz.prog Tryz.f4 false true false false) := by
  refine returnsInHanded_of_change_and (C := Tryz.checked) (X := fun w _ => laidMetH Tryz.prog laid3 w) (fun _ _ _ hh h => h.of_heap hh) own started (by kernel_rfl) Tryz.func4
    (ChangeSpec.witness_shaped (enc := enc) (C := Tryz.checked) (os := os) (X := fun w _ => laidMetH Tryz.prog laid3 w) false (World.doorLaid Tryz.prog 400 os) #[.slice none 0 0] 8 rfl (World.shaped_of_RefB (by kernel_rfl) (by kernel_rfl)) (by kernel_rfl) (by kernel_rfl) (by kernel_rfl) (door_met3 os _)) ?_
  intro W base args ds gs before hval0 hW _ _ hL _
  have hval : ∀ (j : Nat) t v, Tryz.f4.params[j]? = some t → args[j]? = some v → Value.okWide Tryz.prog W .any base t v := hval0
  have hW' := hW
  obtain ⟨p, q, hA0, hV, rfl, hfz, hnd⟩ := hW
  have hA : DataW.TrodAll enc Tryz.prog W 0 (fun _ => true) true Tryz.f4.params.toList args.toList ds p := hA0
  rw [Tryz.params4] at hA hval
  obtain ⟨v0, vs0, d0, ds0, p0, q0, hargs, rfl, rfl, h0, r0⟩ := trodAll_cons hA
  obtain ⟨rfl, rfl, rfl⟩ := trodAll_nil r0
  obtain rfl : args = #[v0] := by cases args; simp_all
  obtain ⟨rfl, rfl⟩ := trodVars_none hV
  have k0 := h0
  have lt0 : ∀ x ∈ p0, x.block < W.heap.size := by obtain ⟨m, hm⟩ := k0; exact DataW.trod_lt m _ _ _ hm
  obtain ⟨A0, n0, c0, l0, rfl, b0, kp0, nc0, vl0⟩ := open_kps (hval 0 22 v0 rfl rfl) h0
  clear hA0 hval0
  refine (walk A0 n0 c0 l0 W (of_laid3 hL) b0 kp0 nc0 vl0).mono fun e W' ⟨he, bel⟩ => ?_
  subst he
  exact ⟨_, rfl, _, _, _, [], _, [], hW', trodAll_mk1 (shut_bool Tryz.underlying4 _), (trodAll_cons_mk (Below.trod laidOut (by kernel_rfl) (of_decide_eq_true (by kernel_rfl)) k0 bel lt0) trodAll_mk0), rfl, bel.frame _, fun h => by cases h⟩

set_option maxRecDepth 100000 in
theorem proved : Rows.CanonPointsSaid :=
  OpenClaim.holds_of_wide 4 Tryz.f4 rfl rfl rfl rfl rfl rfl rfl ⟨rfl, rfl, rfl, rfl, rfl⟩ rfl rfl rfl rfl rfl (by kernel_rfl) Tryz.func4 (by kernel_rfl)
    (of_decide_eq_true (by kernel_rfl)) (by unfold Func.isWrapper; first | (rw [if_pos (by decide +kernel)]; kernel_rfl) | (rw [if_neg (by decide +kernel)]; exact ⟨rfl, rfl⟩))
    (fun os started H enc _ => lifted os started H enc)
set_option maxRecDepth 100000 in
theorem card_holds : Rows.CanonPointsCardSaid :=
  Claim7.holds_tied_plain_at .later [] [.data, .data, .data] true _ false
    proved (fun _ h => by cases h) (by kernel_rfl) (fun _ h => by cases h) canonPoints_row_tie rfl ⟨rfl, rfl⟩ (by kernel_rfl) rfl
    (fun f fn hf hfn => by
      obtain rfl : f = 4 := Option.some.inj ((show Tryz.prog.funcNamed "spunyarn/spunyarnlaw13.CanonPoints" = some 4 by kernel_rfl).symm.trans hf) |>.symm
      obtain rfl : fn = Tryz.f4 := (Option.some.inj (Tryz.func4.symm.trans hfn)).symm
      exact ⟨by kernel_rfl, fun j t ht => by
        rw [Tryz.params4] at ht
        have hm : t ∈ [22] := by simpa using Array.mem_of_getElem? ht
        have hall : ([22].all fun u => !Tryz.prog.wantsStandIn u) = true := by kernel_rfl
        exact (show Tryz.prog.wantsStandIn t = false by simpa using List.all_eq_true.1 hall t hm)⟩)
    (by kernel_rfl)
end Go.Proofs.YtcfokkojoppmkaaGreatDoor.canonPoints
