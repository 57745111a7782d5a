/-
  Proved here: any tree is fine just if its shape is that of the canonical tree of its pairs, which is fine; nothing that came in is turned. The one condition is the card's own: the table of the powers of ten lies as the program's library lays it (tied).
-/
import Derived.Test.YtcfokkojoppmkaaGreatDoorCnAlive
import Derived.Test.YtcfokkojoppmkaaGreatDoorPowTab
import Derived.Test.YtcfokkojoppmkaaGreatDoorRaws
import Derived.Test.YtcfokkojoppmkaaGreatDoorTie
import Derived.Test.YtcfokkojoppmkaaGreatDoorCards
import Derived.SevenTiedAt
namespace Go.Proofs.YtcfokkojoppmkaaGreatDoor.canonFine
open Go.ChangeShapes Go.WideShapes Go.ChangeAt Go.RowKit

theorem bstr_inj {a b : List UInt8} : bstr a = bstr b ↔ a = b := by
  constructor
  · intro h
    have := congrArg ByteArray.data h
    simpa [bstr] using this
  · intro h; rw [h]
theorem chk_rise {ps : List PV} (hr : Rise (ps.map fun p => (p.key, p.val))) (hk : ∀ p ∈ ps, p.key.length ≤ 65535) : chkV (ps.map PV.key) = 0 := by
  have hb : bigB (ps.map PV.key) = false := by
    unfold bigB
    rw [List.any_map, List.any_eq_false]
    intro p hp
    have := hk p hp
    simp
    omega
  have hs : riseB (ps.map PV.key) = true := riseB_of (by
    unfold Rise at hr
    rw [List.pairwise_map] at hr ⊢
    exact hr)
  unfold chkV
  rw [hb, hs]
  rfl

set_option maxRecDepth 100000 in
set_option maxHeartbeats 4000000 in
theorem walk (A : Option Addr) (n c : Nat) (rs : List Rw) (W : World) (htb : Tb W) (ha : Rzs W W.heap.size A n rs) :
    Calls Tryz.prog 7 #[.slice A n c] W fun e w' => e = .returned (.bool true) ∧ Below W.heap.size W w' := by
  have hle : 0 < W.heap.size := htb.lt
  have HAL := Lib.hid (fun (V : World) (hb : Below W.heap.size W V) => calive_any V (htb.below hb hle))
  have HTB := Lib.hid htb
  have HLE := Lib.hid hle
  have HA := Lib.hid (fun V (hV : Below W.heap.size W V) => ha.below hV)
  have hn9 : n ≤ 9223372036854775807 := by have := ha.1.2.1; unfold maxLen at this; omega
  have HLN := Lib.hid ha.length
  clear ha htb hle
  go_enter Tryz.func7, Tryz.ntmps7
  by_cases h0 : n = 0
  · have H2 := Lib.hid (HAL.out W (Below.refl _ _))
    go_wp2_with fail
    (with_reducible refine H2.out.mono ?_)
    rintro e w2 ⟨rfl, b2⟩
    have B2 := Lib.hid b2
    clear b2
    go_wp2_with fail
    go_ret
    exact ⟨rfl, B2.out⟩
  by_cases h24 : 24 < n
  · have H2 := Lib.hid (HAL.out W (Below.refl _ _))
    go_wp2_with fail
    (with_reducible refine H2.out.mono ?_)
    rintro e w2 ⟨rfl, b2⟩
    have B2 := Lib.hid b2
    clear b2
    go_wp2_with fail
    go_ret
    exact ⟨rfl, B2.out⟩
  have hz0 : ((n : Int) == 0) = false := by simpa using h0
  have hz1 : (n : Int) ≤ 24 := by omega
  go_wp2
  clear hz0 hz1
  go_loopw [19] (fun i wr => ∃ k : Nat, k ≤ n ∧ i = .int .i64 k ∧ Hid (∀ j r, j < k → rs[j]? = some r → r.part.length ≤ 300) ∧ Hid (Below W.heap.size W wr)) (fun i _ => n - (intOf i).toNat)
  case atStart => exact ⟨0, Nat.zero_le _, rfl, Lib.hid (fun j p hj => by omega), Lib.hid (Below.refl _ _)⟩
  case round =>
    obtain ⟨k, hk, rfl, HS, HB⟩ := hrel
    by_cases h1 : k < n
    · obtain ⟨ad, r, rfl, hlt, e1, c0, c1, c2, c3, c4, c5, bp, _⟩ := (HA.out _ HB.out).at6 h1
      have hpn : r.n = r.part.length := bp.1.symm
      have hpm : r.n ≤ 9223372036854775807 := by have := bp.2.1; unfold maxLen at this; omega
      have HE1 := Lib.hid e1
      have HPN := Lib.hid hpn
      have HB2 := Lib.hid (HB.out.alloc HB.out.size (.cells #[.bool r.leaf, .slice r.A r.n r.c, .bool r.has, .int .u64 r.val, .int .u8 (r.up.toNat : Int), .int .u8 (r.b.toNat : Int)] 68))
      clear bp e1 hpn
      by_cases hb : 300 < r.n
      · have H2 := Lib.hid (HAL.out _ HB2.out)
        go_wp2_with fail
        (with_reducible refine H2.out.mono ?_)
        rintro e w2 ⟨rfl, b2⟩
        have B2 := Lib.hid (HB2.out.trans (b2.mono HB2.out.size))
        clear b2
        go_wp2_with fail
        go_ret
        exact ⟨rfl, B2.out⟩
      · have HS1 := Lib.hid (show ∀ j r', j < k + 1 → rs[j]? = some r' → r'.part.length ≤ 300 from fun j r' hj hr' => by
          rcases Nat.lt_or_ge j k with h | h
          · exact HS.out j r' h hr'
          · have : j = k := by omega
            subst this
            rw [HE1.out] at hr'
            injection hr' with hr'
            subst hr'
            have := HPN.out
            omega)
        go_wp2
        exact ⟨⟨k + 1, by omega, by go_num, HS1, HB2⟩, by simp [intOf]; omega⟩
    · obtain rfl : k = n := by omega
      have hp : ∀ r ∈ rs, r.part.length ≤ 300 := fun r hr => by
        obtain ⟨j, hj⟩ := List.mem_iff_getElem?.1 hr
        exact HS.out j r (by have := (List.getElem?_eq_some_iff.1 hj).1; have := HLN.out; omega) hj
      have hz := HA.out _ HB.out
      have hpv : ∀ r ∈ rs, r.part.length ≤ 300 ∧ 0 ≤ r.val ∧ r.val ≤ 18446744073709551615 := fun r hr => ⟨hp r hr, (hz.2 r hr).2.2⟩
      have H1 := Lib.hid (raws_any A k c W.heap.size rs wr hz HB.out.size (by omega) (by omega) hp)
      have HPV := Lib.hid hpv
      clear hp hz hpv
      go_wp2_with fail
      (with_reducible refine H1.out.mono ?_)
      rintro e w3 ⟨gs, _, rfl, n3, b3⟩
      have hgr := grown_all n3 (by omega) (by omega) HPV.out
      have ht3 := grow_tre n3 (by omega)
      obtain ⟨gp, hgp⟩ : ∃ gp, gs.getD 0 0 = gp := ⟨_, rfl⟩
      rw [hgp] at ht3 ⊢
      clear hgp n3
      generalize nnR (rs.getD 0 dR) = x at hgr ht3
      generalize growF rs k k 0 = f at hgr ht3
      obtain ⟨L, hL⟩ : ∃ L, tlist x f [] = L := ⟨_, rfl⟩
      have hmany := hgr.many
      have hkeys := hgr.keys
      have hrise : Rise L := hL ▸ tree_rise hgr.wf (Fo.rise hgr.wf)
      have hfs := fine_shape hgr.top hgr.wf 2 7600 (fun p hp => by have := (hkeys p hp).2; omega) (fun p hp => by have := (hkeys p hp).2; omega)
      have hcf := can_fine hgr.wf (x := x) 2 7600 (fun p hp => by have := (hkeys p hp).2; omega) (fun p hp => by have := (hkeys p hp).2; omega)
      have hct := can_fits hgr.wf (x := x) 2 7600 (fun p hp => by have := (hkeys p hp).2; omega) (fun p hp => (hkeys p hp).1) hmany
      have hlv : listV (otvis (some (x, f))) = L.map fun p => (p.1, [Value.int .u64 p.2]) := hL ▸ tvis_list x f [] 1
      rw [hL] at hmany hkeys hfs hcf hct
      have B3 := Lib.hid (HB.out.trans (b3.mono HB.out.size))
      have HL3 := Lib.hid (clist_any (some (x, f)) (some ⟨gp, 0, none⟩) w3 ht3 hgr.fits)
      have T3 := Lib.hid ht3
      have HG := Lib.hid hgr
      have HMN := Lib.hid hmany
      have HKY := Lib.hid hkeys
      have HFS := Lib.hid hfs
      have HCF := Lib.hid hcf
      have HCT := Lib.hid hct
      have HLV := Lib.hid hlv
      have HRI := Lib.hid hrise
      clear hgr ht3 hmany hkeys hfs hcf hct hlv hrise hL b3 H1
      go_wp2_with fail
      (with_reducible refine HL3.out.mono ?_)
      rintro e w4 ⟨A4, c4, ys, rfl, hc4, ky4, l4, b4⟩
      obtain ⟨ps, pr4, kp4, hps⟩ := ky4.prs (l4.trans HLV.out)
      have hrl : rel 0 ps = L := by rw [rel_zero]; exact hps
      have hlen : ys.length = L.length := by
        have := pr4.1
        have h2 := congrArg List.length hps
        rw [List.length_map] at h2
        omega
      obtain ⟨ny, hny⟩ : ∃ ny, ys.length = ny := ⟨_, rfl⟩
      rw [hny] at pr4 hc4 hlen ⊢
      have hn24 : ny ≤ 24 := by have := HMN.out; omega
      have hpk : ∀ p ∈ ps, p.key.length ≤ 7524 := fun p hp => (HKY.out (p.key, p.val) (hps ▸ List.mem_map.2 ⟨p, hp, rfl⟩)).2
      have pm := PrM.of_prs (m := none) (B0 := w4.heap.size) (base := 0) pr4 (Nat.le_refl _) kp4 (fun _ _ _ => Nat.zero_le _) (fun i e => (by cases e))
      obtain ⟨T, hT⟩ : ∃ T, bTr 2 7600 L = T := ⟨_, rfl⟩
      have hot : otn T ≤ 48 := hT ▸ HCT.out.2.2.2
      have hb := cbuild_any (o := 2) (by omega) 7600 ny c4 w4.heap.size A4 ps none [] 0 w4 pm (Nat.le_refl _) (by omega) hc4 (fun p hp => by have := hpk p hp; omega) (fun g e => (by cases e)) (by rw [hrl, hT]; omega)
      rw [hrl, hT, chk_rise (by rw [hps]; exact HRI.out) (fun p hp => by have := hpk p hp; omega)] at hb
      have HBD := Lib.hid (show Calls Tryz.prog 11 #[.pointer none, .int .u64 2, .slice A4 ny c4] w4 (CbPost w4 none [] 0 T) from hb.mono (fun e w' h => h.1 rfl))
      have B4 := Lib.hid (B3.out.trans (b4.mono B3.out.size))
      have T4 := Lib.hid (T3.out.below b4)
      have HT := Lib.hid hT
      clear pm hb hT hot hpk hn24 hny hlen hrl hps pr4 kp4 ky4 l4 b4 HL3 T3
      go_wp2_with fail
      (with_reducible refine HBD.out.mono ?_)
      rintro e w5 ⟨p, rfl, t5, k5, _⟩
      have b5 : Below w4.heap.size w4 w5 := k5.below (Nat.le_refl _) (fun i e => by cases e)
      have U5 := Lib.hid t5.here
      have T5 := Lib.hid (T4.out.below b5)
      have B5 := Lib.hid (B4.out.trans (b5.mono B4.out.size))
      clear t5 k5 b5 HBD T4
      obtain ⟨fb, hfb⟩ : ∃ b, (otvis (some (x, f))).all Vt.fine = b := ⟨_, rfl⟩
      have h6 := cfine_any (some (x, f)) (some ⟨gp, 0, none⟩) w5 T5.out HG.out.fits
      rw [hfb] at h6
      obtain ⟨S1, hS1⟩ : ∃ s, bstr (oshL (some (x, f))) = s := ⟨_, rfl⟩
      obtain ⟨S2, hS2⟩ : ∃ s, bstr (oshL T) = s := ⟨_, rfl⟩
      have HQ := Lib.hid (show fb = true ↔ S1 = S2 from by rw [← hfb, ← hS1, ← hS2, bstr_inj, ← HT.out]; exact HFS.out)
      have HFT := Lib.hid (show Fits T ∧ ook T ∧ (oshL T).length ≤ 10000000 from HT.out ▸ ⟨HCT.out.1, HCT.out.2.1, HCT.out.2.2.1⟩)
      have HFN := Lib.hid (show (otvis T).all Vt.fine = true from HT.out ▸ HCF.out)
      have H6 := Lib.hid h6
      have HS1 := Lib.hid hS1
      have HS2 := Lib.hid hS2
      clear hfb h6 hS1 hS2 HCT HFS HCF HT
      go_wp2_with fail
      (with_reducible refine H6.out.mono ?_)
      rintro e w6 ⟨rfl, b6⟩
      have B6 := Lib.hid (B5.out.trans (b6.mono B5.out.size))
      have T6 := Lib.hid (T5.out.below b6)
      have U6 := Lib.hid (U5.out.below b6)
      have h7 := shape_any (some (x, f)) (some ⟨gp, 0, none⟩) w6.heap.size w6 T6.out HG.out.ok (HTB.out.below B6.out HLE.out) (Nat.lt_of_lt_of_le HLE.out B6.out.size) (Nat.le_refl _) (by have := HG.out.sh; omega)
      rw [HS1.out] at h7
      have H7 := Lib.hid h7
      clear h7 b6 H6 B5 T5 U5
      go_wp2_with fail
      (with_reducible refine H7.out.mono ?_)
      rintro e w7 ⟨rfl, b7⟩
      have B7 := Lib.hid (B6.out.trans (b7.mono B6.out.size))
      have U7 := Lib.hid (U6.out.below b7)
      have h8 := shape_any T p w7.heap.size w7 U7.out HFT.out.2.1 (HTB.out.below B7.out HLE.out) (Nat.lt_of_lt_of_le HLE.out B7.out.size) (Nat.le_refl _) (by have := HFT.out.2.2; omega)
      rw [HS2.out] at h8
      have H8 := Lib.hid h8
      clear h8 b7 H7 B6 T6 U6
      go_wp2_with fail
      (with_reducible refine H8.out.mono ?_)
      rintro e w8 ⟨rfl, b8⟩
      have B8 := Lib.hid (B7.out.trans (b8.mono B7.out.size))
      have h9 := cfine_any T p w8 (U7.out.below b8) HFT.out.1
      rw [HFN.out] at h9
      have H9 := Lib.hid h9
      clear h9 b8 H8 B7 U7
      have hsq : fb = (S1.toList == S2.toList) := by
        rw [Lib.toList_data, Lib.toList_data]
        have := HQ.out
        by_cases hs : S1 = S2
        · rw [this.2 hs, hs]; simp
        · have hf : fb = false := by cases fb with
            | false => rfl
            | true => exact absurd (this.1 rfl) hs
          rw [hf]
          have : ¬ S1.data.toList = S2.data.toList := fun e => hs (bytes_inj e)
          simpa using this
      go_wp2_with fail
      (with_reducible refine H9.out.mono ?_)
      rintro e w9 ⟨rfl, b9⟩
      have B9 := Lib.hid (B8.out.trans (b9.mono B8.out.size))
      have H10 := Lib.hid (HAL.out w9 B9.out)
      clear b9 H9 B8
      go_wp2_with fail
      (with_reducible refine H10.out.mono ?_)
      rintro e w10 ⟨rfl, b10⟩
      have B10 := Lib.hid (B9.out.trans (b10.mono B9.out.size))
      clear b10
      go_wp2_with fail
      go_ret
      exact ⟨rfl, B10.out⟩
set_option maxRecDepth 100000 in
theorem lifted (os : Os) (started : os.Started) (H : Type) (enc : TypeId × Value → H) :
    ReturnsInHanded {} Tryz.checked os 7 .any (fun w args => (Rows.canonFineSpec.pre enc Tryz.prog Tryz.f7 [] false w args ∧ laidMetH Tryz.prog laid3 w) ∧ sizedMet enc Tryz.prog Tryz.f7 (OpenSpec.ofChange Rows.canonFineSpec) false w args) (Rows.canonFineSpec.post enc Tryz.prog Tryz.f7 false true false false) := by
  refine returnsInHanded_of_change_and (C := Tryz.checked) (X := fun w _ => laidMetH Tryz.prog laid3 w) (fun _ _ _ hh h => h.of_heap hh) own started (by kernel_rfl) Tryz.func7
    (ChangeSpec.witness_shaped (enc := enc) (C := Tryz.checked) (os := os) (X := fun w _ => laidMetH Tryz.prog laid3 w) false (World.doorLaid Tryz.prog 400 os) #[.slice none 0 0] 8 rfl (World.shaped_of_RefB (by kernel_rfl) (by kernel_rfl)) (by kernel_rfl) (by kernel_rfl) (by kernel_rfl) (door_met3 os _)) ?_
  intro W base args ds gs before hval0 hW _ _ hL _
  have hval : ∀ (j : Nat) t v, Tryz.f7.params[j]? = some t → args[j]? = some v → Value.okWide Tryz.prog W .any base t v := hval0
  have hW' := hW
  obtain ⟨p, q, hA0, hV, rfl, hfz, hnd⟩ := hW
  have hA : DataW.TrodAll enc Tryz.prog W 0 (fun _ => true) true Tryz.f7.params.toList args.toList ds p := hA0
  rw [Tryz.params7] at hA hval
  obtain ⟨v0, vs0, d0, ds0, p0, q0, hargs, rfl, rfl, h0, r0⟩ := trodAll_cons hA
  obtain ⟨rfl, rfl, rfl⟩ := trodAll_nil r0
  obtain rfl : args = #[v0] := by cases args; simp_all
  obtain ⟨rfl, rfl⟩ := trodVars_none hV
  have k0 := h0
  have lt0 : ∀ x ∈ p0, x.block < W.heap.size := by obtain ⟨m, hm⟩ := k0; exact DataW.trod_lt m _ _ _ hm
  obtain ⟨A0, n0, c0, l0, rfl, b0⟩ := open_raws (hval 0 66 v0 rfl rfl) h0
  clear hA0 hval0
  refine (walk A0 n0 c0 l0 W (of_laid3 hL) b0).mono fun e W' ⟨he, bel⟩ => ?_
  subst he
  exact ⟨_, rfl, _, _, _, [], _, [], hW', trodAll_mk1 (shut_bool Tryz.underlying4 _), (trodAll_cons_mk (Below.trod laidOut (by kernel_rfl) (of_decide_eq_true (by kernel_rfl)) k0 bel lt0) trodAll_mk0), rfl, bel.frame _, fun h => by cases h⟩

set_option maxRecDepth 100000 in
theorem proved : Rows.CanonFineSaid :=
  OpenClaim.holds_of_wide 7 Tryz.f7 rfl rfl rfl rfl rfl rfl rfl ⟨rfl, rfl, rfl, rfl, rfl⟩ rfl rfl rfl rfl rfl (by kernel_rfl) Tryz.func7 (by kernel_rfl)
    (of_decide_eq_true (by kernel_rfl)) (by unfold Func.isWrapper; first | (rw [if_pos (by decide +kernel)]; kernel_rfl) | (rw [if_neg (by decide +kernel)]; exact ⟨rfl, rfl⟩))
    (fun os started H enc _ => lifted os started H enc)
set_option maxRecDepth 100000 in
theorem card_holds : Rows.CanonFineCardSaid :=
  Claim7.holds_tied_plain_at .later [] [.data, .data, .data] true _ false
    proved (fun _ h => by cases h) (by kernel_rfl) (fun _ h => by cases h) canonFine_row_tie rfl ⟨rfl, rfl⟩ (by kernel_rfl) rfl
    (fun f fn hf hfn => by
      obtain rfl : f = 7 := Option.some.inj ((show Tryz.prog.funcNamed "spunyarn/spunyarnlaw13.CanonFine" = some 7 by kernel_rfl).symm.trans hf) |>.symm
      obtain rfl : fn = Tryz.f7 := (Option.some.inj (Tryz.func7.symm.trans hfn)).symm
      exact ⟨by kernel_rfl, fun j t ht => by
        rw [Tryz.params7] at ht
        have hm : t ∈ [66] := by simpa using Array.mem_of_getElem? ht
        have hall : ([66].all fun u => !Tryz.prog.wantsStandIn u) = true := by kernel_rfl
        exact (show Tryz.prog.wantsStandIn t = false by simpa using List.all_eq_true.1 hall t hm)⟩)
    (by kernel_rfl)
end Go.Proofs.YtcfokkojoppmkaaGreatDoor.canonFine
