/-
  Proved here: the tree of any pairs is the document's, or refused: its shape, its pairs, its depth, how many it has, and how many nodes were made; nothing that came in is turned. The one condition is the card's own: the table of the powers of ten lies as the program's library lays it (tied).
-/
import Derived.Test.YtcfokkojoppmkaaGreatDoorCnAlive
import Derived.Test.YtcfokkojoppmkaaGreatDoorPowTab
import Derived.Test.YtcfokkojoppmkaaGreatDoorDtTop
import Derived.Test.YtcfokkojoppmkaaGreatDoorRow
import Derived.Test.YtcfokkojoppmkaaGreatDoorTie
import Derived.Test.YtcfokkojoppmkaaGreatDoorCards
import Derived.SevenTiedAt
namespace Go.Proofs.YtcfokkojoppmkaaGreatDoor.canonBuilds
open Go.ChangeShapes Go.WideShapes Go.ChangeAt Go.RowKit

theorem far_no {ps : List PV} {many : Nat} (h : farP ps many = false) : ps.length ≤ many ∧ ∀ p ∈ ps, p.key.length ≤ 300 := by
  unfold farP at h
  rw [Bool.or_eq_false_iff] at h
  obtain ⟨h1, h2⟩ := h
  refine ⟨by have := of_decide_eq_false h1; omega, fun p hp => ?_⟩
  have := List.any_eq_false.1 h2 p hp
  simp at this
  omega
theorem chk_rsn {ps : List PV} (h : chkV (ps.map PV.key) = 0) : Rsn ps := by
  unfold chkV at h
  split at h
  · cases h
  · split at h
    · rename_i h2
      have := riseB_pair h2
      rwa [List.pairwise_map] at this
    · cases h

set_option maxRecDepth 100000 in
set_option maxHeartbeats 8000000 in
theorem walk (A : Option Addr) (n c : Nat) (ps : List PV) (W : World) (htb : Tb W) (ha : Prs W W.heap.size A n ps) (hk : Kps W W.heap.size ps) (hnc : n ≤ c) (hvl : ∀ p ∈ ps, 0 ≤ p.val ∧ p.val ≤ 18446744073709551615) :
    Calls Tryz.prog 3 #[.slice A n c] W fun e w' => e = .returned (.bool true) ∧ Below W.heap.size W w' := by
  have hle : 0 < W.heap.size := htb.lt
  have HAL := Lib.hid (fun (V : World) (hb : Below W.heap.size W V) => calive_any V (htb.below hb hle))
  have HTB := Lib.hid htb
  have HLE := Lib.hid hle
  have HVL := Lib.hid hvl
  have H1 := Lib.hid (show Calls Tryz.prog 9 #[.slice A n c, .int .i64 300] W _ from cfar_any A n c W.heap.size 300 ps W ha (Nat.le_refl _) (by omega))
  have HA := Lib.hid ha
  have HK := Lib.hid hk
  have hln : ps.length = n := ha.1
  have HLN := Lib.hid hln
  clear ha hk htb hle hln hvl
  go_enter Tryz.func3, Tryz.ntmps3
  go_wp2_with fail
  (with_reducible refine H1.out.mono ?_)
  rintro e w1 ⟨rfl, b1⟩
  have B1 := Lib.hid b1
  obtain ⟨fb, hfb⟩ : ∃ b, farP ps 300 = b := ⟨_, rfl⟩
  rw [hfb]
  have HFB := Lib.hid hfb
  clear b1 hfb H1
  cases fb with
  | true =>
    have H2 := Lib.hid (HAL.out w1 B1.out)
    go_wp2_with fail
    (with_reducible refine H2.out.mono ?_)
    rintro e w2 ⟨rfl, b2⟩
    have B2 := Lib.hid (B1.out.trans (b2.mono B1.out.size))
    clear b2
    go_wp2_with fail
    go_ret
    exact ⟨rfl, B2.out⟩
  | false =>
    obtain ⟨f1, f2⟩ := far_no HFB.out
    have hn300 : n ≤ 300 := by have := HLN.out; omega
    have F2 := Lib.hid f2
    clear f1 f2
    obtain ⟨w3, hw3⟩ : ∃ V, w1.alloc (.cells #[.int .i64 0] 31) = V := ⟨_, rfl⟩
    have b3 : Below w1.heap.size w1 w3 := by rw [← hw3]; exact (Below.refl _ _).alloc (Nat.le_refl _) _
    have s3 : w3.heap.size = w1.heap.size + 1 := by rw [← hw3]; simp
    have m3 : Blk w3 w1.heap.size #[.int .i64 0] := by rw [← hw3]; exact Blk.new w1 _ _
    have b3' : Below W.heap.size W w3 := B1.out.trans (b3.mono B1.out.size)
    have HP := Lib.hid (cpairs_any A n c W.heap.size ps w3 (HA.out.below b3') (HK.out.below b3') b3'.size (by omega))
    obtain ⟨qd, hqd⟩ : ∃ q, w1.heap.size = q := ⟨_, rfl⟩
    rw [hqd] at s3 m3
    have hqW : W.heap.size ≤ qd := by rw [← hqd]; exact B1.out.size
    have HW3 := Lib.hid hw3
    have HQD := Lib.hid hqd
    have B3 := Lib.hid b3'
    have M3 := Lib.hid m3
    have S3 := Lib.hid s3
    clear b3 b3' hw3 m3 hqd s3
    go_wp2_with fail
    rw [HW3.out, HQD.out]
    (with_reducible refine HP.out.mono ?_)
    rintro e w4 ⟨A4, c4, rfl, hc4, p4, g4, b4⟩
    have b4' : Below W.heap.size W w4 := B3.out.trans (b4.mono B3.out.size)
    have hq4 : qd < w3.heap.size := by have := S3.out; omega
    have pm := PrM.of_prs (m := some qd) (B0 := W.heap.size) (base := w3.heap.size) p4 (Nat.le_refl _) (HK.out.below b4') g4 (fun i e => by injection e with e; subst e; exact ⟨hqW, hq4⟩)
    have hmt : Mt w4 (some qd) [] 0 := fun g e => by
      injection e with e
      subst e
      exact ⟨M3.out.below b4 hq4, Int.le_refl _, by omega⟩
    have htn := bTr_tn 1 301 (rel 0 ps)
    have hrl : (rel 0 ps).length = n := by rw [rel_len]; exact HLN.out
    rw [hrl] at htn
    have hb := cbuild_any (o := 1) (by omega) 301 n c4 w4.heap.size A4 ps (some qd) [] 0 w4 pm (Nat.le_refl _) (by omega) hc4 (fun p hp => by have := F2.out p hp; omega) hmt (by omega)
    obtain ⟨ck, hck⟩ : ∃ k, chkV (ps.map PV.key) = k := ⟨_, rfl⟩
    rw [hck] at hb
    have HCK := Lib.hid hck
    have HB := Lib.hid hb
    have B4 := Lib.hid b4'
    have hmw : Blk w4 qd #[.int .i64 0] := M3.out.below b4 hq4
    have M4 := Lib.hid hmw
    have hqlt : qd < w4.heap.size := hmw.lt
    clear pm hmt htn hrl hb hck p4 g4 b4 b4' HP hmw
    by_cases hc0 : ck = 0
    · subst hc0
      have hcan := can_o (chk_rsn HCK.out) F2.out (by have := HLN.out; omega) HVL.out
      obtain ⟨T, hT⟩ : ∃ T, bTr 1 301 (rel 0 ps) = T := ⟨_, rfl⟩
      have HT := Lib.hid hT
      rw [hT] at hcan
      have HCN := Lib.hid hcan
      have HBD := Lib.hid (show Calls Tryz.prog 11 #[.pointer (some ⟨qd, 0, none⟩), .int .u64 1, .slice A4 n c4] w4 (CbPost w4 (some qd) [] 0 T) from HB.out.mono (fun e w' h => hT ▸ h.1 rfl))
      clear hT hcan HB
      go_wp2_with fail
      (with_reducible refine HBD.out.mono ?_)
      rintro e w5 ⟨p, rfl, t5, k5, l5⟩
      have HTN : Hid (otn T ≤ 1000) := Lib.hid HCN.out.tn
      obtain ⟨tn, htn⟩ : ∃ k, otn T = k := ⟨_, rfl⟩
      have l5' : Lst w5 qd [.int .i64 (tn : Int)] := by
        have := l5 _ rfl
        rw [show (0 : Int) + (otn T : Nat) = (tn : Int) by rw [htn]; omega] at this
        exact this
      have b5 : Below W.heap.size W w5 := B4.out.trans (k5.below B4.out.size (fun i e => by injection e with e; omega))
      have T5 := Lib.hid t5.here
      have L5 := Lib.hid l5'
      have B5 := Lib.hid b5
      have HTE := Lib.hid htn
      have HCH := Lib.hid (rcheck_any A n c W.heap.size ps w5 (HA.out.below b5) (by omega))
      rw [HCK.out] at HCH
      clear t5 k5 l5 l5' b5 htn HBD
      go_wp2_with fail
      (with_reducible refine HCH.out.mono ?_)
      rintro e w6 ⟨rfl, s6⟩
      have B6 := Lib.hid (B5.out.trans (s6.below _))
      have B56 := Lib.hid (s6.below w5.heap.size)
      have HRB := Lib.hid (rBuild_any 301 n c W.heap.size A ps w6 (HA.out.below B6.out) (HK.out.below B6.out) B6.out.size (by omega) hnc (fun p hp => by have := F2.out p hp; omega) (rsn_rel (chk_rsn HCK.out)))
      clear s6 HCH
      go_wp2_with fail
      (with_reducible refine HRB.out.mono ?_)
      rintro e w7 ⟨cs, rfl, ho, b7⟩
      rw [HT.out] at ho
      obtain ⟨z1, z2, z3, z4, z5, z6, z7, z8, z9, za, zb, zc, hcs⟩ := ho.six
      obtain ⟨gw, hgw⟩ : ∃ g, w7.heap.size = g := ⟨_, rfl⟩
      obtain ⟨W9, hW9⟩ : ∃ V, w7.alloc (.cells #[.int .i64 z1, .slice z2 z3 z4, .bool z5, .int .u64 z6, .slice z7 z8 z9, .slice za zb zc] 45) = V := ⟨_, rfl⟩
      have b79 : Below w7.heap.size w7 W9 := by rw [← hW9]; exact (Below.refl _ _).alloc (Nat.le_refl _) _
      have lW9 : Blk W9 gw #[.int .i64 z1, .slice z2 z3 z4, .bool z5, .int .u64 z6, .slice z7 z8 z9, .slice za zb zc] := by rw [← hW9, ← hgw]; exact Blk.new _ _ _
      have b59 : Below w5.heap.size w5 W9 := (B56.out.trans (b7.mono B56.out.size)).trans (b79.mono (by have := B56.out.size; have := b7.size; omega))
      have hgl : gw < W9.heap.size := lW9.lt
      have HO := Lib.hid (fun V (hb : Below W9.heap.size W9 V) => (ho.below (b79.trans (hb.mono b79.size))))
      have B9 := Lib.hid (B5.out.trans (b59.mono B5.out.size))
      have T9 := Lib.hid (fun V (hb : Below W9.heap.size W9 V) => T5.out.below (b59.trans (hb.mono b59.size)))
      have L9 := Lib.hid (fun V (hb : Below W9.heap.size W9 V) => (L5.out.below (b59.trans (hb.mono b59.size)) L5.out.lt))
      have BW := Lib.hid (fun V (hb : Below W9.heap.size W9 V) => (B9.out.trans (hb.mono B9.out.size)))
      have SS := Lib.hid (fun V (hb : Below W9.heap.size W9 V) => show V.cell? ⟨gw, 0, none⟩ = some (.int .i64 z1) ∧ V.cell? ⟨gw, 1, none⟩ = some (.slice z2 z3 z4) ∧ V.cell? ⟨gw, 2, none⟩ = some (.bool z5) ∧ V.cell? ⟨gw, 3, none⟩ = some (.int .u64 z6) ∧ V.cell? ⟨gw, 4, none⟩ = some (.slice z7 z8 z9) ∧ V.cell? ⟨gw, 5, none⟩ = some (.slice za zb zc) from
        ⟨(hb.cell (p := ⟨gw, 0, none⟩) hgl).trans (lW9.cell 0), (hb.cell (p := ⟨gw, 1, none⟩) hgl).trans (lW9.cell 1), (hb.cell (p := ⟨gw, 2, none⟩) hgl).trans (lW9.cell 2), (hb.cell (p := ⟨gw, 3, none⟩) hgl).trans (lW9.cell 3), (hb.cell (p := ⟨gw, 4, none⟩) hgl).trans (lW9.cell 4), (hb.cell (p := ⟨gw, 5, none⟩) hgl).trans (lW9.cell 5)⟩)
      have HLEV := Lib.hid (fun V (hb : Below W9.heap.size W9 V) => And.intro (HTB.out.below (BW.out V hb) HLE.out) (Nat.lt_of_lt_of_le HLE.out (BW.out V hb).size))
      obtain ⟨sh, hsh⟩ : ∃ s, bstr (oshL T) = s := ⟨_, rfl⟩
      obtain ⟨dp, hdp⟩ : ∃ s, dpV (otvis T) = s := ⟨_, rfl⟩
      have hcst : cs.toArray = #[.int .i64 z1, .slice z2 z3 z4, .bool z5, .int .u64 z6, .slice z7 z8 z9, .slice za zb zc] := by rw [hcs]
      have C1 := Lib.hid (fun V (hb : Below W9.heap.size W9 V) => show Calls Tryz.prog 16 #[.pointer p] V fun e w' => e = .returned (.string sh) ∧ Below V.heap.size V w' from hsh ▸ shape_any T p V.heap.size V (T9.out V hb) HCN.out.ok (HLEV.out V hb).1 (HLEV.out V hb).2 (Nat.le_refl _) (Nat.le_trans HCN.out.sh (by omega)))
      have C2 := Lib.hid (fun V (hb : Below W9.heap.size W9 V) => show Calls Tryz.prog 17 #[.agg #[.int .i64 z1, .slice z2 z3 z4, .bool z5, .int .u64 z6, .slice z7 z8 z9, .slice za zb zc]] V fun e w' => e = .returned (.string sh) ∧ Below V.heap.size V w' from hsh ▸ hcst ▸ rshape_any T V cs (HO.out V hb) HCN.out.lf HCN.out.ok HCN.out.sh)
      have C3 := Lib.hid (fun V (hb : Below W9.heap.size W9 V) => show Calls Tryz.prog 19 #[.pointer p] V fun e w' => ∃ A' c' ps', e = .returned (.slice A' n c') ∧ Prs w' w'.heap.size A' n ps' ∧ ps'.map kvP = ps.map kvP ∧ Below V.heap.size V w' from
        (clist_any T p V (T9.out V hb) HCN.out.fits).mono fun e w' ⟨A', c', ys, h1, _, h3, h4, h5⟩ => by
          obtain ⟨ps', q1, _, q3⟩ := h3.prs (h4.trans HCN.out.lst)
          have hl : ys.length = n := by
            have := congrArg List.length h4
            rw [List.length_map, HCN.out.lst, List.length_map, List.length_map, HLN.out] at this
            exact this
          rw [hl] at h1 q1
          exact ⟨A', c', ps', h1, q1, q3, h5⟩)
      have C5 := Lib.hid (fun V (hb : Below W9.heap.size W9 V) => show Calls Tryz.prog 20 #[.pointer p] V fun e w' => e = .returned (.int .i64 (dp : Int)) ∧ Below V.heap.size V w' from hdp ▸ cdepth_any T p V (T9.out V hb) HCN.out.fits)
      have C6 := Lib.hid (fun V (hb : Below W9.heap.size W9 V) => show Calls Tryz.prog 21 #[.agg #[.int .i64 z1, .slice z2 z3 z4, .bool z5, .int .u64 z6, .slice z7 z8 z9, .slice za zb zc]] V fun e w' => e = .returned (.int .i64 (dp : Int)) ∧ Below V.heap.size V w' from hdp ▸ hcst ▸ rdepth_top T V cs (HO.out V hb) (Nat.le_trans HCN.out.dp (by omega)))
      have C7 := Lib.hid (fun V (hb : Below W9.heap.size W9 V) => show Calls Tryz.prog 22 #[.pointer p] V fun e w' => e = .returned (.int .i64 (n : Int)) ∧ Below V.heap.size V w' from by
        have := ccount_any T p V (T9.out V hb) HCN.out.fits
        rwa [HCN.out.cnt, HLN.out] at this)
      have C8 := Lib.hid (fun V (hb : Below W9.heap.size W9 V) => count_any (g := qd) (m := (tn : Int)) (w := V) ((L9.out V hb).cell 0))
      have C9 := Lib.hid (fun V (hb : Below W9.heap.size W9 V) => show Calls Tryz.prog 23 #[.agg #[.int .i64 z1, .slice z2 z3 z4, .bool z5, .int .u64 z6, .slice z7 z8 z9, .slice za zb zc]] V fun e w' => e = .returned (.int .i64 (tn : Int)) ∧ Below V.heap.size V w' from HTE.out ▸ hcst ▸ rmade_top T V cs (HO.out V hb) (Nat.le_trans HTN.out (by omega)))
      have CA := Lib.hid (fun V (hb : Below W9.heap.size W9 V) => show Calls Tryz.prog 24 #[.pointer p] V fun e w' => e = .returned (.bool true) ∧ Below V.heap.size V w' from by
        have := cfine_any T p V (T9.out V hb) HCN.out.fits
        rwa [HCN.out.fine] at this)
      have CB := Lib.hid (fun V (hb : Below W9.heap.size W9 V) => HAL.out V (BW.out V hb))
      have HA9 := Lib.hid (fun V (hb : Below W9.heap.size W9 V) => HA.out.below (BW.out V hb))
      have HSM := Lib.hid (fun (V : World) (A' : Option Addr) (c' : Nat) (ps' : List PV) (hb : Below W9.heap.size W9 V) (h1 : Prs V V.heap.size A' n ps') (h2 : ps'.map kvP = ps.map kvP) => csame_yes A' A n c' c V.heap.size ps' ps V h1 ((HA9.out V hb).more (BW.out V hb).size) h2 (by omega))
      have HW9 := Lib.hid hW9
      have HGW := Lib.hid hgw
      have hT1 : cs.toArray = #[.int .i64 z1, .slice z2 z3 z4, .bool z5, .int .u64 z6, .slice z7 z8 z9, .slice za zb zc] := hcst
      rw [hT1]
      clear ho hcs hgw hW9 b79 lW9 b59 hsh hdp hcst b7 HRB hT1 T5 L5
      go_upto_region 9 with fail
      rw [HW9.out, HGW.out]
      go_region_held3 (fun V => V.cell? ⟨gw, 0, none⟩ = some (.int .i64 z1) ∧ V.cell? ⟨gw, 1, none⟩ = some (.slice z2 z3 z4) ∧ V.cell? ⟨gw, 2, none⟩ = some (.bool z5) ∧ V.cell? ⟨gw, 3, none⟩ = some (.int .u64 z6) ∧ V.cell? ⟨gw, 4, none⟩ = some (.slice z7 z8 z9) ∧ V.cell? ⟨gw, 5, none⟩ = some (.slice za zb zc))
        (first
        | exact SS.out _ hbB
        | exact SS.out _ hbA
        | exact SS.out _ hb9
        | exact SS.out _ hb8
        | exact SS.out _ hb7
        | exact SS.out _ hb6
        | exact SS.out _ hb5
        | exact SS.out _ hb4
        | exact SS.out _ hb3
        | exact SS.out _ hb2
        | exact SS.out _ hb1
        | exact SS.out _ (Below.refl W9.heap.size W9).drew
        | exact SS.out _ (Below.refl W9.heap.size W9))
        (first
        | (go_at_call 16; (with_reducible refine (C1.out W9.drew (Below.refl W9.heap.size W9).drew).mono ?_); rintro e v1 ⟨rfl, q1⟩; have hb1 : Below W9.heap.size W9 v1 := (Below.refl W9.heap.size W9).drew.trans q1)
        | (go_at_call 17; (with_reducible refine (C2.out v1 hb1).mono ?_); rintro e v2 ⟨rfl, q2⟩; have hb2 : Below W9.heap.size W9 v2 := hb1.trans (q2.mono hb1.size))
        | (go_at_call 19; (with_reducible refine (C3.out v2 hb2).mono ?_); rintro e v3 ⟨A3, c3, ps3, rfl, pr3, hp3, q3⟩; have hb3 : Below W9.heap.size W9 v3 := hb2.trans (q3.mono hb2.size))
        | (go_at_call 18; (with_reducible refine (HSM.out v3 A3 c3 ps3 hb3 pr3 hp3).mono ?_); rintro e v4 ⟨rfl, q4⟩; have hb4 : Below W9.heap.size W9 v4 := hb3.trans (q4.below _))
        | (go_at_call 20; (with_reducible refine (C5.out v4 hb4).mono ?_); rintro e v5 ⟨rfl, q5⟩; have hb5 : Below W9.heap.size W9 v5 := hb4.trans (q5.mono hb4.size))
        | (go_at_call 21; (with_reducible refine (C6.out v5 hb5).mono ?_); rintro e v6 ⟨rfl, q6⟩; have hb6 : Below W9.heap.size W9 v6 := hb5.trans (q6.mono hb5.size))
        | (go_at_call 22; (with_reducible refine (C7.out v6 hb6).mono ?_); rintro e v7 ⟨rfl, q7⟩; have hb7 : Below W9.heap.size W9 v7 := hb6.trans (q7.mono hb6.size))
        | (go_at_call 14; (with_reducible refine (C8.out v7 hb7).mono ?_); rintro e v8 ⟨rfl, rfl⟩; have hb8 : Below W9.heap.size W9 v8 := hb7)
        | (go_at_call 23; (with_reducible refine (C9.out v8 hb8).mono ?_); rintro e v9 ⟨rfl, q9⟩; have hb9 : Below W9.heap.size W9 v9 := hb8.trans (q9.mono hb8.size))
        | (go_at_call 24; (with_reducible refine (CA.out v9 hb9).mono ?_); rintro e va ⟨rfl, qa⟩; have hbA : Below W9.heap.size W9 va := hb9.trans (qa.mono hb9.size))
        | (go_at_call 10; (with_reducible refine (CB.out va hbA).mono ?_); rintro e vb ⟨rfl, qb⟩; have hbB : Below W9.heap.size W9 vb := hbA.trans (qb.mono hbA.size)))
      all_goals
        have BE := Lib.hid (BW.out _ hbB)
        go_wp2
        go_ret
        exact ⟨rfl, BE.out⟩
    · have HBE := Lib.hid (show Calls Tryz.prog 11 #[.pointer (some ⟨qd, 0, none⟩), .int .u64 1, .slice A4 n c4] w4 fun e w' => e = .returned (.tuple #[.pointer none, .int .i64 ck]) ∧ Below w4.heap.size w4 w' from HB.out.mono (fun e w' h => h.2 hc0))
      have hcz : (ck != 0) = true := by simpa using hc0
      have HCZ := Lib.hid hcz
      clear HB hcz hc0
      go_wp2_with fail
      (with_reducible refine HBE.out.mono ?_)
      rintro e w5 ⟨rfl, b5⟩
      have B5 := Lib.hid (B4.out.trans (b5.mono B4.out.size))
      have M5 := Lib.hid (M4.out.below b5 hqlt)
      have HCH := Lib.hid (rcheck_any A n c W.heap.size ps w5 (HA.out.below B5.out) (by omega))
      rw [HCK.out] at HCH
      clear b5 HBE
      go_wp2_with fail
      (with_reducible refine HCH.out.mono ?_)
      rintro e w6 ⟨rfl, s6⟩
      have B6 := Lib.hid (B5.out.trans (s6.below _))
      have M6 := Lib.hid (M5.out.below (s6.below w5.heap.size) M5.out.lt)
      have HCO := Lib.hid (count_any (g := qd) (m := 0) (w := w6) (M6.out.cell 0))
      have hcz := HCZ.out
      clear s6 HCH
      go_wp2_with fail
      (with_reducible refine HCO.out.mono ?_)
      rintro e w7 ⟨rfl, rfl⟩
      have H10 := Lib.hid (HAL.out w7 B6.out)
      go_wp2_with fail
      (with_reducible refine H10.out.mono ?_)
      rintro e w8 ⟨rfl, b8⟩
      have B8 := Lib.hid (B6.out.trans (b8.mono B6.out.size))
      clear b8
      go_wp2_with fail
      go_ret
      exact ⟨rfl, B8.out⟩
set_option maxRecDepth 100000 in
theorem lifted (os : Os) (started : os.Started) (H : Type) (enc : TypeId × Value → H) :
    ReturnsInHanded {} Tryz.checked os 3 .any (fun w args => (Rows.canonBuildsSpec.pre enc Tryz.prog Tryz.f3 [] false w args ∧ laidMetH Tryz.prog laid3 w) ∧ sizedMet enc Tryz.prog Tryz.f3 (OpenSpec.ofChange Rows.canonBuildsSpec) false w args) (Rows.canonBuildsSpec.post enc Tryz.prog Tryz.f3 false true false false) := by
  refine returnsInHanded_of_change_and (C := Tryz.checked) (X := fun w _ => laidMetH Tryz.prog laid3 w) (fun _ _ _ hh h => h.of_heap hh) own started (by kernel_rfl) Tryz.func3
    (ChangeSpec.witness_shaped (enc := enc) (C := Tryz.checked) (os := os) (X := fun w _ => laidMetH Tryz.prog laid3 w) false (World.doorLaid Tryz.prog 400 os) #[.slice none 0 0] 8 rfl (World.shaped_of_RefB (by kernel_rfl) (by kernel_rfl)) (by kernel_rfl) (by kernel_rfl) (by kernel_rfl) (door_met3 os _)) ?_
  intro W base args ds gs before hval0 hW _ _ hL _
  have hval : ∀ (j : Nat) t v, Tryz.f3.params[j]? = some t → args[j]? = some v → Value.okWide Tryz.prog W .any base t v := hval0
  have hW' := hW
  obtain ⟨p, q, hA0, hV, rfl, hfz, hnd⟩ := hW
  have hA : DataW.TrodAll enc Tryz.prog W 0 (fun _ => true) true Tryz.f3.params.toList args.toList ds p := hA0
  rw [Tryz.params3] at hA hval
  obtain ⟨v0, vs0, d0, ds0, p0, q0, hargs, rfl, rfl, h0, r0⟩ := trodAll_cons hA
  obtain ⟨rfl, rfl, rfl⟩ := trodAll_nil r0
  obtain rfl : args = #[v0] := by cases args; simp_all
  obtain ⟨rfl, rfl⟩ := trodVars_none hV
  have k0 := h0
  have lt0 : ∀ x ∈ p0, x.block < W.heap.size := by obtain ⟨m, hm⟩ := k0; exact DataW.trod_lt m _ _ _ hm
  obtain ⟨A0, n0, c0, l0, rfl, b0, kp0, nc0, vl0⟩ := open_kps (hval 0 22 v0 rfl rfl) h0
  clear hA0 hval0
  refine (walk A0 n0 c0 l0 W (of_laid3 hL) b0 kp0 nc0 vl0).mono fun e W' ⟨he, bel⟩ => ?_
  subst he
  exact ⟨_, rfl, _, _, _, [], _, [], hW', trodAll_mk1 (shut_bool Tryz.underlying4 _), (trodAll_cons_mk (Below.trod laidOut (by kernel_rfl) (of_decide_eq_true (by kernel_rfl)) k0 bel lt0) trodAll_mk0), rfl, bel.frame _, fun h => by cases h⟩

set_option maxRecDepth 100000 in
theorem proved : Rows.CanonBuildsSaid :=
  OpenClaim.holds_of_wide 3 Tryz.f3 rfl rfl rfl rfl rfl rfl rfl ⟨rfl, rfl, rfl, rfl, rfl⟩ rfl rfl rfl rfl rfl (by kernel_rfl) Tryz.func3 (by kernel_rfl)
    (of_decide_eq_true (by kernel_rfl)) (by unfold Func.isWrapper; first | (rw [if_pos (by decide +kernel)]; kernel_rfl) | (rw [if_neg (by decide +kernel)]; exact ⟨rfl, rfl⟩))
    (fun os started H enc _ => lifted os started H enc)
set_option maxRecDepth 100000 in
theorem card_holds : Rows.CanonBuildsCardSaid :=
  Claim7.holds_tied_plain_at .later [] [.data, .data, .data] true _ false
    proved (fun _ h => by cases h) (by kernel_rfl) (fun _ h => by cases h) canonBuilds_row_tie rfl ⟨rfl, rfl⟩ (by kernel_rfl) rfl
    (fun f fn hf hfn => by
      obtain rfl : f = 3 := Option.some.inj ((show Tryz.prog.funcNamed "spunyarn/spunyarnlaw13.CanonBuilds" = some 3 by kernel_rfl).symm.trans hf) |>.symm
      obtain rfl : fn = Tryz.f3 := (Option.some.inj (Tryz.func3.symm.trans hfn)).symm
      exact ⟨by kernel_rfl, fun j t ht => by
        rw [Tryz.params3] at ht
        have hm : t ∈ [22] := by simpa using Array.mem_of_getElem? ht
        have hall : ([22].all fun u => !Tryz.prog.wantsStandIn u) = true := by kernel_rfl
        exact (show Tryz.prog.wantsStandIn t = false by simpa using List.all_eq_true.1 hall t hm)⟩)
    (by kernel_rfl)
end Go.Proofs.YtcfokkojoppmkaaGreatDoor.canonBuilds
