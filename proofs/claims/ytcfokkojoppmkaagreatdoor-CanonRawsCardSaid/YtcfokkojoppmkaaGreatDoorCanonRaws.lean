/-
  Proved here: the shape, the pairs, the depth, and whether it is fine, of any tree, canonical or not, are the document's; nothing that came in is turned. The one condition is the card's own: the table of the powers of ten lies as the program's library lays it (tied).
-/
import Derived.Test.YtcfokkojoppmkaaGreatDoorCnAlive
import Derived.Test.YtcfokkojoppmkaaGreatDoorPowTab
import Derived.Test.YtcfokkojoppmkaaGreatDoorGrow
import Derived.Test.YtcfokkojoppmkaaGreatDoorDtTop
import Derived.Test.YtcfokkojoppmkaaGreatDoorTie
import Derived.Test.YtcfokkojoppmkaaGreatDoorCards
import Derived.SevenTiedAt
namespace Go.Proofs.YtcfokkojoppmkaaGreatDoor.canonRaws
open Go.ChangeShapes Go.WideShapes Go.ChangeAt Go.RowKit

theorem grown_more {w : World} {B : Nat} {N : Nat → Prop} {rs : List Rw} {gs : List Nat} {n : Nat} (h : Ns w B N (nodesL rs gs (stR rs n))) (hn : 0 < n) (hn24 : n ≤ 24) (hp : ∀ r ∈ rs, r.part.length ≤ 300 ∧ 0 ≤ r.val ∧ r.val ≤ 18446744073709551615) :
    (∀ v ∈ tvis (nnR (rs.getD 0 dR)) (growF rs n n 0) [] 1, v.way.length ≤ 7524 ∧ v.deep ≤ 25) ∧ 1 + (growF rs n n 0).tn ≤ 24 := by
  have hd : ∀ j, (rs.getD j dR).part.length ≤ 300 := fun j => by
    rw [List.getD_eq_getElem?_getD]
    rcases hj : rs[j]? with _ | r
    · exact Nat.zero_le _
    · exact (hp r (List.mem_of_getElem? hj)).1
  have hr := fun k hk => st_rise h (k := k) hk
  have htn := gT_root hr hn
  have hv := grow_vis (rs := rs) (n := n) hd n 0
  have hp0 : (nnR (rs.getD 0 dR)).part.length ≤ 300 := hd 0
  generalize nnR (rs.getD 0 dR) = x at hp0 ⊢
  generalize growF rs n n 0 = k at htn hv ⊢
  refine ⟨fun v hv' => ?_, by omega⟩
  unfold tvis at hv'
  rcases List.mem_cons.1 hv' with rfl | q
  · exact ⟨by show ([] ++ x.part).length ≤ _; rw [List.nil_append]; omega, by show 1 ≤ 25; omega⟩
  · have := hv _ _ v q
    rw [List.nil_append] at this
    omega
theorem dp_most {vs : List Vt} {M : Nat} (h : ∀ v ∈ vs, v.deep ≤ M) : dpV vs ≤ M := dpV_most h

set_option maxRecDepth 100000 in
set_option maxHeartbeats 8000000 in
theorem walk (A : Option Addr) (n c : Nat) (rs : List Rw) (W : World) (htb : Tb W) (ha : Rzs W W.heap.size A n rs) :
    Calls Tryz.prog 6 #[.slice A n c] W fun e w' => e = .returned (.bool true) ∧ Below W.heap.size W w' := by
  have hle : 0 < W.heap.size := htb.lt
  have HAL := Lib.hid (fun (V : World) (hb : Below W.heap.size W V) => calive_any V (htb.below hb hle))
  have HTB := Lib.hid htb
  have HLE := Lib.hid hle
  have HA := Lib.hid (fun V (hV : Below W.heap.size W V) => ha.below hV)
  have hn9 : n ≤ 9223372036854775807 := by have := ha.1.2.1; unfold maxLen at this; omega
  have HLN := Lib.hid ha.length
  have hfn : Fits none := ⟨fun v hv => (by cases hv), (by show (0 : Nat) ≤ _; omega)⟩
  have CN1 := Lib.hid (fun V (hb : Below W.heap.size W V) => show Calls Tryz.prog 16 #[.pointer none] V fun e w' => e = .returned (.string (bstr [46])) ∧ Below V.heap.size V w' from shape_any none none V.heap.size V rfl trivial (htb.below hb hle) (Nat.lt_of_lt_of_le hle hb.size) (Nat.le_refl _) (by show (1 : Nat) ≤ _; omega))
  have CN2 := Lib.hid (fun V (_ : Below W.heap.size W V) => show Calls Tryz.prog 24 #[.pointer none] V fun e w' => e = .returned (.bool true) ∧ Below V.heap.size V w' from cfine_any none none V rfl hfn)
  have CN3 := Lib.hid (fun V (_ : Below W.heap.size W V) => show Calls Tryz.prog 20 #[.pointer none] V fun e w' => e = .returned (.int .i64 0) ∧ Below V.heap.size V w' from cdepth_any none none V rfl hfn)
  have CN4 := Lib.hid (fun V (_ : Below W.heap.size W V) => show Calls Tryz.prog 22 #[.pointer none] V fun e w' => e = .returned (.int .i64 0) ∧ Below V.heap.size V w' from ccount_any none none V rfl hfn)
  have CN5 := Lib.hid (fun V (_ : Below W.heap.size W V) => show Calls Tryz.prog 19 #[.pointer none] V fun e w' => ∃ A' c', e = .returned (.slice A' 0 c') ∧ Below V.heap.size V w' from (clist_any none none V rfl hfn).mono fun e w' ⟨A', c', ys, h1, _, _, h4, h5⟩ => ⟨A', c', by
    have hl : ys.length = 0 := by have := congrArg List.length h4; rw [List.length_map] at this; exact this
    rw [hl] at h1; exact h1, h5⟩)
  have CN6 := Lib.hid (fun V (_ : Below W.heap.size W V) => show Calls Tryz.prog 26 #[.pointer none] V fun e w' => ∃ A' c', e = .returned (.slice A' 0 c') ∧ Below V.heap.size V w' from (cpoints_any none none V rfl hfn).mono fun e w' ⟨A', c', ys, h1, _, _, h4, h5⟩ => ⟨A', c', by
    have hl : ys.length = 0 := by have := congrArg List.length h4; rw [List.length_map] at this; exact this
    rw [hl] at h1; exact h1, h5⟩)
  have hst : ((bstr [46]).toList == [46]) = true := by rw [Lib.toList_data, bstr_toList]; decide
  clear ha htb hle hfn
  go_enter Tryz.func6, Tryz.ntmps6
  by_cases h0 : n = 0
  · have hz0 : ((n : Int) == 0) = true := by rw [beq_iff_eq]; omega
    have H1 := Lib.hid (CN1.out W (Below.refl _ _))
    go_wp2_with fail
    (with_reducible refine H1.out.mono ?_)
    rintro e w1 ⟨rfl, b1⟩
    have B1 := Lib.hid b1
    have H2 := Lib.hid (CN2.out w1 B1.out)
    clear b1 H1
    go_wp2_with fail
    (with_reducible refine H2.out.mono ?_)
    rintro e w2 ⟨rfl, b2⟩
    have B2 := Lib.hid (B1.out.trans (b2.mono B1.out.size))
    have H3 := Lib.hid (CN3.out w2 B2.out)
    clear b2 H2
    go_wp2_with fail
    (with_reducible refine H3.out.mono ?_)
    rintro e w3 ⟨rfl, b3⟩
    have B3 := Lib.hid (B2.out.trans (b3.mono B2.out.size))
    have H4 := Lib.hid (CN4.out w3 B3.out)
    clear b3 H3
    go_wp2_with fail
    (with_reducible refine H4.out.mono ?_)
    rintro e w4 ⟨rfl, b4⟩
    have B4 := Lib.hid (B3.out.trans (b4.mono B3.out.size))
    have H5 := Lib.hid (CN5.out w4 B4.out)
    clear b4 H4
    go_wp2_with fail
    (with_reducible refine H5.out.mono ?_)
    rintro e w5 ⟨A5, c5, rfl, b5⟩
    have B5 := Lib.hid (B4.out.trans (b5.mono B4.out.size))
    have H6 := Lib.hid (CN6.out w5 B5.out)
    clear b5 H5
    go_wp2_with fail
    (with_reducible refine H6.out.mono ?_)
    rintro e w6 ⟨A6, c6, rfl, b6⟩
    have B6 := Lib.hid (B5.out.trans (b6.mono B5.out.size))
    have H7 := Lib.hid (HAL.out w6 B6.out)
    clear b6 H6
    go_wp2_with fail
    (with_reducible refine H7.out.mono ?_)
    rintro e w7 ⟨rfl, b7⟩
    have B7 := Lib.hid (B6.out.trans (b7.mono B6.out.size))
    clear b7 H7
    go_wp2_with fail
    go_ret
    exact ⟨rfl, B7.out⟩
  have hz0 : ((n : Int) == 0) = false := by rw [beq_eq_false_iff_ne]; omega
  by_cases h24 : 24 < n
  · have hz1 : (24 : Int) < (n : Int) := by omega
    have H1 := Lib.hid (CN1.out W (Below.refl _ _))
    go_wp2_with fail
    (with_reducible refine H1.out.mono ?_)
    rintro e w1 ⟨rfl, b1⟩
    have B1 := Lib.hid b1
    have H2 := Lib.hid (CN2.out w1 B1.out)
    clear b1 H1
    go_wp2_with fail
    (with_reducible refine H2.out.mono ?_)
    rintro e w2 ⟨rfl, b2⟩
    have B2 := Lib.hid (B1.out.trans (b2.mono B1.out.size))
    have H3 := Lib.hid (CN3.out w2 B2.out)
    clear b2 H2
    go_wp2_with fail
    (with_reducible refine H3.out.mono ?_)
    rintro e w3 ⟨rfl, b3⟩
    have B3 := Lib.hid (B2.out.trans (b3.mono B2.out.size))
    have H4 := Lib.hid (CN4.out w3 B3.out)
    clear b3 H3
    go_wp2_with fail
    (with_reducible refine H4.out.mono ?_)
    rintro e w4 ⟨rfl, b4⟩
    have B4 := Lib.hid (B3.out.trans (b4.mono B3.out.size))
    have H5 := Lib.hid (CN5.out w4 B4.out)
    clear b4 H4
    go_wp2_with fail
    (with_reducible refine H5.out.mono ?_)
    rintro e w5 ⟨A5, c5, rfl, b5⟩
    have B5 := Lib.hid (B4.out.trans (b5.mono B4.out.size))
    have H6 := Lib.hid (CN6.out w5 B5.out)
    clear b5 H5
    go_wp2_with fail
    (with_reducible refine H6.out.mono ?_)
    rintro e w6 ⟨A6, c6, rfl, b6⟩
    have B6 := Lib.hid (B5.out.trans (b6.mono B5.out.size))
    have H7 := Lib.hid (HAL.out w6 B6.out)
    clear b6 H6
    go_wp2_with fail
    (with_reducible refine H7.out.mono ?_)
    rintro e w7 ⟨rfl, b7⟩
    have B7 := Lib.hid (B6.out.trans (b7.mono B6.out.size))
    clear b7 H7
    go_wp2_with fail
    go_ret
    exact ⟨rfl, B7.out⟩
  have hz1 : (n : Int) ≤ 24 := by omega
  clear hst CN1 CN2 CN3 CN4 CN5 CN6
  go_wp2
  clear hz0 hz1
  go_loopw [38] (fun i wr => ∃ k : Nat, k ≤ n ∧ i = .int .i64 k ∧ Hid (∀ j r, j < k → rs[j]? = some r → r.part.length ≤ 300) ∧ Hid (Below W.heap.size W wr)) (fun i _ => n - (intOf i).toNat)
  case atStart => exact ⟨0, Nat.zero_le _, rfl, Lib.hid (fun j p hj => by omega), Lib.hid (Below.refl _ _)⟩
  case round =>
    obtain ⟨k, hk, rfl, HS, HB⟩ := hrel
    by_cases h1 : k < n
    · obtain ⟨ad, r, rfl, hlt, e1, c0, c1, c2, c3, c4, c5, bp, _⟩ := (HA.out _ HB.out).at6 h1
      have hpn : r.n = r.part.length := bp.1.symm
      have hpm : r.n ≤ 9223372036854775807 := by have := bp.2.1; unfold maxLen at this; omega
      have HE1 := Lib.hid e1
      have HPN := Lib.hid hpn
      have HB2 := Lib.hid (HB.out.alloc HB.out.size (.cells #[.bool r.leaf, .slice r.A r.n r.c, .bool r.has, .int .u64 r.val, .int .u8 (r.up.toNat : Int), .int .u8 (r.b.toNat : Int)] 68))
      clear bp e1 hpn
      by_cases hb : 300 < r.n
      · have H2 := Lib.hid (HAL.out _ HB2.out)
        go_wp2_with fail
        (with_reducible refine H2.out.mono ?_)
        rintro e w2 ⟨rfl, b2⟩
        have B2 := Lib.hid (HB2.out.trans (b2.mono HB2.out.size))
        clear b2
        go_wp2_with fail
        go_ret
        exact ⟨rfl, B2.out⟩
      · have HS1 := Lib.hid (show ∀ j r', j < k + 1 → rs[j]? = some r' → r'.part.length ≤ 300 from fun j r' hj hr' => by
          rcases Nat.lt_or_ge j k with h | h
          · exact HS.out j r' h hr'
          · have : j = k := by omega
            subst this
            rw [HE1.out] at hr'
            injection hr' with hr'
            subst hr'
            have := HPN.out
            omega)
        go_wp2
        exact ⟨⟨k + 1, by omega, by go_num, HS1, HB2⟩, by simp [intOf]; omega⟩
    · obtain rfl : k = n := by omega
      have hp : ∀ r ∈ rs, r.part.length ≤ 300 := fun r hr => by
        obtain ⟨j, hj⟩ := List.mem_iff_getElem?.1 hr
        exact HS.out j r (by have := (List.getElem?_eq_some_iff.1 hj).1; have := HLN.out; omega) hj
      have hz := HA.out _ HB.out
      have hpv : ∀ r ∈ rs, r.part.length ≤ 300 ∧ 0 ≤ r.val ∧ r.val ≤ 18446744073709551615 := fun r hr => ⟨hp r hr, (hz.2 r hr).2.2⟩
      have H1 := Lib.hid (raws_any A k c W.heap.size rs wr hz HB.out.size (by omega) (by omega) hp)
      have HPL := Lib.hid hp
      have HPV := Lib.hid hpv
      clear hp hz hpv
      go_wp2_with fail
      (with_reducible refine H1.out.mono ?_)
      rintro e w3 ⟨gs, _, rfl, n3, b3⟩
      have hgr := grown_all n3 (by omega) (by omega) HPV.out
      have hgm := grown_more n3 (by omega) (by omega) HPV.out
      have ht3 := grow_tre n3 (by omega)
      have B3 := Lib.hid (HB.out.trans (b3.mono HB.out.size))
      have HG2 := Lib.hid (show Calls Tryz.prog 30 #[.slice A k c, .int .i64 0] w3 (RBPost W.heap.size w3 (nnR (rs.getD 0 dR), growF rs k k 0)) from rgrows k 0 k c W.heap.size A rs w3 (HA.out _ B3.out) B3.out.size (by omega) (by omega) (by omega) HPL.out)
      obtain ⟨gp, hgp⟩ : ∃ gp, gs.getD 0 0 = gp := ⟨_, rfl⟩
      rw [hgp] at ht3 ⊢
      clear hgp n3
      generalize nnR (rs.getD 0 dR) = x at hgr ht3 hgm HG2
      generalize growF rs k k 0 = f at hgr ht3 hgm HG2
      obtain ⟨L, hL⟩ : ∃ L, tlist x f [] = L := ⟨_, rfl⟩
      have hmany := hgr.many
      have hlv : listV (otvis (some (x, f))) = L.map fun p => (p.1, [Value.int .u64 p.2]) := hL ▸ tvis_list x f [] 1
      rw [hL] at hmany
      obtain ⟨nl, hnl⟩ : ∃ m, L.length = m := ⟨_, rfl⟩
      rw [hnl] at hmany
      have hcv : cntV (otvis (some (x, f))) = nl := by rw [← listV_len, hlv, List.length_map, hnl]
      have T3 := Lib.hid ht3
      have HG := Lib.hid hgr
      have HGM := Lib.hid hgm
      have HLV := Lib.hid hlv
      have HNL := Lib.hid hnl
      have HCV := Lib.hid hcv
      have HTL := Lib.hid hL
      have hs3 := B3.out.size
      clear hgr hgm ht3 hlv hnl hcv hL b3 H1
      go_wp2_with fail
      (with_reducible refine HG2.out.mono ?_)
      rintro e w4 ⟨cs, rfl, ho, b4⟩
      obtain ⟨d, ek, rfl, ho1, ho2⟩ := ho
      have hdn : Dno w4 w4.heap.size x f (d.cells x f) := ⟨d, ek, rfl, ho1.dat, ho2.dis⟩
      rw [show (d.cells x f).toArray = dArr (kdV x f) d x.has x.val from rfl]
      have B4 := Lib.hid (B3.out.trans (b4.mono B3.out.size))
      have T4 := Lib.hid (T3.out.below b4)
      have HDN := Lib.hid hdn
      have HCA := Lib.hid (show (d.cells x f).toArray = dArr (kdV x f) d x.has x.val from rfl)
      clear ho1 ho2 hdn b4 HG2 T3
      generalize kdV x f = kd at HCA ⊢
      generalize x.has = xh at HCA ⊢
      generalize x.val = xv at HCA ⊢
      obtain ⟨gw, hgw⟩ : ∃ g, w4.heap.size = g := ⟨_, rfl⟩
      obtain ⟨W9, hW9⟩ : ∃ V, w4.alloc (.cells (dArr kd d xh xv) 45) = V := ⟨_, rfl⟩
      have b9 : Below w4.heap.size w4 W9 := by rw [← hW9]; exact (Below.refl _ _).alloc (Nat.le_refl _) _
      have lW9 : Blk W9 gw (dArr kd d xh xv) := by rw [← hW9, ← hgw]; exact Blk.new _ _ _
      have hgl : gw < W9.heap.size := lW9.lt
      have B9 := Lib.hid (B4.out.trans (b9.mono B4.out.size))
      have BW := Lib.hid (fun V (hb : Below W9.heap.size W9 V) => (B9.out.trans (hb.mono B9.out.size)))
      have T9 := Lib.hid (fun V (hb : Below W9.heap.size W9 V) => T4.out.below (b9.trans (hb.mono b9.size)))
      have D9 := Lib.hid (fun V (hb : Below W9.heap.size W9 V) => show Dno V w4.heap.size x f (d.cells x f) ∧ w4.heap.size ≤ V.heap.size from ⟨HDN.out.below (b9.trans (hb.mono b9.size)), Nat.le_trans b9.size hb.size⟩)
      have SS := Lib.hid (fun V (hb : Below W9.heap.size W9 V) => show V.cell? ⟨gw, 0, none⟩ = some (.int .i64 kd) ∧ V.cell? ⟨gw, 1, none⟩ = some (.slice d.A d.n d.c) ∧ V.cell? ⟨gw, 2, none⟩ = some (.bool xh) ∧ V.cell? ⟨gw, 3, none⟩ = some (.int .u64 xv) ∧ V.cell? ⟨gw, 4, none⟩ = some (.slice d.Ab d.nb d.cb) ∧ V.cell? ⟨gw, 5, none⟩ = some (.slice d.Ak d.nk d.ck) from
        ⟨(hb.cell (p := ⟨gw, 0, none⟩) hgl).trans (lW9.cell 0), (hb.cell (p := ⟨gw, 1, none⟩) hgl).trans (lW9.cell 1), (hb.cell (p := ⟨gw, 2, none⟩) hgl).trans (lW9.cell 2), (hb.cell (p := ⟨gw, 3, none⟩) hgl).trans (lW9.cell 3), (hb.cell (p := ⟨gw, 4, none⟩) hgl).trans (lW9.cell 4), (hb.cell (p := ⟨gw, 5, none⟩) hgl).trans (lW9.cell 5)⟩)
      have HRL := Lib.hid (show Calls Tryz.prog 31 #[.agg (dArr kd d xh xv)] W9 (RLPost W9 L) from HTL.out ▸ HCA.out ▸ rList_any x f w4.heap.size W9 (d.cells x f) (D9.out W9 (Below.refl _ _)).1 (D9.out W9 (Below.refl _ _)).2 (by have := HGM.out.2; omega) (fun v hv => by have := (HGM.out.1 v hv).1; omega))
      have HW9 := Lib.hid hW9
      have HGW := Lib.hid hgw
      clear b9 lW9 hW9 hgw
      go_upto_region 10 with fail
      rw [HW9.out, HGW.out]
      obtain ⟨s0, s1, s2, s3, s4, s5⟩ := SS.out W9 (Below.refl _ _)
      go_wp2_with fail
      (with_reducible refine HRL.out.mono ?_)
      rintro e w5 ⟨A5, c5, ps, bq, rfl, _, _, lr5, hps, b5⟩
      have hpl5 : ps.length = nl := by have h2 := congrArg List.length hps; rw [List.length_map] at h2; rw [h2]; exact HNL.out
      have hpr5 : Prs w5 w5.heap.size A5 nl ps := by
        have h2 := Prs.of_rws lr5.row.rws lr5.kps
        rwa [hpl5] at h2
      rw [hpl5]
      have B5 := Lib.hid b5
      have P5 := Lib.hid hpr5
      have HPS := Lib.hid hps
      clear s0 s1 s2 s3 s4 s5 lr5 hps hpl5 hpr5 b5 HRL
      have SV := Lib.hid (fun V (hb : Below w5.heap.size w5 V) => SS.out V (B5.out.trans (hb.mono B5.out.size)))
      have WV := Lib.hid (fun V (hb : Below w5.heap.size w5 V) => show Below W9.heap.size W9 V from B5.out.trans (hb.mono B5.out.size))
      obtain ⟨sh, hsh⟩ : ∃ s, bstr (oshL (some (x, f))) = s := ⟨_, rfl⟩
      obtain ⟨dp, hdp⟩ : ∃ s, dpV (otvis (some (x, f))) = s := ⟨_, rfl⟩
      obtain ⟨fb, hfb⟩ : ∃ s, (otvis (some (x, f))).all Vt.fine = s := ⟨_, rfl⟩
      have hdpe : f.dep + 1 = dp := by rw [← hdp]; exact (dpV_dep x f).symm
      have hdpm : dp ≤ 25 := by rw [← hdp]; exact dp_most (fun v hv => (HGM.out.1 v hv).2)
      have hffe : (ffN x f && f.ff) = fb := by rw [← hfb]; exact (fine_ff x f (fun v hv => by have := (HGM.out.1 v hv).1; omega)).symm
      have C1 := Lib.hid (fun V (hb : Below w5.heap.size w5 V) => show Calls Tryz.prog 16 #[.pointer (some ⟨gp, 0, none⟩)] V fun e w' => e = .returned (.string sh) ∧ Below V.heap.size V w' from hsh ▸ shape_any (some (x, f)) (some ⟨gp, 0, none⟩) V.heap.size V (T9.out V (WV.out V hb)) HG.out.ok (HTB.out.below (BW.out V (WV.out V hb)) HLE.out) (Nat.lt_of_lt_of_le HLE.out (BW.out V (WV.out V hb)).size) (Nat.le_refl _) (by have := HG.out.sh; omega))
      have C2 := Lib.hid (fun V (hb : Below w5.heap.size w5 V) => show Calls Tryz.prog 17 #[.agg (dArr kd d xh xv)] V fun e w' => e = .returned (.string sh) ∧ Below V.heap.size V w' from hsh ▸ HCA.out ▸ rshape_tree x f w4.heap.size V (d.cells x f) (D9.out V (WV.out V hb)).1 (D9.out V (WV.out V hb)).2 HG.out.top.1 (Fo.wf_lf HG.out.wf) HG.out.ok.1 HG.out.ok.2 (Nat.le_trans HG.out.sh (by omega)))
      have C3 := Lib.hid (fun V (hb : Below w5.heap.size w5 V) => show Calls Tryz.prog 19 #[.pointer (some ⟨gp, 0, none⟩)] V fun e w' => ∃ A' c' ps', e = .returned (.slice A' nl c') ∧ Prs w' w'.heap.size A' nl ps' ∧ ps'.map kvP = ps.map kvP ∧ Below V.heap.size V w' from
        (clist_any (some (x, f)) (some ⟨gp, 0, none⟩) V (T9.out V (WV.out V hb)) HG.out.fits).mono fun e w' ⟨A', c', ys, h1, _, h3, h4, h5⟩ => by
          obtain ⟨ps', q1, _, q3⟩ := h3.prs (h4.trans HLV.out)
          have hl : ys.length = nl := by
            have := congrArg List.length h4
            rw [List.length_map, HLV.out, List.length_map, HNL.out] at this
            exact this
          rw [hl] at h1 q1
          exact ⟨A', c', ps', h1, q1, q3.trans HPS.out.symm, h5⟩)
      have C5 := Lib.hid (fun V (hb : Below w5.heap.size w5 V) => show Calls Tryz.prog 22 #[.pointer (some ⟨gp, 0, none⟩)] V fun e w' => e = .returned (.int .i64 (nl : Int)) ∧ Below V.heap.size V w' from by
        have := ccount_any (some (x, f)) (some ⟨gp, 0, none⟩) V (T9.out V (WV.out V hb)) HG.out.fits
        rwa [HCV.out] at this)
      have C6 := Lib.hid (fun V (hb : Below w5.heap.size w5 V) => show Calls Tryz.prog 20 #[.pointer (some ⟨gp, 0, none⟩)] V fun e w' => e = .returned (.int .i64 (dp : Int)) ∧ Below V.heap.size V w' from hdp ▸ cdepth_any (some (x, f)) (some ⟨gp, 0, none⟩) V (T9.out V (WV.out V hb)) HG.out.fits)
      have C7 := Lib.hid (fun V (hb : Below w5.heap.size w5 V) => show Calls Tryz.prog 21 #[.agg (dArr kd d xh xv)] V fun e w' => e = .returned (.int .i64 (dp : Int)) ∧ Below V.heap.size V w' from hdpe ▸ HCA.out ▸ rdepth_any x f w4.heap.size V (d.cells x f) (D9.out V (WV.out V hb)).1 (D9.out V (WV.out V hb)).2 (by omega))
      have C8 := Lib.hid (fun V (hb : Below w5.heap.size w5 V) => show Calls Tryz.prog 24 #[.pointer (some ⟨gp, 0, none⟩)] V fun e w' => e = .returned (.bool fb) ∧ Below V.heap.size V w' from hfb ▸ cfine_any (some (x, f)) (some ⟨gp, 0, none⟩) V (T9.out V (WV.out V hb)) HG.out.fits)
      have C9 := Lib.hid (fun V (hb : Below w5.heap.size w5 V) => show Calls Tryz.prog 32 #[.agg (dArr kd d xh xv)] V fun e w' => e = .returned (.bool fb) ∧ Below V.heap.size V w' from hffe ▸ HCA.out ▸ rfine_any x f w4.heap.size V (d.cells x f) (D9.out V (WV.out V hb)).1 (D9.out V (WV.out V hb)).2)
      have CB := Lib.hid (fun V (hb : Below w5.heap.size w5 V) => HAL.out V (BW.out V (WV.out V hb)))
      have HSM := Lib.hid (fun (V : World) (A' : Option Addr) (c' : Nat) (ps' : List PV) (hb : Below w5.heap.size w5 V) (h1 : Prs V V.heap.size A' nl ps') (h2 : ps'.map kvP = ps.map kvP) => csame_yes A' A5 nl c' c5 V.heap.size ps' ps V h1 ((P5.out.below hb).more hb.size) h2 (by omega))
      clear hsh hdp hfb hdpe hdpm hffe
      go_upto_region 11 with fail
      go_region_held3 (fun V => V.cell? ⟨gw, 0, none⟩ = some (.int .i64 kd) ∧ V.cell? ⟨gw, 1, none⟩ = some (.slice d.A d.n d.c) ∧ V.cell? ⟨gw, 2, none⟩ = some (.bool xh) ∧ V.cell? ⟨gw, 3, none⟩ = some (.int .u64 xv) ∧ V.cell? ⟨gw, 4, none⟩ = some (.slice d.Ab d.nb d.cb) ∧ V.cell? ⟨gw, 5, none⟩ = some (.slice d.Ak d.nk d.ck))
        (first
        | exact SV.out _ hbB
        | exact SV.out _ hb9
        | exact SV.out _ hb8
        | exact SV.out _ hb7
        | exact SV.out _ hb6
        | exact SV.out _ hb5
        | exact SV.out _ hb4
        | exact SV.out _ hb3
        | exact SV.out _ hb2
        | exact SV.out _ hb1
        | exact SV.out _ (Below.refl w5.heap.size w5).drew
        | exact SV.out _ (Below.refl w5.heap.size w5))
        (first
        | (go_at_call 16; (with_reducible refine (C1.out w5.drew (Below.refl w5.heap.size w5).drew).mono ?_); rintro e v1 ⟨rfl, q1⟩; have hb1 : Below w5.heap.size w5 v1 := (Below.refl w5.heap.size w5).drew.trans q1)
        | (go_at_call 17; (with_reducible refine (C2.out v1 hb1).mono ?_); rintro e v2 ⟨rfl, q2⟩; have hb2 : Below w5.heap.size w5 v2 := hb1.trans (q2.mono hb1.size))
        | (go_at_call 19; (with_reducible refine (C3.out v2 hb2).mono ?_); rintro e v3 ⟨A3, c3, ps3, rfl, pr3, hp3, q3⟩; have hb3 : Below w5.heap.size w5 v3 := hb2.trans (q3.mono hb2.size))
        | (go_at_call 18; (with_reducible refine (HSM.out v3 A3 c3 ps3 hb3 pr3 hp3).mono ?_); rintro e v4 ⟨rfl, q4⟩; have hb4 : Below w5.heap.size w5 v4 := hb3.trans (q4.below _))
        | (go_at_call 22; (with_reducible refine (C5.out v4 hb4).mono ?_); rintro e v5 ⟨rfl, q5⟩; have hb5 : Below w5.heap.size w5 v5 := hb4.trans (q5.mono hb4.size))
        | (go_at_call 20; (with_reducible refine (C6.out v5 hb5).mono ?_); rintro e v6 ⟨rfl, q6⟩; have hb6 : Below w5.heap.size w5 v6 := hb5.trans (q6.mono hb5.size))
        | (go_at_call 21; (with_reducible refine (C7.out v6 hb6).mono ?_); rintro e v7 ⟨rfl, q7⟩; have hb7 : Below w5.heap.size w5 v7 := hb6.trans (q7.mono hb6.size))
        | (go_at_call 24; (with_reducible refine (C8.out v7 hb7).mono ?_); rintro e v8 ⟨rfl, q8⟩; have hb8 : Below w5.heap.size w5 v8 := hb7.trans (q8.mono hb7.size))
        | (go_at_call 32; (with_reducible refine (C9.out v8 hb8).mono ?_); rintro e v9 ⟨rfl, q9⟩; have hb9 : Below w5.heap.size w5 v9 := hb8.trans (q9.mono hb8.size))
        | (go_at_call 10; (with_reducible refine (CB.out v9 hb9).mono ?_); rintro e vb ⟨rfl, qb⟩; have hbB : Below w5.heap.size w5 vb := hb9.trans (qb.mono hb9.size)))
      all_goals
        have BE := Lib.hid (BW.out _ (WV.out _ hbB))
        go_wp2
        go_ret
        exact ⟨rfl, BE.out⟩
set_option maxRecDepth 100000 in
theorem lifted (os : Os) (started : os.Started) (H : Type) (enc : TypeId × Value → H) :
    ReturnsInHanded {} Tryz.checked os 6 .any (fun w args => (Rows.canonRawsSpec.pre enc Tryz.prog Tryz.f6 [] false w args ∧ laidMetH Tryz.prog laid3 w) ∧ sizedMet enc Tryz.prog Tryz.f6 (OpenSpec.ofChange Rows.canonRawsSpec) false w args) (Rows.canonRawsSpec.post enc Tryz.prog Tryz.f6 false true false false) := by
  refine returnsInHanded_of_change_and (C := Tryz.checked) (X := fun w _ => laidMetH Tryz.prog laid3 w) (fun _ _ _ hh h => h.of_heap hh) own started (by kernel_rfl) Tryz.func6
    (ChangeSpec.witness_shaped (enc := enc) (C := Tryz.checked) (os := os) (X := fun w _ => laidMetH Tryz.prog laid3 w) false (World.doorLaid Tryz.prog 400 os) #[.slice none 0 0] 8 rfl (World.shaped_of_RefB (by kernel_rfl) (by kernel_rfl)) (by kernel_rfl) (by kernel_rfl) (by kernel_rfl) (door_met3 os _)) ?_
  intro W base args ds gs before hval0 hW _ _ hL _
  have hval : ∀ (j : Nat) t v, Tryz.f6.params[j]? = some t → args[j]? = some v → Value.okWide Tryz.prog W .any base t v := hval0
  have hW' := hW
  obtain ⟨p, q, hA0, hV, rfl, hfz, hnd⟩ := hW
  have hA : DataW.TrodAll enc Tryz.prog W 0 (fun _ => true) true Tryz.f6.params.toList args.toList ds p := hA0
  rw [Tryz.params6] at hA hval
  obtain ⟨v0, vs0, d0, ds0, p0, q0, hargs, rfl, rfl, h0, r0⟩ := trodAll_cons hA
  obtain ⟨rfl, rfl, rfl⟩ := trodAll_nil r0
  obtain rfl : args = #[v0] := by cases args; simp_all
  obtain ⟨rfl, rfl⟩ := trodVars_none hV
  have k0 := h0
  have lt0 : ∀ x ∈ p0, x.block < W.heap.size := by obtain ⟨m, hm⟩ := k0; exact DataW.trod_lt m _ _ _ hm
  obtain ⟨A0, n0, c0, l0, rfl, b0⟩ := open_raws (hval 0 66 v0 rfl rfl) h0
  clear hA0 hval0
  refine (walk A0 n0 c0 l0 W (of_laid3 hL) b0).mono fun e W' ⟨he, bel⟩ => ?_
  subst he
  exact ⟨_, rfl, _, _, _, [], _, [], hW', trodAll_mk1 (shut_bool Tryz.underlying4 _), (trodAll_cons_mk (Below.trod laidOut (by kernel_rfl) (of_decide_eq_true (by kernel_rfl)) k0 bel lt0) trodAll_mk0), rfl, bel.frame _, fun h => by cases h⟩

set_option maxRecDepth 100000 in
theorem proved : Rows.CanonRawsSaid :=
  OpenClaim.holds_of_wide 6 Tryz.f6 rfl rfl rfl rfl rfl rfl rfl ⟨rfl, rfl, rfl, rfl, rfl⟩ rfl rfl rfl rfl rfl (by kernel_rfl) Tryz.func6 (by kernel_rfl)
    (of_decide_eq_true (by kernel_rfl)) (by unfold Func.isWrapper; first | (rw [if_pos (by decide +kernel)]; kernel_rfl) | (rw [if_neg (by decide +kernel)]; exact ⟨rfl, rfl⟩))
    (fun os started H enc _ => lifted os started H enc)
set_option maxRecDepth 100000 in
theorem card_holds : Rows.CanonRawsCardSaid :=
  Claim7.holds_tied_plain_at .later [] [.data, .data, .data] true _ false
    proved (fun _ h => by cases h) (by kernel_rfl) (fun _ h => by cases h) canonRaws_row_tie rfl ⟨rfl, rfl⟩ (by kernel_rfl) rfl
    (fun f fn hf hfn => by
      obtain rfl : f = 6 := Option.some.inj ((show Tryz.prog.funcNamed "spunyarn/spunyarnlaw13.CanonRaws" = some 6 by kernel_rfl).symm.trans hf) |>.symm
      obtain rfl : fn = Tryz.f6 := (Option.some.inj (Tryz.func6.symm.trans hfn)).symm
      exact ⟨by kernel_rfl, fun j t ht => by
        rw [Tryz.params6] at ht
        have hm : t ∈ [66] := by simpa using Array.mem_of_getElem? ht
        have hall : ([66].all fun u => !Tryz.prog.wantsStandIn u) = true := by kernel_rfl
        exact (show Tryz.prog.wantsStandIn t = false by simpa using List.all_eq_true.1 hall t hm)⟩)
    (by kernel_rfl)
end Go.Proofs.YtcfokkojoppmkaaGreatDoor.canonRaws
