/-
  Proved here: what takes a key out makes at most as many nodes as were gone into, and two; none, if it is not there, and then it is the tree itself; taken out again, nothing is made; nothing that came in is turned. The one condition is the card's own: the table of the powers of ten lies as the program's library lays it (tied).
-/
import Derived.Test.YtcbgieoiefbeiaaGreatDoorDelW
import Derived.Test.YtcbgieoiefbeiaaGreatDoorEqs
import Derived.Test.YtcbgieoiefbeiaaGreatDoorRow
import Derived.Test.YtcbgieoiefbeiaaGreatDoorTie
import Derived.Test.YtcbgieoiefbeiaaGreatDoorCards
import Derived.SevenTiedAt
namespace Go.Proofs.YtcbgieoiefbeiaaGreatDoor.delMade
open Go.ChangeShapes Go.WideShapes Go.ChangeAt Go.RowKit

theorem steps_dep (t : Option (Nn × Fo)) (l : List UInt8) (a : Nat) : (ogo t l a).length ≤ dpV (otvis t) := by
  cases t with
  | none => exact Nat.zero_le _
  | some t =>
    obtain ⟨x, k⟩ := t
    rw [dpV_dep]
    exact tgo_dep x k l a
set_option maxRecDepth 100000 in
set_option maxHeartbeats 4000000 in
theorem walk (A : Option Addr) (n c : Nat) (ps : List PV) (A' : Option Addr) (n' c' : Nat) (key : List UInt8) (W : World) (htb : Tb W) (ha : Prs W W.heap.size A n ps) (hk : Kps W W.heap.size ps) (_ : n ≤ c) (hv : ∀ p ∈ ps, 0 ≤ p.val ∧ p.val ≤ 18446744073709551615) (hb : Byt W W.heap.size A' n' key) (hnc' : n' ≤ c') :
    Calls Tryz.prog 4 #[.slice A n c, .slice A' n' c'] W fun e w' => e = .returned (.bool true) ∧ Below W.heap.size W w' := by
  have hle : 0 < W.heap.size := htb.lt
  have HTB := Lib.hid (fun (V : World) (h : Below W.heap.size W V) => htb.below h hle)
  have HAL := Lib.hid (fun (V : World) (h : Below W.heap.size W V) => dalive_any V (htb.below h hle))
  have HZ := Lib.hid (fun (V : World) (h : Below W.heap.size W V) => h)
  have HA := Lib.hid (fun (V : World) (h : Below W.heap.size W V) => ha.below h)
  have HK := Lib.hid (fun (V : World) (h : Below W.heap.size W V) => hk.below h)
  have HB := Lib.hid (fun (V : World) (h : Below W.heap.size W V) => hb.below h)
  have hn9 : n' ≤ 9223372036854775807 := by have := hb.2.1; unfold maxLen at this; omega
  have H1 := pfar_any A n c W.heap.size 200 ps W ha (Nat.le_refl _) (by omega)
  rw [show ((200 : Nat) : Int) = 200 from rfl] at H1
  have H1 := Lib.hid H1
  have HV := Lib.hid hv
  have HC := Lib.hid hnc'
  have HLN := Lib.hid ha.1
  have HKL := Lib.hid hb.1
  clear htb ha hk hb hnc' hv hle
  go_enter Tryz.func4, Tryz.ntmps4
  go_wp2_with fail
  (with_reducible refine H1.out.mono ?_)
  rintro e w1 ⟨rfl, b1⟩
  have B1 := Lib.hid b1
  obtain ⟨fb, hfb⟩ : ∃ b, farP ps 200 = b := ⟨_, rfl⟩
  rw [hfb]
  have HFB := Lib.hid hfb
  clear b1 hfb H1
  by_cases hfar : fb = true ∨ 600 < n'
  · have H2 := Lib.hid (HAL.out w1 B1.out)
    cases fb with
    | true =>
      clear hfar
      go_wp2_with fail
      (with_reducible refine H2.out.mono ?_)
      rintro e w2 ⟨rfl, b2⟩
      have B2 := Lib.hid (HZ.out w2 (B1.out.trans (b2.mono B1.out.size)))
      clear b2
      go_wp2_with fail
      go_ret
      exact ⟨rfl, B2.out⟩
    | false =>
      have i1 : decide ((600 : Int) < (n' : Int)) = true := decide_eq_true (by
        rcases hfar with q | q
        · cases q
        · omega)
      clear hfar
      go_wp2_with fail
      (with_reducible refine H2.out.mono ?_)
      rintro e w2 ⟨rfl, b2⟩
      have B2 := Lib.hid (HZ.out w2 (B1.out.trans (b2.mono B1.out.size)))
      clear b2
      go_wp2_with fail
      go_ret
      exact ⟨rfl, B2.out⟩
  · have hfb : fb = false := by
      cases fb with
      | false => rfl
      | true => exact absurd (.inl rfl) hfar
    subst hfb
    have hq : n' ≤ 600 := by
      rcases Nat.lt_or_ge 600 n' with q | q
      · exact absurd (.inr q) hfar
      · exact q
    obtain ⟨f1, f2⟩ := farP_no HFB.out
    have hn200 : n ≤ 200 := by have := HLN.out; omega
    have F2 := Lib.hid f2
    have HS := Lib.hid (rsort_any A n c W.heap.size ps w1 (HA.out w1 B1.out) (HK.out w1 B1.out) B1.out.size (by omega))
    have HSM := Lib.hid hq
    have i1 : decide ((600 : Int) < (n' : Int)) = false := decide_eq_false (by omega)
    clear hfar f1 f2 hq
    go_wp2_with fail
    (with_reducible refine HS.out.mono ?_)
    rintro e w2 ⟨A2, c2, rfl, hc2, p2, _, b2⟩
    obtain ⟨ps2, hps2⟩ : ∃ l, sortS ps = l := ⟨_, rfl⟩
    obtain ⟨n2, hn2⟩ : ∃ k, (sortS ps).length = k := ⟨_, rfl⟩
    have hn2a : n2 ≤ 200 := by
      have := (sortS_len ps).1
      have := HLN.out
      omega
    have hrs : Rsn ps2 := hps2 ▸ sortS_rise ps
    have hk2 : ∀ p ∈ ps2, p.key.length ≤ 300 := hps2 ▸ sortS_all (P := fun p => p.key.length ≤ 300) (fun _ _ h _ => h) F2.out
    have hv2 : ∀ p ∈ ps2, 0 ≤ p.val ∧ p.val ≤ 18446744073709551615 := hps2 ▸ sortS_all (P := fun p => 0 ≤ p.val ∧ p.val ≤ 18446744073709551615) (fun _ _ _ h => h) HV.out
    rw [hn2] at p2 hc2 ⊢
    rw [hps2] at p2 hn2
    have b2' : Below W.heap.size W w2 := B1.out.trans (b2.mono B1.out.size)
    have hkp : ∀ V, Below W.heap.size W V → Kps V W.heap.size ps2 := fun V hb => hps2 ▸ Kps.sort (HK.out V hb)
    have ZV := Lib.hid (fun V (h : Below w2.heap.size w2 V) => show Prs V w2.heap.size A2 n2 ps2 ∧ Kps V w2.heap.size ps2 ∧ Below W.heap.size W V from
      have hW : Below W.heap.size W V := b2'.trans (h.mono b2'.size)
      ⟨p2.below h, (hkp V hW).more b2'.size, hW⟩)
    have HT := Lib.hid (ptree_any (o := 1) (by omega) A2 n2 c2 w2.heap.size ps2 w2 p2 ((hkp w2 b2').more b2'.size) (Nat.le_refl _) (by omega) hrs hk2)
    have HRS := Lib.hid hrs
    have HK2 := Lib.hid hk2
    have HV2 := Lib.hid hv2
    have HC2 := Lib.hid hc2
    have HN2 := Lib.hid hn2
    clear hps2 hrs hk2 hv2 hkp p2 b2 b2' hn2 hc2 HS
    go_wp2_with fail
    (with_reducible refine HT.out.mono ?_)
    rintro e w3 ⟨p, rfl, t3, b3⟩
    have T3 := Lib.hid (OTow.here t3)
    have B3 := Lib.hid b3
    clear t3 b3 HT
    have HPX := Lib.hid (show oall (fun q => q = 1) (bTr 1 301 (rel 0 ps2)) ∧ OCan ps2 (bTr 1 301 (rel 0 ps2)) from by
      have h1 := bTr_ocan 1 HRS.out 301 (fun p hp => by have := HK2.out p hp; omega)
      exact ⟨h1.2, h1.1⟩)
    obtain ⟨t, ht⟩ : ∃ t, bTr 1 301 (rel 0 ps2) = t := ⟨_, rfl⟩
    rw [ht] at T3 HPX
    have HFT := Lib.hid (HPX.out.2.o (fun p hp => by have := HK2.out p hp; omega) (by have := HN2.out; omega) HV2.out)
    -- the meter
    obtain ⟨W4, hW4⟩ : ∃ V, w3.alloc (.cells #[.int .i64 0] 43) = V := ⟨_, rfl⟩
    have b4 : Below w3.heap.size w3 W4 := by rw [← hW4]; exact (Below.refl _ _).alloc (Nat.le_refl _) _
    have s4 : W4.heap.size = w3.heap.size + 1 := by rw [← hW4]; simp
    have m4 : Lst W4 w3.heap.size [.int .i64 0] := by rw [← hW4]; exact Blk.new w3 _ _
    have HZ3 := Lib.hid (fun (V : World) (h : Below w3.heap.size w3 V) => (ZV.out V (B3.out.trans (h.mono B3.out.size))).2.2)
    have hz30 : W.heap.size ≤ w3.heap.size := (HZ3.out w3 (Below.refl _ _)).size
    have HKY := Lib.hid (fun (V : World) (h : Below w3.heap.size w3 V) => (HB.out V (HZ3.out V h)))
    have T4 : OTre W4 (· < w3.heap.size) t p := by
      have h1 := T3.out
      cases t with
      | none => exact h1
      | some xk =>
        obtain ⟨g, e, h2⟩ := h1
        exact ⟨g, e, h2.below (fun _ q => q) b4⟩
    have hM : ∀ q ∈ olist t, q.1.length ≤ 1000000 := fun q hq => by
      rw [HPX.out.2.list] at hq
      obtain ⟨p, hp, rfl⟩ := List.mem_map.1 hq
      have := HK2.out p hp
      show p.key.length ≤ _
      omega
    obtain ⟨g1, g2, hg⟩ : ∃ g1 g2, firstK (olist t) key = (g1, g2) := ⟨_, _, rfl⟩
    have hp4 : Pre W4 2 (· < w3.heap.size) (fun _ => False) (some w3.heap.size) [] 0 (oway 2 t key + 1) := ⟨by decide, fun i hi => ⟨fun q => q, by omega⟩, fun g hg => by
      injection hg with hg
      subst hg
      exact ⟨m4, by decide, by decide⟩, fun i hi => ⟨fun q => by injection hi with hi; omega, fun q => q⟩, by
      have h2 := oway_le 2 t key 0
      have h3 := ogo_len t key 0
      have h4 := HKL.out
      have h5 := HSM.out
      omega⟩
    have hky : ∀ V, Kept (fun q => False ∨ (some w3.heap.size : Option Nat) = some q) W4 V → Byt V W4.heap.size A' n' key := fun V hk => (HKY.out V (b4.trans (hk.below (by omega) (fun g q => q.elim (fun z => z.elim) (fun z => by injection z with z; omega))))).more (by omega)
    have H5 := del_any (o := 2) (c := c') (D := fun _ => False) (OTow.of_no T4 (oall_mono (fun q e => by rw [e]; decide) HPX.out.1)) HPX.out.2.srt HPX.out.2.owf HPX.out.2.good hM hp4 hky HC.out (by have := HSM.out; omega)
    rw [show mtr (some w3.heap.size) = .pointer (some ⟨w3.heap.size, 0, none⟩) from rfl] at H5
    have H5 := Lib.hid H5
    have HB4 := Lib.hid b4
    have HS4 := Lib.hid s4
    have HG := Lib.hid hg
    have HM := Lib.hid hM
    clear hp4 hky m4 b4 s4 T4 ht hg hM
    go_wp2_with fail
    clear hW4
    (with_reducible refine H5.out.mono ?_)
    rintro e w5 ⟨p5, D5, j5, rfl, s5, b5, e5⟩
    rw [HG.out] at e5 ⊢
    dsimp only at e5 ⊢
    have bw5 : Below w3.heap.size w3 w5 := HB4.out.trans (s5.kept.below (by have := HS4.out; omega) (fun g q => q.elim (fun z => z.elim) (fun z => by injection z with z; omega)))
    have hc5 : Lst w5 w3.heap.size [.int .i64 (j5 : Int)] := by
      have h1 := s5.num _ rfl
      rwa [Int.zero_add] at h1
    obtain ⟨m, hm⟩ : ∃ m, (ogo t key 0).length = m := ⟨_, rfl⟩
    have hj1 : j5 ≤ m + 2 := by
      have h2 := oway_le 2 t key 0
      omega
    have hm6 : m ≤ 601 := by
      have h3 := ogo_len t key 0
      have h4 := HKL.out
      have h5 := HSM.out
      omega
    obtain ⟨dp, hdp⟩ : ∃ d, dpV (otvis t) = d := ⟨_, rfl⟩
    have hmd : m ≤ dp := by have := steps_dep t key 0; omega
    have hdp9 : dp ≤ 1000 := by have := HFT.out.dp; omega
    have T5 : OTre w5 (· < w5.heap.size) t p := T3.out.below bw5
    have H6 := fsteps_any t p A' n' c' key w5 T5 ((HKY.out w5 bw5).more (Nat.le_trans hz30 bw5.size)) HC.out (by have := HSM.out; omega)
    rw [hm] at H6
    have H6 := Lib.hid H6
    have S5 := Lib.hid s5
    have E5 := Lib.hid e5
    have BW5 := Lib.hid bw5
    have HC5 := Lib.hid hc5
    have HT5 := Lib.hid T5
    have HDP := Lib.hid hdp
    have HCO := Lib.hid (fun (V : World) (h : Below w5.heap.size w5 V) => count_any (g := w3.heap.size) (m := (j5 : Int)) (w := V) ((Blk.below HC5.out h (Blk.lt HC5.out)).cell 0))
    have H5c := Lib.hid (HCO.out w5 (Below.refl _ _))
    clear s5 b5 e5 bw5 hc5 T5 hm hdp H5
    go_wp2_with fail
    (with_reducible refine H5c.out.mono ?_)
    rintro e w6 ⟨rfl, hw⟩
    obtain rfl : w5 = w6 := hw.symm
    clear H5c
    go_wp2_with fail
    (with_reducible refine H6.out.mono ?_)
    rintro e w6 ⟨rfl, b6⟩
    -- what is counted
    have B6 := Lib.hid b6
    have H8 := Lib.hid (HCO.out w6 b6)
    have ew2 : IntKind.i64.wrap ((m : Int) + 2) = (m : Int) + 2 := by rw [IntKind.wrap_i64]; omega
    have id1 : decide ((m : Int) + 2 < (j5 : Int)) = false := decide_eq_false (by omega)
    clear b6 H6
    go_wp2_with fail
    (with_reducible refine H8.out.mono ?_)
    rintro e w8 ⟨rfl, hw⟩
    obtain rfl : w6 = w8 := hw.symm
    have H9 := cdepth_any t p w6 (HT5.out.below B6.out) HFT.out.fits
    rw [HDP.out] at H9
    have H9 := Lib.hid H9
    clear H8 ew2 id1
    go_wp2_with fail
    (with_reducible refine H9.out.mono ?_)
    rintro e w9 ⟨rfl, b9⟩
    have B9 := Lib.hid (B6.out.trans (b9.mono B6.out.size))
    have ew3 : IntKind.i64.wrap ((dp : Int) + 2) = (dp : Int) + 2 := by rw [IntKind.wrap_i64]; omega
    have id2 : decide ((dp : Int) + 2 < (j5 : Int)) = false := decide_eq_false (by omega)
    have BW9 := Lib.hid (BW5.out.trans (B9.out.mono BW5.out.size))
    have H10 := Lib.hid (thas_any HPX.out.2.owf (HT5.out.below B9.out) (HKY.out w9 BW9.out) (Nat.le_trans hz30 BW9.out.size) HC.out (by have := HSM.out; omega) HG.out)
    clear b9 H9
    go_wp2_with fail
    (with_reducible refine H10.out.mono ?_)
    rintro e w9b ⟨rfl, b9b⟩
    have B9b := Lib.hid (B9.out.trans (b9b.mono B9.out.size))
    have BW9b := Lib.hid (BW5.out.trans (B9b.out.mono BW5.out.size))
    have hgg : (g2 != g2) = false := by simp
    -- what is left has not the key
    have hcn : OCan (delS key ps2) (odels 2 t key) := HPX.out.2.dels HRS.out 2 key
    have hno : ∀ q ∈ olist (odels 2 t key), q.1 ≠ key := fun q hq => by
      rw [hcn.list] at hq
      exact ((delS_mem q).1 hq).2
    obtain ⟨gz, hgz⟩ : ∃ gz, firstK (olist (odels 2 t key)) key = (gz, false) := by
      rcases firstK_cases (olist (odels 2 t key)) key with ⟨_, q⟩ | ⟨q, hq, e, _⟩
      · exact ⟨_, q⟩
      · exact absurd e (hno q hq)
    have hall2 : oall (fun q => q ≠ 3) (odels 2 t key) := odels_all (P := fun q => q ≠ 3) (by decide) (oall_mono (fun q e => by rw [e]; decide) HPX.out.1) key
    obtain ⟨T2, hT2⟩ : ∃ T, odels 2 t key = T := ⟨_, rfl⟩
    have hs5 := S5.out
    rw [hT2] at hcn hgz hall2 hs5
    have t9 : OTre w9b (fun i => i < w5.heap.size ∧ i ≠ w3.heap.size) T2 p5 := by
      have h1 := hs5.tre
      have hw4 := HS4.out
      have h2 : OTre w5 (fun i => i < w5.heap.size ∧ i ≠ w3.heap.size) T2 p5 := by
        refine OTre.mono (OTre.mono h1 (fun i q => q)) (fun i q => ?_)
        have hz5 : w3.heap.size < w5.heap.size := Blk.lt HC5.out
        rcases q with z | ⟨z | z, y⟩
        · exact ⟨by omega, by omega⟩
        · exact z.elim
        · exact ⟨y, by omega⟩
      cases T2 with
      | none => exact h2
      | some T =>
        obtain ⟨g, e, h3⟩ := h2
        exact ⟨g, e, h3.below (fun i q => q.1) B9b.out⟩
    have H11 := Lib.hid (thas_any hcn.owf (OTre.here t9) (HKY.out w9b BW9b.out) (Nat.le_trans hz30 BW9b.out.size) HC.out (by have := HSM.out; omega) hgz)
    have HT2 := Lib.hid t9
    have HCN := Lib.hid hcn
    have HGZ := Lib.hid hgz
    have HAL2 := Lib.hid hall2
    clear b9b H10 ew3 hcn hno hgz hall2 hT2 hs5 t9
    go_wp2_with fail
    (with_reducible refine H11.out.mono ?_)
    rintro e w10 ⟨rfl, b10⟩
    have B10 := Lib.hid (B9b.out.trans (b10.mono B9b.out.size))
    have BW10 := Lib.hid (BW5.out.trans (B10.out.mono BW5.out.size))
    -- taken out again
    have t10 : OTre w10 (fun i => i < w5.heap.size ∧ i ≠ w3.heap.size) T2 p5 := by
      have h2 := HT2.out
      have hzz := B9b.out.size
      cases T2 with
      | none => exact h2
      | some T =>
        obtain ⟨g, e, h3⟩ := h2
        exact ⟨g, e, h3.below (fun i q => by have := q.1; omega) b10⟩
    have hzb := B10.out.size
    have hz3 : w3.heap.size < w5.heap.size := Blk.lt HC5.out
    have hp10 : Pre w10 3 (fun i => i < w5.heap.size ∧ i ≠ w3.heap.size) (fun _ => False) (some w3.heap.size) [] (j5 : Int) (oway 3 T2 key + 1) := ⟨by decide, fun i hi => ⟨fun q => q, by have := hi.1; omega⟩, fun g hg => by
      injection hg with hg
      subst hg
      exact ⟨Blk.below HC5.out B10.out (Blk.lt HC5.out), by omega, by omega⟩, fun i hi => ⟨fun q => by injection hi with hi; exact q.2 hi.symm, fun q => q⟩, by
      have h2 := oway_le 3 T2 key 0
      have h3 := ogo_len T2 key 0
      have h4 := HKL.out
      have h5 := HSM.out
      omega⟩
    have hky : ∀ V, Kept (fun q => False ∨ (some w3.heap.size : Option Nat) = some q) w10 V → Byt V w10.heap.size A' n' key := fun V hk => (HKY.out V (BW10.out.trans (hk.below (by omega) (fun g q => q.elim (fun z => z.elim) (fun z => by injection z with z; omega))))).more (by omega)
    have hM2 : ∀ q ∈ olist T2, q.1.length ≤ 1000000 := fun q hq => by
      rw [HCN.out.list] at hq
      obtain ⟨p, hp, rfl⟩ := List.mem_map.1 hq
      have := HK2.out p (delS_sub p hp)
      show p.key.length ≤ _
      omega
    have H12 := del_any (o := 3) (c := c') (D := fun _ => False) (OTow.of_no t10 HAL2.out) HCN.out.srt HCN.out.owf HCN.out.good hM2 hp10 hky HC.out (by have := HSM.out; omega)
    rw [show mtr (some w3.heap.size) = .pointer (some ⟨w3.heap.size, 0, none⟩) from rfl] at H12
    have H12 := Lib.hid H12
    have H13 := Lib.hid (HCO.out w10 B10.out)
    clear b10 t10 hp10 hky hM2 hzb hz3 H11
    have heq := eql_self p5
    have hcc : ((j5 : Int) == (j5 : Int)) = true := beq_self_eq_true _
    cases g2 with
    | false =>
      obtain ⟨hj0, hpu⟩ := E5.out rfl
      have hj0' : ((j5 : Int) != 0) = false := by rw [hj0]; rfl
      have hnq := neq_self p5
      rw [← hpu]
      clear hj0 hpu
      go_wp2_with fail
      (with_reducible refine H13.out.mono ?_)
      rintro e w11 ⟨rfl, hw⟩
      obtain rfl : w10 = w11 := hw.symm
      go_wp2_with fail
      (with_reducible refine H13.out.mono ?_)
      rintro e w11 ⟨rfl, hw⟩
      obtain rfl : w10 = w11 := hw.symm
      go_wp2_with fail
      (with_reducible refine H12.out.mono ?_)
      rintro e w12 ⟨p12, D12, j12, rfl, s12, _, e12⟩
      rw [HGZ.out] at e12 ⊢
      dsimp only at e12 ⊢
      obtain ⟨hj12, hu12⟩ := e12 rfl
      subst hj12
      subst hu12
      have hk12 : Below w3.heap.size w10 w12 := s12.kept.below (by have := BW10.out.size; omega) (fun g q => q.elim (fun z => z.elim) (fun z => by injection z with z; omega))
      have hc12 : w12.cell? ⟨w3.heap.size, 0, none⟩ = some (.int .i64 (j5 : Int)) := by
        have h1 := s12.num _ rfl
        rw [Int.natCast_zero, Int.add_zero] at h1
        exact h1.cell 0
      have HCT := Lib.hid (count_any (g := w3.heap.size) (m := (j5 : Int)) (w := w12) hc12)
      have BW12 := Lib.hid (BW10.out.trans hk12)
      have H14 := Lib.hid (HAL.out w12 (HZ3.out w12 (BW10.out.trans hk12)))
      clear s12 e12 hk12 hc12
      go_wp2_with fail
      (with_reducible refine HCT.out.mono ?_)
      rintro e w13 ⟨rfl, hw⟩
      obtain rfl : w12 = w13 := hw.symm
      go_wp2_with fail
      (with_reducible refine H14.out.mono ?_)
      rintro e w14 ⟨rfl, b14⟩
      have B14 := Lib.hid (HZ.out w14 ((HZ3.out w12 BW12.out).trans (b14.mono (HZ3.out w12 BW12.out).size)))
      clear b14
      go_wp2_with fail
      go_ret
      exact ⟨rfl, B14.out⟩
    | true =>
      go_wp2_with fail
      (with_reducible refine H13.out.mono ?_)
      rintro e w11 ⟨rfl, hw⟩
      obtain rfl : w10 = w11 := hw.symm
      go_wp2_with fail
      (with_reducible refine H12.out.mono ?_)
      rintro e w12 ⟨p12, D12, j12, rfl, s12, _, e12⟩
      rw [HGZ.out] at e12 ⊢
      dsimp only at e12 ⊢
      obtain ⟨hj12, hu12⟩ := e12 rfl
      subst hj12
      subst hu12
      have hk12 : Below w3.heap.size w10 w12 := s12.kept.below (by have := BW10.out.size; omega) (fun g q => q.elim (fun z => z.elim) (fun z => by injection z with z; omega))
      have hc12 : w12.cell? ⟨w3.heap.size, 0, none⟩ = some (.int .i64 (j5 : Int)) := by
        have h1 := s12.num _ rfl
        rw [Int.natCast_zero, Int.add_zero] at h1
        exact h1.cell 0
      have HCT := Lib.hid (count_any (g := w3.heap.size) (m := (j5 : Int)) (w := w12) hc12)
      have BW12 := Lib.hid (BW10.out.trans hk12)
      have H14 := Lib.hid (HAL.out w12 (HZ3.out w12 (BW10.out.trans hk12)))
      clear s12 e12 hk12 hc12
      go_wp2_with fail
      (with_reducible refine HCT.out.mono ?_)
      rintro e w13 ⟨rfl, hw⟩
      obtain rfl : w12 = w13 := hw.symm
      go_wp2_with fail
      (with_reducible refine H14.out.mono ?_)
      rintro e w14 ⟨rfl, b14⟩
      have B14 := Lib.hid (HZ.out w14 ((HZ3.out w12 BW12.out).trans (b14.mono (HZ3.out w12 BW12.out).size)))
      clear b14
      go_wp2_with fail
      go_ret
      exact ⟨rfl, B14.out⟩
set_option maxRecDepth 100000 in
theorem lifted (os : Os) (started : os.Started) (H : Type) (enc : TypeId × Value → H) :
    ReturnsInHanded {} Tryz.checked os 4 .any (fun w args => (Rows.delMadeSpec.pre enc Tryz.prog Tryz.f4 [] false w args ∧ laidMetH Tryz.prog laid3 w) ∧ sizedMet enc Tryz.prog Tryz.f4 (OpenSpec.ofChange Rows.delMadeSpec) false w args) (Rows.delMadeSpec.post enc Tryz.prog Tryz.f4 false true false false) := by
  refine returnsInHanded_of_change_and (C := Tryz.checked) (X := fun w _ => laidMetH Tryz.prog laid3 w) (fun _ _ _ hh h => h.of_heap hh) own started (by kernel_rfl) Tryz.func4
    (ChangeSpec.witness_shaped (enc := enc) (C := Tryz.checked) (os := os) (X := fun w _ => laidMetH Tryz.prog laid3 w) false (World.doorLaid Tryz.prog 400 os) #[.slice none 0 0, .slice none 0 0] 8 rfl (World.shaped_of_RefB (by kernel_rfl) (by kernel_rfl)) (by kernel_rfl) (by kernel_rfl) (by kernel_rfl) (door_met3 os _)) ?_
  intro W base args ds gs before hval0 hW _ _ hL _
  have hval : ∀ (j : Nat) t v, Tryz.f4.params[j]? = some t → args[j]? = some v → Value.okWide Tryz.prog W .any base t v := hval0
  have hW' := hW
  obtain ⟨p, q, hA0, hV, rfl, hfz, hnd⟩ := hW
  have hA : DataW.TrodAll enc Tryz.prog W 0 (fun _ => true) true Tryz.f4.params.toList args.toList ds p := hA0
  rw [Tryz.params4] at hA hval
  obtain ⟨v0, vs0, d0, ds0, p0, q0, hargs, rfl, rfl, h0, r0⟩ := trodAll_cons hA
  obtain ⟨v1, vs1, d1, ds1, p1, q1, rfl, rfl, rfl, h1, r1⟩ := trodAll_cons r0
  obtain ⟨rfl, rfl, rfl⟩ := trodAll_nil r1
  obtain rfl : args = #[v0, v1] := by cases args; simp_all
  obtain ⟨rfl, rfl⟩ := trodVars_none hV
  have k0 := h0
  have lt0 : ∀ x ∈ p0, x.block < W.heap.size := by obtain ⟨m, hm⟩ := k0; exact DataW.trod_lt m _ _ _ hm
  have k1 := h1
  have lt1 : ∀ x ∈ p1, x.block < W.heap.size := by obtain ⟨m, hm⟩ := k1; exact DataW.trod_lt m _ _ _ hm
  obtain ⟨A0, n0, c0, l0, rfl, b0, kp0, nc0, vl0⟩ := open_kps (hval 0 22 v0 rfl rfl) h0
  obtain ⟨A1, n1, c1, l1, rfl, b1, nc1⟩ := open_byt (hval 1 23 v1 rfl rfl) h1
  clear hA0 hval0
  refine (walk A0 n0 c0 l0 A1 n1 c1 l1 W (of_laid3 hL) b0 kp0 nc0 vl0 b1 nc1).mono fun e W' ⟨he, bel⟩ => ?_
  subst he
  exact ⟨_, rfl, _, _, _, [], _, [], hW', trodAll_mk1 (shut_bool Tryz.underlying4 _), (trodAll_cons_mk (Below.trod laidOut (by kernel_rfl) (of_decide_eq_true (by kernel_rfl)) k0 bel lt0) (trodAll_cons_mk (Below.trod laidOut (by kernel_rfl) (of_decide_eq_true (by kernel_rfl)) k1 bel lt1) trodAll_mk0)), rfl, bel.frame _, fun h => by cases h⟩

set_option maxRecDepth 100000 in
theorem proved : Rows.DelMadeSaid :=
  OpenClaim.holds_of_wide 4 Tryz.f4 rfl rfl rfl rfl rfl rfl rfl ⟨rfl, rfl, rfl, rfl, rfl⟩ rfl rfl rfl rfl rfl (by kernel_rfl) Tryz.func4 (by kernel_rfl)
    (of_decide_eq_true (by kernel_rfl)) (by unfold Func.isWrapper; first | (rw [if_pos (by decide +kernel)]; kernel_rfl) | (rw [if_neg (by decide +kernel)]; exact ⟨rfl, rfl⟩))
    (fun os started H enc _ => lifted os started H enc)
set_option maxRecDepth 100000 in
theorem card_holds : Rows.DelMadeCardSaid :=
  Claim7.holds_tied_plain_at .later [] [.data, .data, .data] true _ false
    proved (fun _ h => by cases h) (by kernel_rfl) (fun _ h => by cases h) delMade_row_tie rfl ⟨rfl, rfl⟩ (by kernel_rfl) rfl
    (fun f fn hf hfn => by
      obtain rfl : f = 4 := Option.some.inj ((show Tryz.prog.funcNamed "spunyarn/spunyarnlaw16.DelMade" = some 4 by kernel_rfl).symm.trans hf) |>.symm
      obtain rfl : fn = Tryz.f4 := (Option.some.inj (Tryz.func4.symm.trans hfn)).symm
      exact ⟨by kernel_rfl, fun j t ht => by
        rw [Tryz.params4] at ht
        have hm : t ∈ [22, 23] := by simpa using Array.mem_of_getElem? ht
        have hall : ([22, 23].all fun u => !Tryz.prog.wantsStandIn u) = true := by kernel_rfl
        exact (show Tryz.prog.wantsStandIn t = false by simpa using List.all_eq_true.1 hall t hm)⟩)
    (by kernel_rfl)
end Go.Proofs.YtcbgieoiefbeiaaGreatDoor.delMade
