/-
  Proved here: what is put where nothing was, and taken out again, leaves the tree as it was; what is taken out, and put again, too; nothing that came in is turned. The one condition is the card's own: the table of the powers of ten lies as the program's library lays it (tied).
-/
import Derived.Test.YtcbgieoiefbeiaaGreatDoorDelW
import Derived.Test.YtcbgieoiefbeiaaGreatDoorRow
import Derived.Test.YtcbgieoiefbeiaaGreatDoorTie
import Derived.Test.YtcbgieoiefbeiaaGreatDoorCards
import Derived.SevenTiedAt
namespace Go.Proofs.YtcbgieoiefbeiaaGreatDoor.delBack
open Go.ChangeShapes Go.WideShapes Go.ChangeAt Go.RowKit

theorem same_o {ps qs : List PV} {t : Option (Nn × Fo)} (h : OCan ps t) (e : qs.map kvP = ps.map kvP) : OCan qs t := by
  cases t with
  | none =>
    obtain rfl : ps = [] := h
    show qs = []
    simpa using e
  | some T => exact Can.same h e
/-- Taken out, and put again. -/
theorem del_ins {ps : List PV} (hr : Rsn ps) {x : PV} (hm : (x.key, x.val) ∈ ps.map kvP) : ps.map kvP = (insS x (delS x.key ps)).map kvP := by
  refine riseK_same (by unfold Rise; rw [List.pairwise_map]; exact hr) (by unfold Rise; rw [List.pairwise_map]; exact insS_rise (delS_rise hr)) fun q => ?_
  rw [insS_mem (delS_rise hr) x q, delS_mem]
  constructor
  · intro h
    by_cases e : q.1 = x.key
    · exact .inl (rise_one (by unfold Rise; rw [List.pairwise_map]; exact hr) h hm e)
    · exact .inr ⟨⟨h, e⟩, e⟩
  · rintro (rfl | ⟨⟨h, _⟩, _⟩)
    · exact hm
    · exact h
/-- Put, and taken out again. -/
theorem ins_del {ps : List PV} (hr : Rsn ps) {x : PV} (hm : ∀ q ∈ ps.map kvP, q.1 ≠ x.key) : ps.map kvP = (delS x.key (insS x ps)).map kvP := by
  refine riseK_same (by unfold Rise; rw [List.pairwise_map]; exact hr) (by unfold Rise; rw [List.pairwise_map]; exact delS_rise (insS_rise hr)) fun q => ?_
  rw [delS_mem, insS_mem hr x q]
  constructor
  · intro h
    exact ⟨.inr ⟨h, hm q h⟩, hm q h⟩
  · rintro ⟨rfl | ⟨h, _⟩, h2⟩
    · exact absurd rfl h2
    · exact h
set_option maxRecDepth 100000 in
set_option maxHeartbeats 4000000 in
theorem walk (A : Option Addr) (n c : Nat) (ps : List PV) (A' : Option Addr) (n' c' : Nat) (key : List UInt8) (pv : Int) (W : World) (htb : Tb W) (ha : Prs W W.heap.size A n ps) (hk : Kps W W.heap.size ps) (_ : n ≤ c) (hv : ∀ p ∈ ps, 0 ≤ p.val ∧ p.val ≤ 18446744073709551615) (hb : Byt W W.heap.size A' n' key) (hnc' : n' ≤ c') (hpv : 0 ≤ pv ∧ pv ≤ 18446744073709551615) :
    Calls Tryz.prog 6 #[.slice A n c, .agg #[.slice A' n' c', .int .u64 pv]] W fun e w' => e = .returned (.bool true) ∧ Below W.heap.size W w' := by
  obtain ⟨W0, hW0⟩ : ∃ V, W.alloc (.cells #[.slice A' n' c', .int .u64 pv] 53) = V := ⟨_, rfl⟩
  have bW : Below W.heap.size W W0 := by rw [← hW0]; exact (Below.refl _ _).alloc (Nat.le_refl _) _
  have sW : W0.heap.size = W.heap.size + 1 := by rw [← hW0, World.size_alloc]
  have kW : Blk W0 W.heap.size #[.slice A' n' c', .int .u64 pv] := by rw [← hW0]; exact Blk.new W _ _
  have HBX := Lib.hid (fun (V : World) (h : Below W0.heap.size W0 V) => show (V.cell? ⟨W.heap.size, 0, none⟩ = some (.slice A' n' c') ∧ V.cell? ⟨W.heap.size, 1, none⟩ = some (.int .u64 pv)) from by
    have h1 : Blk V W.heap.size #[.slice A' n' c', .int .u64 pv] := kW.below h (by omega)
    exact ⟨h1.cell 0, h1.cell 1⟩)
  have hle : 0 < W.heap.size := htb.lt
  have HTB := Lib.hid (fun (V : World) (h : Below W0.heap.size W0 V) => htb.below (bW.trans (h.mono (by omega))) hle)
  have HAL := Lib.hid (fun (V : World) (h : Below W0.heap.size W0 V) => dalive_any V (htb.below (bW.trans (h.mono (by omega))) hle))
  have HZ := Lib.hid (fun (V : World) (h : Below W0.heap.size W0 V) => show Below W.heap.size W V from bW.trans (h.mono (by omega)))
  have HA := Lib.hid (fun (V : World) (h : Below W0.heap.size W0 V) => (ha.below (bW.trans (h.mono (by omega)))).more (show W.heap.size ≤ W0.heap.size by omega))
  have HK := Lib.hid (fun (V : World) (h : Below W0.heap.size W0 V) => (hk.below (bW.trans (h.mono (by omega)))).more (show W.heap.size ≤ W0.heap.size by omega))
  have HB := Lib.hid (fun (V : World) (h : Below W0.heap.size W0 V) => (hb.below (bW.trans (h.mono (by omega)))).more (show W.heap.size ≤ W0.heap.size by omega))
  have hn9 : n' ≤ 9223372036854775807 := by have := hb.2.1; unfold maxLen at this; omega
  have H1 := pfar_any A n c W0.heap.size 200 ps W0 ((ha.below bW).more (by omega)) (Nat.le_refl _) (by omega)
  rw [show ((200 : Nat) : Int) = 200 from rfl] at H1
  have H1 := Lib.hid H1
  have HV := Lib.hid hv
  have HPV := Lib.hid hpv
  have HC := Lib.hid hnc'
  have HLN := Lib.hid ha.1
  have HKL := Lib.hid hb.1
  obtain ⟨k0, k1⟩ := HBX.out W0 (Below.refl _ _)
  clear htb ha hk hb hnc' hv hpv kW sW hle bW
  go_enter Tryz.func6, Tryz.ntmps6
  go_wp2_with fail
  (with_reducible refine H1.out.mono ?_)
  rintro e w1 ⟨rfl, b1⟩
  have B1 := Lib.hid b1
  obtain ⟨k0, k1⟩ := HBX.out w1 b1
  obtain ⟨fb, hfb⟩ : ∃ b, farP ps 200 = b := ⟨_, rfl⟩
  rw [hfb]
  have HFB := Lib.hid hfb
  clear b1 hfb H1 hW0
  by_cases hfar : fb = true ∨ 600 < n'
  · have H2 := Lib.hid (HAL.out w1 B1.out)
    cases fb with
    | true =>
      clear hfar
      go_wp2_with fail
      (with_reducible refine H2.out.mono ?_)
      rintro e w2 ⟨rfl, b2⟩
      have B2 := Lib.hid (HZ.out w2 (B1.out.trans (b2.mono B1.out.size)))
      clear b2
      go_wp2_with fail
      go_ret
      exact ⟨rfl, B2.out⟩
    | false =>
      have i1 : decide ((600 : Int) < (n' : Int)) = true := decide_eq_true (by
        rcases hfar with q | q
        · cases q
        · omega)
      clear hfar
      go_wp2_with fail
      (with_reducible refine H2.out.mono ?_)
      rintro e w2 ⟨rfl, b2⟩
      have B2 := Lib.hid (HZ.out w2 (B1.out.trans (b2.mono B1.out.size)))
      clear b2
      go_wp2_with fail
      go_ret
      exact ⟨rfl, B2.out⟩
  · have hfb : fb = false := by
      cases fb with
      | false => rfl
      | true => exact absurd (.inl rfl) hfar
    subst hfb
    have hq : n' ≤ 600 := by
      rcases Nat.lt_or_ge 600 n' with q | q
      · exact absurd (.inr q) hfar
      · exact q
    obtain ⟨f1, f2⟩ := farP_no HFB.out
    have hn200 : n ≤ 200 := by have := HLN.out; omega
    have F2 := Lib.hid f2
    have HS := Lib.hid (rsort_any A n c W0.heap.size ps w1 (HA.out w1 B1.out) (HK.out w1 B1.out) B1.out.size (by omega))
    have HSM := Lib.hid hq
    have i1 : decide ((600 : Int) < (n' : Int)) = false := decide_eq_false (by omega)
    clear hfar f1 f2 hq
    go_wp2_with fail
    (with_reducible refine HS.out.mono ?_)
    rintro e w2 ⟨A2, c2, rfl, hc2, p2, _, b2⟩
    obtain ⟨ps2, hps2⟩ : ∃ l, sortS ps = l := ⟨_, rfl⟩
    obtain ⟨n2, hn2⟩ : ∃ k, (sortS ps).length = k := ⟨_, rfl⟩
    have hn2a : n2 ≤ 200 := by
      have := (sortS_len ps).1
      have := HLN.out
      omega
    have hrs : Rsn ps2 := hps2 ▸ sortS_rise ps
    have hk2 : ∀ p ∈ ps2, p.key.length ≤ 300 := hps2 ▸ sortS_all (P := fun p => p.key.length ≤ 300) (fun _ _ h _ => h) F2.out
    have hv2 : ∀ p ∈ ps2, 0 ≤ p.val ∧ p.val ≤ 18446744073709551615 := hps2 ▸ sortS_all (P := fun p => 0 ≤ p.val ∧ p.val ≤ 18446744073709551615) (fun _ _ _ h => h) HV.out
    rw [hn2] at p2 hc2 ⊢
    rw [hps2] at p2 hn2
    have b2' : Below W0.heap.size W0 w2 := B1.out.trans (b2.mono B1.out.size)
    have hkp : ∀ V, Below W0.heap.size W0 V → Kps V W0.heap.size ps2 := fun V hb => hps2 ▸ Kps.sort (HK.out V hb)
    have ZV := Lib.hid (fun V (h : Below w2.heap.size w2 V) => show Prs V w2.heap.size A2 n2 ps2 ∧ Kps V w2.heap.size ps2 ∧ Below W0.heap.size W0 V from
      have hW : Below W0.heap.size W0 V := b2'.trans (h.mono b2'.size)
      ⟨p2.below h, (hkp V hW).more b2'.size, hW⟩)
    have HT := Lib.hid (ptree_any (o := 1) (by omega) A2 n2 c2 w2.heap.size ps2 w2 p2 ((hkp w2 b2').more b2'.size) (Nat.le_refl _) (by omega) hrs hk2)
    have HRS := Lib.hid hrs
    have HK2 := Lib.hid hk2
    have HV2 := Lib.hid hv2
    have HC2 := Lib.hid hc2
    have HN2 := Lib.hid hn2
    clear hps2 hrs hk2 hv2 hkp p2 b2 b2' hn2 hc2 HS
    go_wp2_with fail
    (with_reducible refine HT.out.mono ?_)
    rintro e w3 ⟨p, rfl, t3, b3⟩
    have T3 := Lib.hid (OTow.here t3)
    have B3 := Lib.hid b3
    clear t3 b3 HT
    have HPX := Lib.hid (show oall (fun q => q = 1) (bTr 1 301 (rel 0 ps2)) ∧ OCan ps2 (bTr 1 301 (rel 0 ps2)) from by
      have h1 := bTr_ocan 1 HRS.out 301 (fun p hp => by have := HK2.out p hp; omega)
      exact ⟨h1.2, h1.1⟩)
    obtain ⟨t, ht⟩ : ∃ t, bTr 1 301 (rel 0 ps2) = t := ⟨_, rfl⟩
    rw [ht] at T3 HPX
    have HFT := Lib.hid (HPX.out.2.o (fun p hp => by have := HK2.out p hp; omega) (by have := HN2.out; omega) HV2.out)
    have hM : ∀ q ∈ olist t, q.1.length ≤ 1000000 := fun q hq => by
      rw [HPX.out.2.list] at hq
      obtain ⟨p, hp, rfl⟩ := List.mem_map.1 hq
      have := HK2.out p hp
      show p.key.length ≤ _
      omega
    have HM := Lib.hid hM
    have HZ3 := Lib.hid (fun (V : World) (h : Below w3.heap.size w3 V) => (ZV.out V (B3.out.trans (h.mono B3.out.size))).2.2)
    have hz30 : W0.heap.size ≤ w3.heap.size := (HZ3.out w3 (Below.refl _ _)).size
    have HKY := Lib.hid (fun (V : World) (h : Below w3.heap.size w3 V) => (HB.out V (HZ3.out V h)))
    have HSH := Lib.hid (fun (V : World) (u : Option (Nn × Fo)) (q : Option Addr) (hV : Below w3.heap.size w3 V) (hu : OCan ps2 u) (h : OTre V (· < V.heap.size) u q) => show Calls Tryz.prog 21 #[.pointer q] V (fun e w' => e = .returned (.string (bstr (oshL t))) ∧ Below V.heap.size V w') from by
      have h1 := hu.o (fun p hp => by have := HK2.out p hp; omega) (by have := HN2.out; omega) HV2.out
      have h2 : oshL u = oshL t := (hu.sh 601 (fun p hp => by have := HK2.out p hp; omega)).symm.trans (HPX.out.2.sh 601 (fun p hp => by have := HK2.out p hp; omega))
      have h3 := HTB.out V (HZ3.out V hV)
      have h4 := shape_any u q V.heap.size V h h1.ok h3 h3.lt (Nat.le_refl _) (by have := h1.sh; omega)
      rw [h2] at h4
      exact h4)
    obtain ⟨st, hst⟩ : ∃ s, bstr (oshL t) = s := ⟨_, rfl⟩
    rw [hst] at HSH
    have hbe : (st.toList == st.toList) = true := beq_self_eq_true _
    obtain ⟨g1, g2, hg⟩ : ∃ g1 g2, firstK (olist t) key = (g1, g2) := ⟨_, _, rfl⟩
    have HG := Lib.hid hg
    have H4 := Lib.hid (tget_any HPX.out.2.owf T3.out (HKY.out w3 (Below.refl _ _)) hz30 HC.out (by have := HSM.out; omega) hg)
    obtain ⟨k0, k1⟩ := HBX.out w3 (HZ3.out w3 (Below.refl _ _))
    clear hM ht hst hg
    go_wp2_with fail
    (with_reducible refine H4.out.mono ?_)
    rintro e w4 ⟨rfl, b4⟩
    have B4 := Lib.hid b4
    have T4 := Lib.hid (T3.out.below b4)
    obtain ⟨k0, k1⟩ := HBX.out w4 (HZ3.out w4 b4)
    clear b4 H4
    cases g2 with
    | true =>
      have hmem : (key, g1) ∈ ps2.map kvP := by
        rw [← HPX.out.2.list]
        exact (firstK_yes HPX.out.2.owf.rise).1 HG.out
      have hcd : OCan (delS key ps2) (odels 2 t key) := HPX.out.2.dels HRS.out 2 key
      have hcp : Can (insS ⟨A', n', c', key, g1⟩ (delS key ps2)) (oputs 3 g1 (odels 2 t key) key) := hcd.puts (delS_rise HRS.out) 3 ⟨A', n', c', key, g1⟩
      have HCF := Lib.hid (show OCan ps2 (some (oputs 3 g1 (odels 2 t key) key)) from Can.same hcp (del_ins HRS.out (x := ⟨A', n', c', key, g1⟩) hmem))
      have hall2 : oall (fun q => q ≠ 3) (odels 2 t key) := odels_all (P := fun q => q ≠ 3) (by decide) (oall_mono (fun q e => by rw [e]; decide) HPX.out.1) key
      have HDF := Lib.hid (And.intro hcd hall2)
      have H5 := Lib.hid (del_other (o := 2) (c := c') (by decide) T4.out (fun i q => q) (oall_mono (fun q e => by rw [e]; decide) HPX.out.1) HPX.out.2.srt HPX.out.2.owf HPX.out.2.good HM.out (HKY.out w4 B4.out) (Nat.le_trans hz30 B4.out.size) HC.out (by have := HSM.out; omega))
      clear hmem hcd hcp hall2
      go_wp2_with fail
      (with_reducible refine H5.out.mono ?_)
      rintro e w5 ⟨p5, rfl, t5, b5⟩
      rw [HG.out]
      dsimp only
      have B5 := Lib.hid (B4.out.trans (b5.mono B4.out.size))
      have H6 := Lib.hid (put_other (o := 3) (v := g1) (c := c') (by decide) (OTre.here t5) (fun i q => q) HDF.out.2 HDF.out.1.srt HDF.out.1.owf (HKY.out w5 B5.out) (Nat.le_trans hz30 B5.out.size) HC.out (by have := HSM.out; omega))
      have T5 := Lib.hid (T4.out.below b5)
      obtain ⟨k0, k1⟩ := HBX.out w5 (HZ3.out w5 B5.out)
      clear t5 b5 H5
      go_wp2_with fail
      (with_reducible refine H6.out.mono ?_)
      rintro e w6 ⟨u6, rfl, t6, b6⟩
      have B6 := Lib.hid (B5.out.trans (b6.mono B5.out.size))
      have H7 := Lib.hid (HSH.out w6 _ _ B6.out HCF.out (OTre.here t6))
      have T6 := Lib.hid (T5.out.below b6)
      clear t6 b6 H6
      go_wp2_with fail
      (with_reducible refine H7.out.mono ?_)
      rintro e w7 ⟨rfl, b7⟩
      have B7 := Lib.hid (B6.out.trans (b7.mono B6.out.size))
      have H8 := Lib.hid (HSH.out w7 _ _ B7.out HPX.out.2 (T6.out.below b7))
      clear b7 H7
      go_wp2_with fail
      (with_reducible refine H8.out.mono ?_)
      rintro e w8 ⟨rfl, b8⟩
      have B8 := Lib.hid (B7.out.trans (b8.mono B7.out.size))
      have H9 := Lib.hid (HAL.out w8 (HZ3.out w8 B8.out))
      clear b8 H8
      go_wp2_with fail
      (with_reducible refine H9.out.mono ?_)
      rintro e w9 ⟨rfl, b9⟩
      have B9 := Lib.hid (HZ.out w9 (HZ3.out w9 (B8.out.trans (b9.mono B8.out.size))))
      clear b9 H9
      go_wp2_with fail
      go_ret
      exact ⟨rfl, B9.out⟩
    | false =>
      have hno : ∀ q ∈ ps2.map kvP, q.1 ≠ key := by
        rw [← HPX.out.2.list]
        exact firstK_no HG.out
      have hcp : OCan (insS ⟨A', n', c', key, pv⟩ ps2) (some (oputs 2 pv t key)) := HPX.out.2.puts HRS.out 2 ⟨A', n', c', key, pv⟩
      have hcd : OCan (delS key (insS ⟨A', n', c', key, pv⟩ ps2)) (odels 3 (some (oputs 2 pv t key)) key) := hcp.dels (insS_rise HRS.out) 3 key
      have HCF := Lib.hid (show OCan ps2 (odels 3 (some (oputs 2 pv t key)) key) from same_o hcd (ins_del HRS.out (x := ⟨A', n', c', key, pv⟩) hno))
      have hall2 : oall (fun q => q ≠ 3) (some (oputs 2 pv t key)) := oputs_all (P := fun q => q ≠ 3) (by decide) (oall_mono (fun q e => by rw [e]; decide) HPX.out.1) key
      have hM2 : ∀ q ∈ olist (some (oputs 2 pv t key)), q.1.length ≤ 1000000 := fun q hq => by
        rw [hcp.list] at hq
        rcases (insS_mem HRS.out ⟨A', n', c', key, pv⟩ q).1 hq with rfl | ⟨h, _⟩
        · have := HKL.out
          have := HSM.out
          show key.length ≤ _
          omega
        · obtain ⟨p, hp, rfl⟩ := List.mem_map.1 h
          have := HK2.out p hp
          show p.key.length ≤ _
          omega
      have hyes : (firstK (olist (some (oputs 2 pv t key))) key).2 = true := by
        have h1 := (firstK_yes (l := key) (v := pv) hcp.owf.rise).2 (by rw [hcp.list]; exact (insS_mem HRS.out ⟨A', n', c', key, pv⟩ _).2 (.inl rfl))
        rw [h1]
      have HDF := Lib.hid (And.intro hcp (And.intro hall2 (And.intro hM2 hyes)))
      have H5 := Lib.hid (put_other (o := 2) (v := pv) (c := c') (by decide) T4.out (fun i q => q) (oall_mono (fun q e => by rw [e]; decide) HPX.out.1) HPX.out.2.srt HPX.out.2.owf (HKY.out w4 B4.out) (Nat.le_trans hz30 B4.out.size) HC.out (by have := HSM.out; omega))
      clear hno hcd hcp hall2 hM2 hyes
      go_wp2_with fail
      (with_reducible refine H5.out.mono ?_)
      rintro e w5 ⟨u5, rfl, t5, b5⟩
      have B5 := Lib.hid (B4.out.trans (b5.mono B4.out.size))
      have H6 := Lib.hid (del_other (o := 3) (c := c') (by decide) (OTre.here t5) (fun i q => q) HDF.out.2.1 HDF.out.1.srt HDF.out.1.owf HDF.out.1.good HDF.out.2.2.1 (HKY.out w5 B5.out) (Nat.le_trans hz30 B5.out.size) HC.out (by have := HSM.out; omega))
      have T5 := Lib.hid (T4.out.below b5)
      obtain ⟨k0, k1⟩ := HBX.out w5 (HZ3.out w5 B5.out)
      clear t5 b5 H5
      go_wp2_with fail
      (with_reducible refine H6.out.mono ?_)
      rintro e w6 ⟨p6, rfl, t6, b6⟩
      rw [HDF.out.2.2.2]
      have B6 := Lib.hid (B5.out.trans (b6.mono B5.out.size))
      have H7 := Lib.hid (HSH.out w6 _ _ B6.out HCF.out (OTre.here t6))
      have T6 := Lib.hid (T5.out.below b6)
      clear t6 b6 H6
      go_wp2_with fail
      (with_reducible refine H7.out.mono ?_)
      rintro e w7 ⟨rfl, b7⟩
      have B7 := Lib.hid (B6.out.trans (b7.mono B6.out.size))
      have H8 := Lib.hid (HSH.out w7 _ _ B7.out HPX.out.2 (T6.out.below b7))
      clear b7 H7
      go_wp2_with fail
      (with_reducible refine H8.out.mono ?_)
      rintro e w8 ⟨rfl, b8⟩
      have B8 := Lib.hid (B7.out.trans (b8.mono B7.out.size))
      have H9 := Lib.hid (HAL.out w8 (HZ3.out w8 B8.out))
      clear b8 H8
      go_wp2_with fail
      (with_reducible refine H9.out.mono ?_)
      rintro e w9 ⟨rfl, b9⟩
      have B9 := Lib.hid (HZ.out w9 (HZ3.out w9 (B8.out.trans (b9.mono B8.out.size))))
      clear b9 H9
      go_wp2_with fail
      go_ret
      exact ⟨rfl, B9.out⟩
set_option maxRecDepth 100000 in
theorem lifted (os : Os) (started : os.Started) (H : Type) (enc : TypeId × Value → H) :
    ReturnsInHanded {} Tryz.checked os 6 .any (fun w args => (Rows.delBackSpec.pre enc Tryz.prog Tryz.f6 [] false w args ∧ laidMetH Tryz.prog laid3 w) ∧ sizedMet enc Tryz.prog Tryz.f6 (OpenSpec.ofChange Rows.delBackSpec) false w args) (Rows.delBackSpec.post enc Tryz.prog Tryz.f6 false true false false) := by
  refine returnsInHanded_of_change_and (C := Tryz.checked) (X := fun w _ => laidMetH Tryz.prog laid3 w) (fun _ _ _ hh h => h.of_heap hh) own started (by kernel_rfl) Tryz.func6
    (ChangeSpec.witness_shaped (enc := enc) (C := Tryz.checked) (os := os) (X := fun w _ => laidMetH Tryz.prog laid3 w) false (World.doorLaid Tryz.prog 400 os) #[.slice none 0 0, .agg #[.slice none 0 0, .int .u64 0]] 8 rfl (World.shaped_of_RefB (by kernel_rfl) (by kernel_rfl)) (by kernel_rfl) (by kernel_rfl) (by kernel_rfl) (door_met3 os _)) ?_
  intro W base args ds gs before hval0 hW _ _ hL _
  have hval : ∀ (j : Nat) t v, Tryz.f6.params[j]? = some t → args[j]? = some v → Value.okWide Tryz.prog W .any base t v := hval0
  have hW' := hW
  obtain ⟨p, q, hA0, hV, rfl, hfz, hnd⟩ := hW
  have hA : DataW.TrodAll enc Tryz.prog W 0 (fun _ => true) true Tryz.f6.params.toList args.toList ds p := hA0
  rw [Tryz.params6] at hA hval
  obtain ⟨v0, vs0, d0, ds0, p0, q0, hargs, rfl, rfl, h0, r0⟩ := trodAll_cons hA
  obtain ⟨v1, vs1, d1, ds1, p1, q1, rfl, rfl, rfl, h1, r1⟩ := trodAll_cons r0
  obtain ⟨rfl, rfl, rfl⟩ := trodAll_nil r1
  obtain rfl : args = #[v0, v1] := by cases args; simp_all
  obtain ⟨rfl, rfl⟩ := trodVars_none hV
  have k0 := h0
  have lt0 : ∀ x ∈ p0, x.block < W.heap.size := by obtain ⟨m, hm⟩ := k0; exact DataW.trod_lt m _ _ _ hm
  have k1 := h1
  have lt1 : ∀ x ∈ p1, x.block < W.heap.size := by obtain ⟨m, hm⟩ := k1; exact DataW.trod_lt m _ _ _ hm
  obtain ⟨A0, n0, c0, l0, rfl, b0, kp0, nc0, vl0⟩ := open_kps (hval 0 22 v0 rfl rfl) h0
  obtain ⟨A1, n1, c1, l1, z1, rfl, b1, nc1, vz1⟩ := open_pr (hval 1 53 v1 rfl rfl) h1
  clear hA0 hval0
  refine (walk A0 n0 c0 l0 A1 n1 c1 l1 z1 W (of_laid3 hL) b0 kp0 nc0 vl0 b1 nc1 vz1).mono fun e W' ⟨he, bel⟩ => ?_
  subst he
  exact ⟨_, rfl, _, _, _, [], _, [], hW', trodAll_mk1 (shut_bool Tryz.underlying4 _), (trodAll_cons_mk (Below.trod laidOut (by kernel_rfl) (of_decide_eq_true (by kernel_rfl)) k0 bel lt0) (trodAll_cons_mk (Below.trod laidOut (by kernel_rfl) (of_decide_eq_true (by kernel_rfl)) k1 bel lt1) trodAll_mk0)), rfl, bel.frame _, fun h => by cases h⟩

set_option maxRecDepth 100000 in
theorem proved : Rows.DelBackSaid :=
  OpenClaim.holds_of_wide 6 Tryz.f6 rfl rfl rfl rfl rfl rfl rfl ⟨rfl, rfl, rfl, rfl, rfl⟩ rfl rfl rfl rfl rfl (by kernel_rfl) Tryz.func6 (by kernel_rfl)
    (of_decide_eq_true (by kernel_rfl)) (by unfold Func.isWrapper; first | (rw [if_pos (by decide +kernel)]; kernel_rfl) | (rw [if_neg (by decide +kernel)]; exact ⟨rfl, rfl⟩))
    (fun os started H enc _ => lifted os started H enc)
set_option maxRecDepth 100000 in
theorem card_holds : Rows.DelBackCardSaid :=
  Claim7.holds_tied_plain_at .later [] [.data, .data, .data] true _ false
    proved (fun _ h => by cases h) (by kernel_rfl) (fun _ h => by cases h) delBack_row_tie rfl ⟨rfl, rfl⟩ (by kernel_rfl) rfl
    (fun f fn hf hfn => by
      obtain rfl : f = 6 := Option.some.inj ((show Tryz.prog.funcNamed "spunyarn/spunyarnlaw16.DelBack" = some 6 by kernel_rfl).symm.trans hf) |>.symm
      obtain rfl : fn = Tryz.f6 := (Option.some.inj (Tryz.func6.symm.trans hfn)).symm
      exact ⟨by kernel_rfl, fun j t ht => by
        rw [Tryz.params6] at ht
        have hm : t ∈ [22, 53] := by simpa using Array.mem_of_getElem? ht
        have hall : ([22, 53].all fun u => !Tryz.prog.wantsStandIn u) = true := by kernel_rfl
        exact (show Tryz.prog.wantsStandIn t = false by simpa using List.all_eq_true.1 hall t hm)⟩)
    (by kernel_rfl)
end Go.Proofs.YtcbgieoiefbeiaaGreatDoor.delBack
