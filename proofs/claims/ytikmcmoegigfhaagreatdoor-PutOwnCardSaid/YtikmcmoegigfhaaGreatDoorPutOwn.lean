/-
  Proved here: who owns all nodes of a tree turns a key's value without making one, in the tree itself, and a key that is not there takes two at most; nothing that came in is turned. The one condition is the card's own: the table of the powers of ten lies as the program's library lays it (tied).
-/
import Derived.Test.YtikmcmoegigfhaaGreatDoorPutL
import Derived.Test.YtikmcmoegigfhaaGreatDoorEqs
import Derived.Test.YtikmcmoegigfhaaGreatDoorPowTab
import Derived.Test.YtikmcmoegigfhaaGreatDoorRow
import Derived.Test.YtikmcmoegigfhaaGreatDoorTie
import Derived.Test.YtikmcmoegigfhaaGreatDoorCards
import Derived.SevenTiedAt
namespace Go.Proofs.YtikmcmoegigfhaaGreatDoor.putOwn
open Go.ChangeShapes Go.WideShapes Go.ChangeAt Go.RowKit

set_option maxRecDepth 100000 in
set_option maxHeartbeats 4000000 in
theorem walk (A : Option Addr) (n c : Nat) (ps : List PV) (A' : Option Addr) (n' c' : Nat) (key : List UInt8) (pv : Int) (W : World) (htb : Tb W) (ha : Prs W W.heap.size A n ps) (hk : Kps W W.heap.size ps) (_ : n ≤ c) (hv : ∀ p ∈ ps, 0 ≤ p.val ∧ p.val ≤ 18446744073709551615) (hb : Byt W W.heap.size A' n' key) (hnc' : n' ≤ c') (hpv : 0 ≤ pv ∧ pv ≤ 18446744073709551615) :
    Calls Tryz.prog 5 #[.slice A n c, .agg #[.slice A' n' c', .int .u64 pv]] W fun e w' => e = .returned (.bool true) ∧ Below W.heap.size W w' := by
  obtain ⟨W0, hW0⟩ : ∃ V, W.alloc (.cells #[.slice A' n' c', .int .u64 pv] 26) = V := ⟨_, rfl⟩
  have bW : Below W.heap.size W W0 := by rw [← hW0]; exact (Below.refl _ _).alloc (Nat.le_refl _) _
  have sW : W0.heap.size = W.heap.size + 1 := by rw [← hW0, World.size_alloc]
  have kW : Blk W0 W.heap.size #[.slice A' n' c', .int .u64 pv] := by rw [← hW0]; exact Blk.new W _ _
  have HBX := Lib.hid (fun (V : World) (h : Below W0.heap.size W0 V) => show (V.cell? ⟨W.heap.size, 0, none⟩ = some (.slice A' n' c') ∧ V.cell? ⟨W.heap.size, 1, none⟩ = some (.int .u64 pv)) from by
    have h1 : Blk V W.heap.size #[.slice A' n' c', .int .u64 pv] := kW.below h (by omega)
    exact ⟨h1.cell 0, h1.cell 1⟩)
  have hle : 0 < W.heap.size := htb.lt
  have HTB := Lib.hid (fun (V : World) (h : Below W0.heap.size W0 V) => htb.below (bW.trans (h.mono (by omega))) hle)
  have HAL := Lib.hid (fun (V : World) (h : Below W0.heap.size W0 V) => palive_any V (htb.below (bW.trans (h.mono (by omega))) hle))
  have HZ := Lib.hid (fun (V : World) (h : Below W0.heap.size W0 V) => show Below W.heap.size W V from bW.trans (h.mono (by omega)))
  have HA := Lib.hid (fun (V : World) (h : Below W0.heap.size W0 V) => (ha.below (bW.trans (h.mono (by omega)))).more (show W.heap.size ≤ W0.heap.size by omega))
  have HK := Lib.hid (fun (V : World) (h : Below W0.heap.size W0 V) => (hk.below (bW.trans (h.mono (by omega)))).more (show W.heap.size ≤ W0.heap.size by omega))
  have HB := Lib.hid (fun (V : World) (h : Below W0.heap.size W0 V) => (hb.below (bW.trans (h.mono (by omega)))).more (show W.heap.size ≤ W0.heap.size by omega))
  have hn9 : n' ≤ 9223372036854775807 := by have := hb.2.1; unfold maxLen at this; omega
  have H1 := pfar_any A n c W0.heap.size 200 ps W0 ((ha.below bW).more (by omega)) (Nat.le_refl _) (by omega)
  rw [show ((200 : Nat) : Int) = 200 from rfl] at H1
  have H1 := Lib.hid H1
  have HV := Lib.hid hv
  have HPV := Lib.hid hpv
  have HC := Lib.hid hnc'
  have HLN := Lib.hid ha.1
  have HKL := Lib.hid hb.1
  obtain ⟨k0, k1⟩ := HBX.out W0 (Below.refl _ _)
  clear htb ha hk hb hnc' hv hpv kW sW hle bW
  go_enter Tryz.func5, Tryz.ntmps5
  go_wp2_with fail
  (with_reducible refine H1.out.mono ?_)
  rintro e w1 ⟨rfl, b1⟩
  have B1 := Lib.hid b1
  obtain ⟨k0, k1⟩ := HBX.out w1 b1
  obtain ⟨fb, hfb⟩ : ∃ b, farP ps 200 = b := ⟨_, rfl⟩
  rw [hfb]
  have HFB := Lib.hid hfb
  clear b1 hfb H1 hW0
  by_cases hfar : fb = true ∨ 600 < n'
  · have H2 := Lib.hid (HAL.out w1 B1.out)
    cases fb with
    | true =>
      clear hfar
      go_wp2_with fail
      (with_reducible refine H2.out.mono ?_)
      rintro e w2 ⟨rfl, b2⟩
      have B2 := Lib.hid (HZ.out w2 (B1.out.trans (b2.mono B1.out.size)))
      clear b2
      go_wp2_with fail
      go_ret
      exact ⟨rfl, B2.out⟩
    | false =>
      have i1 : decide ((600 : Int) < (n' : Int)) = true := decide_eq_true (by
        rcases hfar with q | q
        · cases q
        · omega)
      clear hfar
      go_wp2_with fail
      (with_reducible refine H2.out.mono ?_)
      rintro e w2 ⟨rfl, b2⟩
      have B2 := Lib.hid (HZ.out w2 (B1.out.trans (b2.mono B1.out.size)))
      clear b2
      go_wp2_with fail
      go_ret
      exact ⟨rfl, B2.out⟩
  · have hfb : fb = false := by
      cases fb with
      | false => rfl
      | true => exact absurd (.inl rfl) hfar
    subst hfb
    have hq : n' ≤ 600 := by
      rcases Nat.lt_or_ge 600 n' with q | q
      · exact absurd (.inr q) hfar
      · exact q
    obtain ⟨f1, f2⟩ := farP_no HFB.out
    have hn200 : n ≤ 200 := by have := HLN.out; omega
    have F2 := Lib.hid f2
    have HS := Lib.hid (rsort_any A n c W0.heap.size ps w1 (HA.out w1 B1.out) (HK.out w1 B1.out) B1.out.size (by omega))
    have HSM := Lib.hid hq
    have i1 : decide ((600 : Int) < (n' : Int)) = false := decide_eq_false (by omega)
    clear hfar f1 f2 hq
    go_wp2_with fail
    (with_reducible refine HS.out.mono ?_)
    rintro e w2 ⟨A2, c2, rfl, hc2, p2, _, b2⟩
    obtain ⟨ps2, hps2⟩ : ∃ l, sortS ps = l := ⟨_, rfl⟩
    obtain ⟨n2, hn2⟩ : ∃ k, (sortS ps).length = k := ⟨_, rfl⟩
    have hn2a : n2 ≤ 200 := by
      have := (sortS_len ps).1
      have := HLN.out
      omega
    have hrs : Rsn ps2 := hps2 ▸ sortS_rise ps
    have hk2 : ∀ p ∈ ps2, p.key.length ≤ 300 := hps2 ▸ sortS_all (P := fun p => p.key.length ≤ 300) (fun _ _ h _ => h) F2.out
    have hv2 : ∀ p ∈ ps2, 0 ≤ p.val ∧ p.val ≤ 18446744073709551615 := hps2 ▸ sortS_all (P := fun p => 0 ≤ p.val ∧ p.val ≤ 18446744073709551615) (fun _ _ _ h => h) HV.out
    rw [hn2] at p2 hc2 ⊢
    rw [hps2] at p2 hn2
    have b2' : Below W0.heap.size W0 w2 := B1.out.trans (b2.mono B1.out.size)
    have hkp : ∀ V, Below W0.heap.size W0 V → Kps V W0.heap.size ps2 := fun V hb => hps2 ▸ Kps.sort (HK.out V hb)
    have ZV := Lib.hid (fun V (h : Below w2.heap.size w2 V) => show Prs V w2.heap.size A2 n2 ps2 ∧ Kps V w2.heap.size ps2 ∧ Below W0.heap.size W0 V from
      have hW : Below W0.heap.size W0 V := b2'.trans (h.mono b2'.size)
      ⟨p2.below h, (hkp V hW).more b2'.size, hW⟩)
    have HT := Lib.hid (ptree_any (o := 7) (by omega) A2 n2 c2 w2.heap.size ps2 w2 p2 ((hkp w2 b2').more b2'.size) (Nat.le_refl _) (by omega) hrs hk2)
    have HRS := Lib.hid hrs
    have HK2 := Lib.hid hk2
    have HV2 := Lib.hid hv2
    have HC2 := Lib.hid hc2
    have HN2 := Lib.hid hn2
    clear hps2 hrs hk2 hv2 hkp p2 b2 b2' hn2 hc2 HS
    go_wp2_with fail
    (with_reducible refine HT.out.mono ?_)
    rintro e w3 ⟨p, rfl, t3, b3⟩
    have T3 := Lib.hid t3
    have B3 := Lib.hid b3
    clear t3 b3 HT
    have HPX := Lib.hid (show oall (fun q => q = 7) (bTr 7 301 (rel 0 ps2)) ∧ OCan ps2 (bTr 7 301 (rel 0 ps2)) from by
      have h1 := bTr_ocan 7 HRS.out 301 (fun p hp => by have := HK2.out p hp; omega)
      exact ⟨h1.2, h1.1⟩)
    obtain ⟨t, ht⟩ : ∃ t, bTr 7 301 (rel 0 ps2) = t := ⟨_, rfl⟩
    rw [ht] at T3 HPX
    have HZ2 := Lib.hid (fun (V : World) (h : Below w2.heap.size w2 V) => (ZV.out V h).2.2)
    have hz20 : W0.heap.size ≤ w2.heap.size := (HZ2.out w2 (Below.refl _ _)).size
    have HKY := Lib.hid (fun (V : World) (h : Below w2.heap.size w2 V) => (HB.out V (HZ2.out V h)).more hz20)
    -- Get
    obtain ⟨g1, g2, hg⟩ : ∃ g1 g2, firstK (olist t) key = (g1, g2) := ⟨_, _, rfl⟩
    have H4 := Lib.hid (tget_any HPX.out.2.owf (OTow.here T3.out) (HKY.out w3 B3.out) B3.out.size HC.out (by have := HSM.out; omega) hg)
    have HG := Lib.hid hg
    obtain ⟨k0, k1⟩ := HBX.out w3 (HZ2.out w3 B3.out)
    clear ht hg
    go_wp2_with fail
    (with_reducible refine H4.out.mono ?_)
    rintro e w4 ⟨rfl, b4⟩
    have B4 := Lib.hid (B3.out.trans (b4.mono B3.out.size))
    have T4 := Lib.hid (OTow.below T3.out (fun i q => q.elim) b4)
    have HZ4 := Lib.hid b4.size
    obtain ⟨W5, hW5⟩ : ∃ V, w4.alloc (.cells #[.int .i64 0] 44) = V := ⟨_, rfl⟩
    have b5 : Below w4.heap.size w4 W5 := by rw [← hW5]; exact (Below.refl _ _).alloc (Nat.le_refl _) _
    have s5 : W5.heap.size = w4.heap.size + 1 := by rw [← hW5]; simp
    have m5 : Lst W5 w4.heap.size [.int .i64 0] := by rw [← hW5]; exact Blk.new w4 _ _
    have hz32 := B3.out.size
    have hz43 := HZ4.out
    have B5 := Lib.hid (B4.out.trans (b5.mono B4.out.size))
    have T5 := OTow.below T4.out (fun i q => q.elim) b5
    obtain ⟨D5, hD5⟩ : ∃ D5 : Nat → Prop, (∀ i, D5 i → w2.heap.size ≤ i ∧ i < w4.heap.size) ∧ OTow W5 7 (fun _ => False) t p D5 := ⟨_, fun i q => ⟨q.1.1, q.2⟩, T5⟩
    have hj : omx 7 t key ≤ 2 := by
      have h1 := HPX.out.1
      cases t with
      | none => show 1 ≤ 2; omega
      | some T => show tway 7 T.1 T.2 key + 2 ≤ 2; rw [tway_all h1]; exact Nat.le_refl _
    have how : oway 7 t key = 0 := by
      have h1 := HPX.out.1
      cases t with
      | none => rfl
      | some T => exact tway_all h1 key
    have hp5 : Pre W5 7 (fun _ => False) D5 (some w4.heap.size) [] 0 (omx 7 t key) := ⟨by decide, fun i hi => hi.elim, fun g hg => by
      injection hg with hg
      subst hg
      exact ⟨m5, by decide, by decide⟩, fun i hi => ⟨fun q => q, fun q => by injection hi with hi; have := (hD5.1 i q).2; omega⟩, by omega⟩
    have hkm : ∀ i, Pb A' key i → (some w4.heap.size : Option Nat) ≠ some i := fun i hi e => by
      injection e with e
      obtain ⟨hne, ad, h1, h2⟩ := hi
      obtain ⟨ad', h3, h4, _⟩ := (HKY.out w2 (Below.refl _ _)).2.2 (by have := List.length_pos_iff.2 hne; have := HKL.out; omega)
      rw [h1] at h3
      injection h3 with h3
      subst h3
      omega
    have hky : ∀ V, Kept (fun q => D5 q ∨ (some w4.heap.size : Option Nat) = some q) W5 V → Byt V W5.heap.size A' n' key := fun V hk => (HKY.out V (B5.out.trans (hk.below B5.out.size (fun g q => q.elim (fun z => (hD5.1 g z).1) (fun z => by injection z with z; omega))))).more B5.out.size
    have H5 := put_any (o := 7) (v := pv) (c := c') hD5.2 HPX.out.2.srt HPX.out.2.owf hp5 hky hkm HC.out (by have := HSM.out; omega)
    rw [show mtr (some w4.heap.size) = .pointer (some ⟨w4.heap.size, 0, none⟩) from rfl] at H5
    have H5 := Lib.hid H5
    obtain ⟨k0, k1⟩ := HBX.out W5 (HZ2.out W5 B5.out)
    have HD5 := Lib.hid hD5.1
    have HS5 := Lib.hid s5
    have HJ := Lib.hid hj
    have HOW := Lib.hid how
    have HKM := Lib.hid hkm
    clear hp5 hkm hky m5 b5 s5 T5 hD5 hj how b4 hz32 hz43 H4
    go_wp2_with fail
    clear hW5
    (with_reducible refine H5.out.mono ?_)
    rintro e w6 ⟨u6, D6, j6, rfl, s6, j6le, hit6, _⟩
    have hj62 : j6 ≤ 2 := Nat.le_trans j6le HJ.out
    have hD6 : ∀ i, D6 i → w2.heap.size ≤ i ∧ i ≠ w4.heap.size := fun i q => by
      have h1 := HS5.out
      have h2 := HZ4.out
      have h3 := B3.out.size
      rcases s6.sub i q with z | z
      · have := HD5.out i z
        omega
      · omega
    have hb6 : Below w2.heap.size W5 w6 := s6.kept.below B5.out.size (fun g q => q.elim (fun z => (HD5.out g z).1) (fun z => by injection z with z; have := HZ4.out; have := B3.out.size; omega))
    have B6 := Lib.hid (B5.out.trans hb6)
    have hc6 : Lst w6 w4.heap.size [.int .i64 (j6 : Int)] := by
      have h1 := s6.num _ rfl
      rwa [Int.zero_add] at h1
    have HC6 := Lib.hid hc6
    have HCO := Lib.hid (count_any (g := w4.heap.size) (m := (j6 : Int)) (w := w6) (hc6.cell 0))
    have hcn : Can (insS ⟨A', n', c', key, pv⟩ ps2) (oputs 7 pv t key) := HPX.out.2.puts HRS.out 7 ⟨A', n', c', key, pv⟩
    have hmem : (key, pv) ∈ olist (some (oputs 7 pv t key)) := by
      show _ ∈ tlist _ _ []
      rw [hcn.list]
      exact (insS_mem HRS.out ⟨A', n', c', key, pv⟩ _).2 (.inl rfl)
    have hall : allT (fun q => q = 7) (oputs 7 pv t key) := oputs_all (P := fun q => q = 7) rfl HPX.out.1 key
    obtain ⟨T2, hT2⟩ : ∃ T, oputs 7 pv t key = T := ⟨_, rfl⟩
    rw [hT2] at hcn hmem hall s6
    have how2 : oway 7 (some T2) key = 0 := tway_all hall key
    have hhit2 := ohit_mem (Can.srt hcn) hmem
    have hom2 : omx 7 (some T2) key ≤ 2 := by show tway 7 T2.1 T2.2 key + 2 ≤ 2; rw [tway_all hall]; exact Nat.le_refl _
    obtain ⟨pv1, hpv1⟩ : ∃ z, IntKind.u64.wrap (pv + 1) = z := ⟨_, rfl⟩
    have hpvb : 0 ≤ pv1 ∧ pv1 ≤ 18446744073709551615 := by
      have h1 := HPV.out
      rcases Int.lt_or_le pv 18446744073709551615 with q | q
      · rw [IntWalk.u64_in _ ⟨by omega, by omega⟩] at hpv1
        omega
      · have : pv = 18446744073709551615 := by omega
        subst this
        have h2 : IntKind.u64.wrap (18446744073709551615 + 1) = 0 := by decide
        omega
    have hp6 : Pre w6 7 (fun _ => False) D6 (some w4.heap.size) [] (j6 : Int) (omx 7 (some T2) key) := ⟨by decide, fun i hi => hi.elim, fun g hg => by
      injection hg with hg
      subst hg
      exact ⟨hc6, by omega, by omega⟩, fun i hi => ⟨fun q => q, fun q => by injection hi with hi; exact (hD6 i q).2 hi.symm⟩, by omega⟩
    have hky : ∀ V, Kept (fun q => D6 q ∨ (some w4.heap.size : Option Nat) = some q) w6 V → Byt V w6.heap.size A' n' key := fun V hk => (HKY.out V (B6.out.trans (hk.below B6.out.size (fun g q => q.elim (fun z => (hD6 g z).1) (fun z => by injection z with z; have := HZ4.out; have := B3.out.size; omega))))).more B6.out.size
    have H7 := put_any (o := 7) (v := pv1) (c := c') (t := some T2) ⟨u6, rfl, s6.tow⟩ (Can.srt hcn) (Can.owf hcn) hp6 hky HKM.out HC.out (by have := HSM.out; omega)
    rw [show mtr (some w4.heap.size) = .pointer (some ⟨w4.heap.size, 0, none⟩) from rfl] at H7
    have H7 := Lib.hid H7
    -- of the pairs with both
    have hcn3 : Can (insS ⟨A', n', c', key, pv1⟩ ps2) (oputs 7 pv1 (some T2) key) := by
      refine Can.same (OCan.puts (t := some T2) hcn (insS_rise HRS.out) 7 ⟨A', n', c', key, pv1⟩) ?_
      refine riseK_same (by unfold Rise; rw [List.pairwise_map]; exact insS_rise HRS.out) (by unfold Rise; rw [List.pairwise_map]; exact insS_rise (insS_rise HRS.out)) fun q => ?_
      rw [insS_mem HRS.out ⟨A', n', c', key, pv1⟩ q, insS_mem (insS_rise HRS.out) ⟨A', n', c', key, pv1⟩ q, insS_mem HRS.out ⟨A', n', c', key, pv⟩ q]
      constructor
      · rintro (h | ⟨h1, h2⟩)
        · exact .inl h
        · exact .inr ⟨.inr ⟨h1, h2⟩, h2⟩
      · rintro (h | ⟨h | ⟨h1, _⟩, h2⟩)
        · exact .inl h
        · exact absurd (by rw [h]) h2
        · exact .inr ⟨h1, h2⟩
    have HCN3 := Lib.hid hcn3
    have HH2 := Lib.hid (And.intro hhit2 how2)
    have HPVB := Lib.hid hpvb
    have HD6 := Lib.hid hD6
    have HIT := Lib.hid (show g2 = true → j6 = 0 ∧ p = some ⟨u6, 0, none⟩ from fun e => by
      have h1 := HG.out
      rw [e] at h1
      have h2 := hit6 (ohit_mem HPX.out.2.srt ((firstK_yes HPX.out.2.owf.rise).1 h1))
      rw [HOW.out] at h2
      exact ⟨by omega, h2.2 rfl⟩)
    obtain ⟨k0, k1⟩ := HBX.out w6 (HZ2.out w6 B6.out)
    have id2 : decide ((2 : Int) < (j6 : Int)) = false := decide_eq_false (by omega)
    clear s6 j6le hit6 hD6 hb6 hc6 hcn hmem hall hT2 how2 hhit2 hom2 hpvb hp6 hky hcn3 hj62 H5
    have hx : g2 = false ∨ g2 = true := by cases g2 <;> simp
    rcases hx with rfl | rfl
    case' inr =>
      obtain ⟨hj0, hpu⟩ := HIT.out rfl
      have hj0' : ((j6 : Int) != 0) = false := by rw [hj0]; rfl
      clear hj0
      have hnq := neq_self (some ⟨u6, 0, none⟩)
      rw [hpu]
      have H8 := HCO
      go_wp2_with fail
      (with_reducible refine H8.out.mono ?_)
      rintro e w7 ⟨rfl, hw⟩
      obtain rfl : w6 = w7 := hw.symm
      clear H8
    all_goals
      go_wp2_with fail
      (with_reducible refine HCO.out.mono ?_)
      rintro e w7 ⟨rfl, hw⟩
      obtain rfl : w6 = w7 := hw.symm
      try clear hnq hj0'
      go_wp2_with fail
      (with_reducible refine HCO.out.mono ?_)
      rintro e w7 ⟨rfl, hw⟩
      obtain rfl : w6 = w7 := hw.symm
      clear id2
      go_wp2_with fail
      (with_reducible refine H7.out.mono ?_)
      rintro e w8 ⟨u8, D8, j8, rfl, s8, _, hit8, _⟩
      obtain ⟨hj8, hu8⟩ := hit8 HH2.out.1
      rw [HH2.out.2] at hj8
      obtain rfl : j8 = 0 := by omega
      have hu8 := hu8 HH2.out.2
      injection hu8 with hu8
      injection hu8 with hu8 _
      subst hu8
      have b8 : Below w2.heap.size w6 w8 := s8.kept.below B6.out.size (fun g q => q.elim (fun z => (HD6.out g z).1) (fun z => by injection z with z; have := HZ4.out; have := B3.out.size; omega))
      have B8 := Lib.hid (B6.out.trans b8)
      have hc8 : w8.cell? ⟨w4.heap.size, 0, none⟩ = some (.int .i64 (j6 : Int)) := by
        have h1 := s8.num _ rfl
        rw [Int.natCast_zero, Int.add_zero] at h1
        exact h1.cell 0
      have HCT := Lib.hid (count_any (g := w4.heap.size) (m := (j6 : Int)) (w := w8) hc8)
      have T8 := Lib.hid (show OTre w8 (· < w8.heap.size) (some (oputs 7 pv1 (some T2) key)) (some ⟨u6, 0, none⟩) from ⟨u6, rfl, s8.tow.tre.there.mono (fun i q => q.2)⟩)
      have BZ8 := Lib.hid (ZV.out w8 B8.out)
      have HRP := Lib.hid (rput_any A2 A' n2 c2 n' c' w2.heap.size ps2 key pv1 w8 BZ8.out.1 BZ8.out.2.1 B8.out.size (by omega) (HKY.out w8 B8.out) HC.out)
      obtain ⟨k0, k1⟩ := HBX.out w8 (HZ2.out w8 B8.out)
      have heq := eql_self (some ⟨u6, 0, none⟩)
      have hcc : ((j6 : Int) == (j6 : Int)) = true := beq_self_eq_true _
      clear s8 hit8 hj8 b8 hc8 H7
      go_wp2_with fail
      (with_reducible refine HCT.out.mono ?_)
      rintro e w9 ⟨rfl, hw⟩
      obtain rfl : w8 = w9 := hw.symm
      clear HCT
      go_wp2_with fail
      (with_reducible refine HRP.out.mono ?_)
      rintro e w9 ⟨A9, n9, c9, rfl, h9, p9, b9⟩
      have hso := sort_put HRS.out ⟨A', n', c', key, pv1⟩
      rw [hso] at p9
      have B9 := Lib.hid (B8.out.trans (b9.mono B8.out.size))
      have BZ9 := Lib.hid (ZV.out w9 B9.out)
      have h71 := insS_all (P := fun p => p.key.length ≤ 600) (x := ⟨A', n', c', key, pv1⟩) (fun _ _ h _ => h) (fun p hp => by have := HK2.out p hp; omega) (by have := HKL.out; have := HSM.out; show key.length ≤ 600; omega)
      have h81 := insS_all (P := fun p => 0 ≤ p.val ∧ p.val ≤ 18446744073709551615) (x := ⟨A', n', c', key, pv1⟩) (fun _ _ _ h => h) HV2.out HPVB.out
      have h91 := insS_all (P := fun p => Byt w9 w9.heap.size p.A p.n p.key ∧ p.n ≤ p.c) (x := ⟨A', n', c', key, pv1⟩) (fun _ _ h _ => h) (BZ9.out.2.1.more B9.out.size) ⟨(HKY.out w9 B9.out).more B9.out.size, HC.out⟩
      have h101 : n9 ≤ 300 := by
        have h1 := p9.1
        have h2 := (insS_len ⟨A', n', c', key, pv1⟩ ps2).1
        have h3 := HN2.out
        omega
      have H10 := Lib.hid (pas_any (c := c9) (HTB.out w9 (HZ2.out w9 B9.out)) (T8.out.below b9) p9 h91 (Nat.le_refl _) h101 h9 (insS_rise HRS.out) h71 h81 (t := some (oputs 7 pv1 (some T2) key)) HCN3.out)
      clear hso p9 b9 h71 h81 h91 h101 h9 HRP heq hcc
      go_wp2_with fail
      (with_reducible refine H10.out.mono ?_)
      rintro e w10 ⟨rfl, b10⟩
      have B10 := Lib.hid (B9.out.trans (b10.mono B9.out.size))
      have H11 := Lib.hid (HAL.out w10 (HZ2.out w10 B10.out))
      clear b10 H10
      go_wp2_with fail
      (with_reducible refine H11.out.mono ?_)
      rintro e w11 ⟨rfl, b11⟩
      have B11 := Lib.hid (HZ.out w11 (HZ2.out w11 (B10.out.trans (b11.mono B10.out.size))))
      clear b11 H11
      go_wp2_with fail
      go_ret
      exact ⟨rfl, B11.out⟩
set_option maxRecDepth 100000 in
theorem lifted (os : Os) (started : os.Started) (H : Type) (enc : TypeId × Value → H) :
    ReturnsInHanded {} Tryz.checked os 5 .any (fun w args => (Rows.putOwnSpec.pre enc Tryz.prog Tryz.f5 [] false w args ∧ laidMetH Tryz.prog laid3 w) ∧ sizedMet enc Tryz.prog Tryz.f5 (OpenSpec.ofChange Rows.putOwnSpec) false w args) (Rows.putOwnSpec.post enc Tryz.prog Tryz.f5 false true false false) := by
  refine returnsInHanded_of_change_and (C := Tryz.checked) (X := fun w _ => laidMetH Tryz.prog laid3 w) (fun _ _ _ hh h => h.of_heap hh) own started (by kernel_rfl) Tryz.func5
    (ChangeSpec.witness_shaped (enc := enc) (C := Tryz.checked) (os := os) (X := fun w _ => laidMetH Tryz.prog laid3 w) false (World.doorLaid Tryz.prog 400 os) #[.slice none 0 0, .agg #[.slice none 0 0, .int .u64 0]] 8 rfl (World.shaped_of_RefB (by kernel_rfl) (by kernel_rfl)) (by kernel_rfl) (by kernel_rfl) (by kernel_rfl) (door_met3 os _)) ?_
  intro W base args ds gs before hval0 hW _ _ hL _
  have hval : ∀ (j : Nat) t v, Tryz.f5.params[j]? = some t → args[j]? = some v → Value.okWide Tryz.prog W .any base t v := hval0
  have hW' := hW
  obtain ⟨p, q, hA0, hV, rfl, hfz, hnd⟩ := hW
  have hA : DataW.TrodAll enc Tryz.prog W 0 (fun _ => true) true Tryz.f5.params.toList args.toList ds p := hA0
  rw [Tryz.params5] at hA hval
  obtain ⟨v0, vs0, d0, ds0, p0, q0, hargs, rfl, rfl, h0, r0⟩ := trodAll_cons hA
  obtain ⟨v1, vs1, d1, ds1, p1, q1, rfl, rfl, rfl, h1, r1⟩ := trodAll_cons r0
  obtain ⟨rfl, rfl, rfl⟩ := trodAll_nil r1
  obtain rfl : args = #[v0, v1] := by cases args; simp_all
  obtain ⟨rfl, rfl⟩ := trodVars_none hV
  have k0 := h0
  have lt0 : ∀ x ∈ p0, x.block < W.heap.size := by obtain ⟨m, hm⟩ := k0; exact DataW.trod_lt m _ _ _ hm
  have k1 := h1
  have lt1 : ∀ x ∈ p1, x.block < W.heap.size := by obtain ⟨m, hm⟩ := k1; exact DataW.trod_lt m _ _ _ hm
  obtain ⟨A0, n0, c0, l0, rfl, b0, kp0, nc0, vl0⟩ := open_kps (hval 0 22 v0 rfl rfl) h0
  obtain ⟨A1, n1, c1, l1, z1, rfl, b1, nc1, vz1⟩ := open_pr (hval 1 26 v1 rfl rfl) h1
  clear hA0 hval0
  refine (walk A0 n0 c0 l0 A1 n1 c1 l1 z1 W (of_laid3 hL) b0 kp0 nc0 vl0 b1 nc1 vz1).mono fun e W' ⟨he, bel⟩ => ?_
  subst he
  exact ⟨_, rfl, _, _, _, [], _, [], hW', trodAll_mk1 (shut_bool Tryz.underlying4 _), (trodAll_cons_mk (Below.trod laidOut (by kernel_rfl) (of_decide_eq_true (by kernel_rfl)) k0 bel lt0) (trodAll_cons_mk (Below.trod laidOut (by kernel_rfl) (of_decide_eq_true (by kernel_rfl)) k1 bel lt1) trodAll_mk0)), rfl, bel.frame _, fun h => by cases h⟩

set_option maxRecDepth 100000 in
theorem proved : Rows.PutOwnSaid :=
  OpenClaim.holds_of_wide 5 Tryz.f5 rfl rfl rfl rfl rfl rfl rfl ⟨rfl, rfl, rfl, rfl, rfl⟩ rfl rfl rfl rfl rfl (by kernel_rfl) Tryz.func5 (by kernel_rfl)
    (of_decide_eq_true (by kernel_rfl)) (by unfold Func.isWrapper; first | (rw [if_pos (by decide +kernel)]; kernel_rfl) | (rw [if_neg (by decide +kernel)]; exact ⟨rfl, rfl⟩))
    (fun os started H enc _ => lifted os started H enc)
set_option maxRecDepth 100000 in
theorem card_holds : Rows.PutOwnCardSaid :=
  Claim7.holds_tied_plain_at .later [] [.data, .data, .data] true _ false
    proved (fun _ h => by cases h) (by kernel_rfl) (fun _ h => by cases h) putOwn_row_tie rfl ⟨rfl, rfl⟩ (by kernel_rfl) rfl
    (fun f fn hf hfn => by
      obtain rfl : f = 5 := Option.some.inj ((show Tryz.prog.funcNamed "spunyarn/spunyarnlaw15.PutOwn" = some 5 by kernel_rfl).symm.trans hf) |>.symm
      obtain rfl : fn = Tryz.f5 := (Option.some.inj (Tryz.func5.symm.trans hfn)).symm
      exact ⟨by kernel_rfl, fun j t ht => by
        rw [Tryz.params5] at ht
        have hm : t ∈ [22, 26] := by simpa using Array.mem_of_getElem? ht
        have hall : ([22, 26].all fun u => !Tryz.prog.wantsStandIn u) = true := by kernel_rfl
        exact (show Tryz.prog.wantsStandIn t = false by simpa using List.all_eq_true.1 hall t hm)⟩)
    (by kernel_rfl)
end Go.Proofs.YtikmcmoegigfhaaGreatDoor.putOwn
