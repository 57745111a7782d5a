/-
  Proved here: what is looked for in the canonical tree of any pairs is found just if it is among them, with their value; the beginnings of any key, and the longest one, are the document's; nothing that came in is turned. No condition.
-/
import Derived.Test.YtfmkhafpbfmadaaGreatFnAlive
import Derived.Test.YtfmkhafpbfmadaaGreatFnCan
import Derived.Test.YtfmkhafpbfmadaaGreatRow
namespace Go.Proofs.YtfmkhafpbfmadaaGreat.findGets
open Go.ChangeShapes Go.WideShapes Go.ChangeAt Go.RowKit

set_option maxRecDepth 100000 in
set_option maxHeartbeats 8000000 in
theorem walk (A : Option Addr) (n c : Nat) (ps : List PV) (A' : Option Addr) (n' c' : Nat) (key : List UInt8) (W : World) (ha : Prs W W.heap.size A n ps) (hk : Kps W W.heap.size ps) (_ : n ≤ c) (_ : ∀ p ∈ ps, 0 ≤ p.val ∧ p.val ≤ 18446744073709551615) (hb : Byt W W.heap.size A' n' key) (hnc' : n' ≤ c') :
    Calls Tryz.prog 3 #[.slice A n c, .slice A' n' c'] W fun e w' => e = .returned (.bool true) ∧ Below W.heap.size W w' := by
  have hn9 : n' ≤ 9223372036854775807 := by have := hb.2.1; unfold maxLen at this; omega
  have H1 := Lib.hid (ffar_any A A' n c n' c' W.heap.size ps W ha (Nat.le_refl _) hn9)
  have HA := Lib.hid ha
  have HK := Lib.hid hk
  have HB := Lib.hid (fun V (h : Below W.heap.size W V) => hb.below h)
  have HC := Lib.hid hnc'
  have hln : ps.length = n := ha.1
  have HLN := Lib.hid hln
  clear ha hk hb hln hnc'
  go_enter Tryz.func3, Tryz.ntmps3
  go_wp2_with fail
  (with_reducible refine H1.out.mono ?_)
  rintro e w1 ⟨rfl, b1⟩
  have B1 := Lib.hid b1
  obtain ⟨fb, hfb⟩ : ∃ b, farF ps n' = b := ⟨_, rfl⟩
  rw [hfb]
  have HFB := Lib.hid hfb
  clear b1 hfb H1
  cases fb with
  | true =>
    have H2 := Lib.hid (falive_any w1)
    go_wp2_with fail
    (with_reducible refine H2.out.mono ?_)
    rintro e w2 ⟨rfl, b2⟩
    have B2 := Lib.hid (B1.out.trans (b2.mono B1.out.size))
    clear b2
    go_wp2_with fail
    go_ret
    exact ⟨rfl, B2.out⟩
  | false =>
    obtain ⟨f1, f2, f3⟩ := farF_no HFB.out
    have hn300 : n ≤ 300 := by have := HLN.out; omega
    have F2 := Lib.hid f2
    have HS := Lib.hid (rsort_any A n c W.heap.size ps w1 (HA.out.below B1.out) (HK.out.below B1.out) B1.out.size (by omega))
    clear f1 f2
    go_wp2_with fail
    (with_reducible refine HS.out.mono ?_)
    rintro e w2 ⟨A2, c2, rfl, hc2, p2, g2, b2⟩
    obtain ⟨ps2, hps2⟩ : ∃ l, sortS ps = l := ⟨_, rfl⟩
    obtain ⟨n2, hn2⟩ : ∃ k, (sortS ps).length = k := ⟨_, rfl⟩
    have hn2a : n2 ≤ 300 := by
      have := sortS_len ps
      have := HLN.out
      omega
    have hrs : Rsn ps2 := hps2 ▸ sortS_rise ps
    have hk2 : ∀ p ∈ ps2, p.key.length ≤ 300 := hps2 ▸ sortS_all (P := fun p => p.key.length ≤ 300) (fun _ _ h _ => h) F2.out
    have hkp : ∀ V, Below W.heap.size W V → Kps V W.heap.size ps2 := fun V hb => hps2 ▸ Kps.sort (HK.out.below hb)
    rw [hn2] at p2 g2 hc2 ⊢
    rw [hps2] at p2 hn2
    have b2' : Below W.heap.size W w2 := B1.out.trans (b2.mono B1.out.size)
    have ZV := Lib.hid (fun V (h : Below w2.heap.size w2 V) => show Prs V w2.heap.size A2 n2 ps2 ∧ Kps V w2.heap.size ps2 ∧ Byt V w2.heap.size A' n' key ∧ Below W.heap.size W V from
      have hW : Below W.heap.size W V := b2'.trans (h.mono b2'.size)
      ⟨p2.below h, (hkp V hW).more b2'.size, (HB.out V hW).more b2'.size, hW⟩)
    have HT := Lib.hid (ftree_any A2 n2 c2 w2.heap.size ps2 w2 p2 ((hkp w2 b2').more b2'.size) (Nat.le_refl _) hn2a hrs hk2)
    have HRS := Lib.hid hrs
    have HK2 := Lib.hid hk2
    have HN2 := Lib.hid hn2
    have HC2 := Lib.hid hc2
    clear hps2 hrs hk2 hkp p2 g2 b2 b2' hn2 hc2 HS
    go_wp2_with fail
    (with_reducible refine HT.out.mono ?_)
    rintro e w3 ⟨p, rfl, t3, b3⟩
    have T3 := Lib.hid t3
    have B3 := Lib.hid b3
    clear t3 b3 HT
    -- Get
    obtain ⟨g, hg⟩ : ∃ g, firstK (ps2.map kvP) key = g := ⟨_, rfl⟩
    obtain ⟨g1, g2⟩ := g
    have H5 := Lib.hid (cget_any HRS.out HK2.out T3.out (ZV.out w3 B3.out).2.2.1 B3.out.size HC.out (by omega) hg)
    have HG := Lib.hid hg
    clear hg
    go_wp2_with fail
    (with_reducible refine H5.out.mono ?_)
    rintro e w4 ⟨rfl, b4⟩
    have B4 := Lib.hid (B3.out.trans (b4.mono B3.out.size))
    have T4 := Lib.hid (T3.out.below b4)
    have H6 := rfget_any A2 A' n2 c2 n' c' w2.heap.size ps2 key w4 (ZV.out w4 B4.out).1 (ZV.out w4 B4.out).2.2.1 (by omega)
    rw [HG.out] at H6
    have H6 := Lib.hid H6
    clear b4 H5 T3
    go_wp2_with fail
    (with_reducible refine H6.out.mono ?_)
    rintro e w5 ⟨rfl, s5⟩
    have B5 := Lib.hid (B4.out.trans ((s5.below w4.heap.size).mono B4.out.size))
    have T5 := Lib.hid (T4.out.below (s5.below _))
    -- Longest
    obtain ⟨r, hr⟩ : ∃ r, lastP (begP key ps2) = r := ⟨_, rfl⟩
    obtain ⟨r1, r2, r3⟩ := r
    have H7 := clong_any HRS.out HK2.out T5.out (ZV.out w5 B5.out).2.2.1 B5.out.size HC.out (by omega) hr
    have HR := Lib.hid hr
    obtain ⟨rn, hrn⟩ : ∃ k, r1.length = k := ⟨_, rfl⟩
    rw [hrn] at H7
    have H7 := Lib.hid H7
    clear hr s5 H6 T4 hrn
    go_wp2_with fail
    (with_reducible refine H7.out.mono ?_)
    rintro e w6 ⟨A6, c6, rfl, y6, b6⟩
    obtain ⟨X6, hX6⟩ : ∃ V, w6.alloc (.cells #[.slice A6 rn c6, .int .u64 r2] 34) = V := ⟨_, rfl⟩
    have bx6 : Below w6.heap.size w6 X6 := by rw [← hX6]; exact (Below.refl _ _).alloc (Nat.le_refl _) _
    have K6 := Lib.hid (show Blk X6 w6.heap.size #[.slice A6 rn c6, .int .u64 r2] by rw [← hX6]; exact Blk.new _ _ _)
    have b5x : Below w5.heap.size w5 X6 := b6.trans (bx6.mono b6.size)
    have B6 := Lib.hid (B5.out.trans (b5x.mono B5.out.size))
    have T6 := Lib.hid (T5.out.below b5x)
    have Y6 := Lib.hid (show Byt X6 X6.heap.size A6 rn r1 from (y6.below bx6).more bx6.size)
    have H8 := rflong_any A2 A' n2 c2 n' c' w2.heap.size ps2 key X6 (ZV.out X6 B6.out).1 (ZV.out X6 B6.out).2.1 (ZV.out X6 B6.out).2.2.1 B6.out.size (by omega)
    rw [HR.out] at H8
    have H8 := Lib.hid H8
    have HX6 := Lib.hid hX6
    clear hX6 y6 b6 bx6 b5x H7 T5
    go_wp2_with fail
    rw [HX6.out]
    (with_reducible refine H8.out.mono ?_)
    rintro e w7 ⟨A7, n7, c7, rfl, y7, b7⟩
    obtain ⟨X7, hX7⟩ : ∃ V, w7.alloc (.cells #[.slice A7 n7 c7, .int .u64 r2] 37) = V := ⟨_, rfl⟩
    have bx7 : Below w7.heap.size w7 X7 := by rw [← hX7]; exact (Below.refl _ _).alloc (Nat.le_refl _) _
    have K7 := Lib.hid (show Blk X7 w7.heap.size #[.slice A7 n7 c7, .int .u64 r2] by rw [← hX7]; exact Blk.new _ _ _)
    have b6x : Below X6.heap.size X6 X7 := b7.trans (bx7.mono b7.size)
    have B7 := Lib.hid (B6.out.trans (b6x.mono B6.out.size))
    have T7 := Lib.hid (T6.out.below b6x)
    have Y7 := Lib.hid (show Byt X7 X7.heap.size A7 n7 r1 from (y7.below bx7).more bx7.size)
    have Y67 := Lib.hid (show Byt X7 X7.heap.size A6 rn r1 from (Y6.out.below b6x).more b6x.size)
    have K67 := Lib.hid (K6.out.below b6x K6.out.lt)
    -- Beginnings
    obtain ⟨j, hj⟩ : ∃ k, (begP key ps2).length = k := ⟨_, rfl⟩
    have H9 := Lib.hid (cbegs_any HRS.out HK2.out T7.out (ZV.out X7 B7.out).2.2.1 B7.out.size HC.out (by omega) hj)
    have HJ := Lib.hid hj
    have HX7 := Lib.hid hX7
    clear hX7 y7 b7 bx7 b6x H8 T6 K6 Y6 hj
    go_wp2_with fail
    rw [HX7.out]
    (with_reducible refine H9.out.mono ?_)
    rintro e w8 ⟨A8, c8, qs, rfl, p8, e8, b8⟩
    have B8 := Lib.hid (B7.out.trans (b8.mono B7.out.size))
    have T8 := Lib.hid (T7.out.below b8)
    have P8 := Lib.hid p8
    have E8 := Lib.hid e8
    have B78 := Lib.hid b8
    have H10 := Lib.hid (rfbegs_any A2 A' n2 c2 n' c' w2.heap.size ps2 key w8 (ZV.out w8 B8.out).1 (ZV.out w8 B8.out).2.1 (ZV.out w8 B8.out).2.2.1 B8.out.size (by omega))
    clear p8 e8 b8 H9 T7
    go_wp2_with fail
    (with_reducible refine H10.out.mono ?_)
    rintro e w9 ⟨A9, c9, m9, rfl, _, p9, _, b9⟩
    have hm9 : m9 = j := by rw [← HJ.out]; exact p9.1.symm
    subst hm9
    have B9 := Lib.hid (B8.out.trans (b9.mono B8.out.size))
    have B79 := Lib.hid (B78.out.trans (b9.mono B78.out.size))
    have T9 := Lib.hid (T8.out.below b9)
    have P9 := Lib.hid p9
    have P89 := Lib.hid ((P8.out.below b9).more b9.size)
    -- Has
    have H11 := Lib.hid (chas_any HRS.out HK2.out T9.out (ZV.out w9 B9.out).2.2.1 B9.out.size HC.out (by omega) HG.out)
    have u1 : (g1 != g1) = false := bne_self_eq_false _
    have u2 : (g2 != g2) = false := bne_self_eq_false _
    have u3 : (r2 != r2) = false := bne_self_eq_false _
    have u4 : (r3 != r3) = false := bne_self_eq_false _
    clear p9 b9 H10 T8 P8 B78
    go_wp2_with fail
    (with_reducible refine H11.out.mono ?_)
    rintro e w10 ⟨rfl, b10⟩
    have B10 := Lib.hid (B9.out.trans (b10.mono B9.out.size))
    have b710 := B79.out.trans (b10.mono B79.out.size)
    have k6 := K67.out.below b710 K67.out.lt
    have k7 := K7.out.below b710 K7.out.lt
    have d60 := k6.cell 0
    have d61 := k6.cell 1
    have d70 := k7.cell 0
    have d71 := k7.cell 1
    have H12 := Lib.hid (rsame_me A6 A7 rn n7 c6 c7 X7.heap.size r1 w10 (Y67.out.below b710) (Y7.out.below b710))
    have PA := Lib.hid (P89.out.below b10)
    have PB := Lib.hid (P9.out.below b10)
    clear b10 b710 k6 k7 H11
    go_wp2_with fail
    (with_reducible refine H12.out.mono ?_)
    rintro e w11 ⟨rfl, s11⟩
    have B11 := Lib.hid (B10.out.trans ((s11.below w10.heap.size).mono B10.out.size))
    have PA1 := Lib.hid (PA.out.below (s11.below _))
    have PB1 := Lib.hid (PB.out.below (s11.below _))
    have hj9 : m9 ≤ 9223372036854775807 := by have := PB.out.2.1; unfold maxLen at this; omega
    have u5 : ((m9 : Int) != (m9 : Int)) = false := bne_self_eq_false _
    clear s11 H12 d60 d61 d70 d71 u1 u2 u3 u4 PA PB
    go_wp2_with fail
    go_loopw [99] (fun i wr => ∃ k : Nat, k ≤ m9 ∧ i = .int .i64 k ∧ Still w11 wr) (fun i _ => m9 - (intOf i).toNat)
    case atStart => exact ⟨0, Nat.zero_le _, rfl, Still.refl _⟩
    case round =>
      obtain ⟨k, hk, rfl, q, rfl⟩ := hrel
      by_cases h1 : k < m9
      · obtain ⟨ad, p1, rfl, _, e1, c1, c2', b1⟩ := PA1.out.at_ h1
        obtain ⟨ad', p2, rfl, _, e2, c3, c4', b2⟩ := PB1.out.at_ h1
        have hpp : kvP p1 = kvP p2 := by
          have h2 : (qs.map kvP)[k]? = ((begP key ps2).map kvP)[k]? := by rw [E8.out]
          rw [List.getElem?_map, List.getElem?_map, e1, e2] at h2
          simpa using h2
        injection hpp with hp1 hp2
        rw [← add_of_add] at c2' c4'
        have c2n : w11.cell? ⟨(ad.add (k * 2)).block, (ad.add (k * 2)).off + 1, none⟩ = some (.int .u64 p1.val) := c2'
        have c4n : w11.cell? ⟨(ad'.add (k * 2)).block, (ad'.add (k * 2)).off + 1, none⟩ = some (.int .u64 p1.val) := by rw [hp2]; exact c4'
        rw [← hp1] at b2
        have HB1 := Lib.hid b1
        have HB2 := Lib.hid b2
        have u6 : (p1.val != p1.val) = false := bne_self_eq_false _
        clear c2' c4' e1 e2 hp1 hp2 b1 b2
        go_wp2_with fail
        have i0 : (0 : Int) ≤ (k : Int) := by omega
        have i3 : (k : Int) < (m9 : Int) := by omega
        go_quiet ((go_at_call 18; exact quiet_st2 (rsame_me _ _ _ _ _ _ w9.heap.size p1.key _ (HB1.out.drewN _) (HB2.out.drewN _))))
        go_wp2
        exact ⟨⟨k + 1, by omega, by go_num, (by repeat (first | exact Still.refl _ | apply Still.step))⟩, by simp [intOf]; omega⟩
      · have hst : Still w11 (w11.drewN q) := ⟨q, rfl⟩
        have B12 := Lib.hid (B11.out.trans ((hst.below w11.heap.size).mono B11.out.size))
        have H13 := Lib.hid (falive_any (w11.drewN q))
        clear hst
        go_wp2_with fail
        (with_reducible refine H13.out.mono ?_)
        rintro e w13 ⟨rfl, b13⟩
        have B13 := Lib.hid (ZV.out w13 (B12.out.trans (b13.mono B12.out.size))).2.2.2
        clear b13 H13
        go_wp2_with fail
        go_ret
        exact ⟨rfl, B13.out⟩
set_option maxRecDepth 100000 in
theorem lifted (os : Os) (started : os.Started) (H : Type) (enc : TypeId × Value → H) :
    ReturnsInHanded {} Tryz.checked os 3 .any (Rows.findGetsSpec.pre6 enc Tryz.prog Tryz.f3 Rows.findGetsRow.domain false) (Rows.findGetsSpec.post enc Tryz.prog Tryz.f3 false true false false) := by
  refine returnsInHanded_of_change (C := Tryz.checked) own started (by kernel_rfl) Tryz.func3
    (ChangeSpec.witness6 (enc := enc) (C := Tryz.checked) false ⟨#[], #[.slice none 0 0, .slice none 0 0], []⟩ 8 (by kernel_rfl) (by kernel_rfl) (by kernel_rfl) (by kernel_rfl)) ?_
  intro W base args ds gs before hval0 hW hcnd _
  have hval : ∀ (j : Nat) t v, Tryz.f3.params[j]? = some t → args[j]? = some v → Value.okWide Tryz.prog W .any base t v := hval0
  have hW' := hW
  obtain ⟨p, q, hA0, hV, rfl, hfz, hnd⟩ := hW
  have hA : DataW.TrodAll enc Tryz.prog W 0 (fun _ => true) true Tryz.f3.params.toList args.toList ds p := hA0
  rw [Tryz.params3] at hA hval
  obtain ⟨v0, vs0, d0, ds0, p0, q0, hargs, rfl, rfl, h0, r0⟩ := trodAll_cons hA
  obtain ⟨v1, vs1, d1, ds1, p1, q1, rfl, rfl, rfl, h1, r1⟩ := trodAll_cons r0
  obtain ⟨rfl, rfl, rfl⟩ := trodAll_nil r1
  obtain rfl : args = #[v0, v1] := by cases args; simp_all
  obtain ⟨rfl, rfl⟩ := trodVars_none hV
  have k0 := h0
  have lt0 : ∀ x ∈ p0, x.block < W.heap.size := by obtain ⟨m, hm⟩ := k0; exact DataW.trod_lt m _ _ _ hm
  have k1 := h1
  have lt1 : ∀ x ∈ p1, x.block < W.heap.size := by obtain ⟨m, hm⟩ := k1; exact DataW.trod_lt m _ _ _ hm
  obtain ⟨A0, n0, c0, l0, rfl, b0, kp0, nc0, vl0⟩ := open_kps (hval 0 22 v0 rfl rfl) h0
  obtain ⟨A1, n1, c1, l1, rfl, b1, nc1⟩ := open_byt (hval 1 23 v1 rfl rfl) h1
  clear hA0 hval0
  refine (walk A0 n0 c0 l0 A1 n1 c1 l1 W b0 kp0 nc0 vl0 b1 nc1).mono fun e W' ⟨he, bel⟩ => ?_
  subst he
  exact ⟨_, rfl, _, _, _, [], _, [], hW', trodAll_mk1 (shut_bool Tryz.underlying4 _), (trodAll_cons_mk (Below.trod laidOut (by kernel_rfl) (of_decide_eq_true (by kernel_rfl)) k0 bel lt0) (trodAll_cons_mk (Below.trod laidOut (by kernel_rfl) (of_decide_eq_true (by kernel_rfl)) k1 bel lt1) trodAll_mk0)), rfl, bel.frame _, fun h => by cases h⟩

set_option maxRecDepth 100000 in
theorem proved : Rows.FindGetsSaid :=
  OpenClaim.holds_of_wide 3 Tryz.f3 rfl rfl rfl rfl rfl rfl rfl ⟨rfl, rfl, rfl, rfl, rfl⟩ rfl rfl rfl rfl rfl (by kernel_rfl) Tryz.func3 (by kernel_rfl)
    (of_decide_eq_true (by kernel_rfl)) (by unfold Func.isWrapper; first | (rw [if_pos (by decide +kernel)]; kernel_rfl) | (rw [if_neg (by decide +kernel)]; exact ⟨rfl, rfl⟩))
    (fun os started H enc _ => lifted os started H enc)
end Go.Proofs.YtfmkhafpbfmadaaGreat.findGets
