/-
  Proved here: texts' bytes, as senc.Put tells them, are in order as the texts, the other ones (senc.Other) the other way round; none are the beginning of another one's; what is put is taken (senc.Take), whatever stands behind; nothing that came in is turned. No condition.
-/
import Derived.Test.YtggnfigkihkabaaRow
import Derived.Test.YtggnfigkihkabaaSencD
namespace Go.Proofs.Ytggnfigkihkabaa.sencOrder
open Go.ChangeShapes Go.WideShapes Go.ChangeAt Go.RowKit

theorem beg_no {l m : List UInt8} (h : l ≠ m) : begB (sputL l) (sputL m) = false := by
  unfold begB
  rw [decide_eq_false_iff_not]
  exact fun q => h (lcp_sput q)

set_option maxHeartbeats 4000000 in
theorem walk (A0 : Option Addr) (n0 c0 : Nat) (l : List UInt8) (A1 : Option Addr) (n1 c1 : Nat) (m : List UInt8) (A2 : Option Addr) (n2 c2 : Nat) (r : List UInt8) (w : World)
    (ha : Byt w w.heap.size A0 n0 l) (_ : n0 ≤ c0) (hb : Byt w w.heap.size A1 n1 m) (_ : n1 ≤ c1) (hr : Byt w w.heap.size A2 n2 r) (_ : n2 ≤ c2) :
    Calls Try.prog 5 #[.slice A0 n0 c0, .slice A1 n1 c1, .slice A2 n2 c2] w fun e w' => e = .returned (.bool true) ∧ Below w.heap.size w w' := by
  have hna : n0 ≤ 9223372036854775807 := by have := ha.2.1; unfold maxLen at this; omega
  have hnb : n1 ≤ 9223372036854775807 := by have := hb.2.1; unfold maxLen at this; omega
  have hnr : n2 ≤ 9223372036854775807 := by have := hr.2.1; unfold maxLen at this; omega
  have KA := Lib.hid (show ∀ W, Below w.heap.size w W → Byt W w.heap.size A0 n0 l from fun W h => ha.below h)
  have KB := Lib.hid (show ∀ W, Below w.heap.size w W → Byt W w.heap.size A1 n1 m from fun W h => hb.below h)
  have KR := Lib.hid (show ∀ W, Below w.heap.size w W → Byt W w.heap.size A2 n2 r from fun W h => hr.below h)
  have HNA := Lib.hid ha.1
  have HNB := Lib.hid hb.1
  have HNR := Lib.hid hr.1
  clear ha hb hr
  by_cases hg0 : 300 < n0
  · go_enter Try.func5, Try.ntmps5
    go_wp2_with fail
    (with_reducible refine (alive_any _).mono ?_)
    rintro e w4 ⟨rfl, h4⟩
    have B4 := Lib.hid h4
    clear h4
    go_wp2
    go_ret
    exact ⟨rfl, B4.out⟩
  by_cases hg1 : 300 < n1
  · go_enter Try.func5, Try.ntmps5
    go_wp2_with fail
    (with_reducible refine (alive_any _).mono ?_)
    rintro e w4 ⟨rfl, h4⟩
    have B4 := Lib.hid h4
    clear h4
    go_wp2
    go_ret
    exact ⟨rfl, B4.out⟩
  by_cases hg2 : 300 < n2
  · go_enter Try.func5, Try.ntmps5
    go_wp2_with fail
    (with_reducible refine (alive_any _).mono ?_)
    rintro e w4 ⟨rfl, h4⟩
    have B4 := Lib.hid h4
    clear h4
    go_wp2
    go_ret
    exact ⟨rfl, B4.out⟩
  have la : (sputL l).length ≤ 602 := by have := sputL_length l; have := escL_length l; have := HNA.out; omega
  have lb : (sputL m).length ≤ 602 := by have := sputL_length m; have := escL_length m; have := HNB.out; omega
  have LA := Lib.hid la
  have LB := Lib.hid lb
  clear la lb
  obtain ⟨d, hd⟩ : ∃ d, cmpL l m = d := ⟨_, rfl⟩
  have hd1 : -1 ≤ d ∧ d ≤ 1 := by have := cmpL_cases l m; omega
  have HD := Lib.hid hd
  clear hd
  obtain ⟨hd2, hd3⟩ := hd1
  go_enter Try.func5, Try.ntmps5
  go_wp2_with fail
  (with_reducible refine (sput_any _ _ _ _ l _ (KA.out _ (Below.refl _ _)) (Nat.le_refl _) (by omega)).mono ?_)
  rintro e wa ⟨Aa, na, ca, rfl, ya, _, ha⟩
  have na1 : na ≤ 602 := by have := ya.1; have := LA.out; omega
  have Ba := Lib.hid ha
  have Ya := Lib.hid ya
  clear ha ya
  go_wp2_with fail
  (with_reducible refine (sput_any _ _ _ _ m _ (KB.out _ Ba.out) Ba.out.size (by omega)).mono ?_)
  rintro e wb ⟨Ab, nb, cb, rfl, yb, _, hb⟩
  have nb1 : nb ≤ 602 := by have := yb.1; have := LB.out; omega
  have Bb := Lib.hid (Ba.out.trans (hb.mono Ba.out.size))
  have KPB := Lib.hid (show ∀ W, Below wb.heap.size wb W → Byt W wb.heap.size Ab nb (sputL m) from fun W h => yb.below h)
  have KPA := Lib.hid (show ∀ W, Below wb.heap.size wb W → Byt W wb.heap.size Aa na (sputL l) from fun W h => ((Ya.out.below hb).more hb.size).below h)
  have sb := Bb.out.size
  clear hb yb Ya
  go_wp2_with (first
    | (at_builtin
       refine wpList_append_byt _ rfl (.const (.slice none 0 0)) (.tmp 31) _ rfl Try.underlying22 info_u8 wb.heap.size (.slice none 0 0) 0 [] rfl (Mine.nil _ _ _) wb.heap.size Aa na ca (sputL l) rfl (KPA.out _ (Below.refl _ _)) (by omega) (Nat.le_refl _) ?_
       intro v2 w2 hm2 hg2 _
       rw [Nat.zero_add, List.nil_append] at hm2
       have HM2 := Lib.hid hm2
       have C2 := Lib.hid ((Below.refl wb.heap.size wb).grown hg2 (Nat.le_refl _) (by simp [Value.ownBlock]))
       have s2 := C2.out.size
       clear hm2 hg2)
    | (at_builtin
       refine wpList_append_byt _ rfl (.tmp 32) (.tmp 33) _ rfl Try.underlying22 info_u8 wb.heap.size _ na _ rfl HM2.out w.heap.size A2 n2 c2 r rfl (KR.out _ (Bb.out.trans (C2.out.mono sb))) (by omega) s2 ?_
       intro v3 w3 hm3 hg3 _
       obtain ⟨A3, c3, rfl⟩ := hm3.slice
       have HM3 := Lib.hid hm3
       have C3 := Lib.hid (C2.out.grown hg3 s2 (fun j hj => (HM2.out.lt j hj).1))
       have s3 := C3.out.size
       clear hm3 hg3))
  have HT : Hid (∀ B W c, Byt W B A3 (na + n2) (sputL l ++ r) → na + n2 ≤ c → B ≤ W.heap.size → Calls Try.prog 13 #[.slice A3 (na + n2) c] W (STakePost W l r 0)) := Lib.hid (fun B W c h hc hB => by
    have h2 := stake_any A3 (na + n2) c B (sputL l ++ r) W h hc hB (by omega)
    rw [scan_put] at h2
    have e : (sputL l ++ r).drop (sputL l).length = r := by simp
    have h3 : STakePost W (Scn.ok l (sputL l).length).T ((Scn.ok l (sputL l).length).R (sputL l ++ r)) (Scn.ok l (sputL l).length).E = STakePost W l r 0 := by
      show STakePost W l ((sputL l ++ r).drop (sputL l).length) 0 = _
      rw [e]
    rwa [h3] at h2)
  (with_reducible refine (HT.out _ _ _ HM3.out.byt HM3.out.room (Nat.le_refl _)).mono ?_)
  rintro e w4 ⟨A4, n4, c4, A5, n5, c5, rfl, y4, y5, _, _, h4⟩
  have C4 := Lib.hid (C3.out.trans (h4.mono s3))
  have K4 := Lib.hid (show ∀ W, Below w4.heap.size w4 W → Byt W w4.heap.size A4 n4 l from fun W h => y4.below h)
  have K5 := Lib.hid (show ∀ W, Below w4.heap.size w4 W → Byt W w4.heap.size A5 n5 r from fun W h => y5.below h)
  have s4 := C4.out.size
  have sw4 : w.heap.size ≤ w4.heap.size := by omega
  have LW := Lib.hid (show ∀ W, Below w4.heap.size w4 W → Below w.heap.size w W from fun W h => Bb.out.trans ((C4.out.trans (h.mono s4)).mono sb))
  have LB4 := Lib.hid (show ∀ W, Below w4.heap.size w4 W → Below wb.heap.size wb W from fun W h => C4.out.trans (h.mono s4))
  clear h4 y4 y5 HT HM2 HM3 C2 C3
  go_wp2_with fail
  (with_reducible refine (rsame_any _ _ _ _ _ _ w.heap.size l m _ (KA.out _ (LW.out _ (Below.refl _ _))) (KB.out _ (LW.out _ (Below.refl _ _)))).mono ?_)
  rintro e w5 ⟨rfl, h5⟩
  have B5 := Lib.hid (h5.below w4.heap.size)
  clear h5
  by_cases hlm : l = m
  · rw [show sameB l m = true from by simp [sameB, hlm]]
    clear hlm
    go_wp2_with fail
    (with_reducible refine (rcmp_any _ _ _ _ _ _ wb.heap.size (sputL l) (sputL m) _ (KPA.out _ (LB4.out _ B5.out)) (KPB.out _ (LB4.out _ B5.out))).mono ?_)
    rintro e w10 ⟨rfl, h10⟩
    rw [cmpL_sput, HD.out]
    have B10 := Lib.hid (B5.out.trans (h10.below _))
    clear h10
    go_wp2_with fail
    (with_reducible refine (rcmp_any _ _ _ _ _ _ w.heap.size l m _ (KA.out _ (LW.out _ B10.out)) (KB.out _ (LW.out _ B10.out))).mono ?_)
    rintro e w11 ⟨rfl, h11⟩
    rw [HD.out]
    have B11 := Lib.hid (B10.out.trans (h11.below _))
    clear h11
    go_wp2_with fail
    (with_reducible refine (oth_any _ _ _ _ (sputL l) _ (KPA.out _ (LB4.out _ B11.out)) (LB4.out _ B11.out).size (by omega)).mono ?_)
    rintro e w12 ⟨A12, n12, c12, rfl, y12, _, h12⟩
    have B12 := Lib.hid (B11.out.trans (h12.mono B11.out.size))
    have Y12 := Lib.hid y12
    have z12 : n12 ≤ 1000 := by have := LA.out; have q := y12.1; simp only [othL_length] at q; omega
    have D12 := Lib.hid h12
    clear h12 y12
    go_wp2_with fail
    (with_reducible refine (oth_any _ _ _ _ (sputL m) _ (KPB.out _ (LB4.out _ B12.out)) (LB4.out _ B12.out).size (by omega)).mono ?_)
    rintro e w13 ⟨A13, n13, c13, rfl, y13, _, h13⟩
    have B13 := Lib.hid (B12.out.trans (h13.mono B12.out.size))
    have Y13 := Lib.hid y13
    have z13 : n13 ≤ 1000 := by have := LB.out; have q := y13.1; simp only [othL_length] at q; omega
    have D13 := Lib.hid h13
    clear h13 y13
    go_wp2_with fail
    (with_reducible refine (rcmp_any _ _ _ _ _ _ w13.heap.size (othL (sputL l)) (othL (sputL m)) _ ((Y12.out.below D13.out).more D13.out.size) Y13.out).mono ?_)
    rintro e w14 ⟨rfl, h14⟩
    rw [cmpL_oth, HD.out]
    have B14 := Lib.hid (B13.out.trans (h14.below _))
    clear h14
    go_wp2_with fail
    (with_reducible refine (rcmp_any _ _ _ _ _ _ w.heap.size l m _ (KA.out _ (LW.out _ B14.out)) (KB.out _ (LW.out _ B14.out))).mono ?_)
    rintro e w15 ⟨rfl, h15⟩
    rw [HD.out]
    have B15 := Lib.hid (B14.out.trans (h15.below _))
    clear h15
    go_wp2_with fail
    (with_reducible refine (rsame_any _ _ _ _ _ _ w4.heap.size l l _ (K4.out _ B15.out) ((KA.out _ (LW.out _ B15.out)).more sw4)).mono ?_)
    rintro e w16 ⟨rfl, h16⟩
    rw [show sameB l l = true from by simp [sameB]]
    have B16 := Lib.hid (B15.out.trans (h16.below _))
    clear h16
    go_wp2_with fail
    (with_reducible refine (rsame_any _ _ _ _ _ _ w4.heap.size r r _ (K5.out _ B16.out) ((KR.out _ (LW.out _ B16.out)).more sw4)).mono ?_)
    rintro e w17 ⟨rfl, h17⟩
    rw [show sameB r r = true from by simp [sameB]]
    have B17 := Lib.hid (B16.out.trans (h17.below _))
    clear h17
    go_wp2_with fail
    (with_reducible refine (oth_any _ _ _ _ l _ (KA.out _ (LW.out _ B17.out)) (LW.out _ B17.out).size (by omega)).mono ?_)
    rintro e w18 ⟨A18, n18, c18, rfl, y18, _, h18⟩
    have B18 := Lib.hid (B17.out.trans (h18.mono B17.out.size))
    have Y18 := Lib.hid y18
    have z18 : n18 ≤ 1000 := by have := HNA.out; have q := y18.1; simp only [othL_length] at q; omega
    have D18 := Lib.hid h18
    clear h18 y18
    go_wp2_with fail
    (with_reducible refine (oth_any _ _ _ _ (othL l) _ Y18.out (Nat.le_refl _) (by omega)).mono ?_)
    rintro e w19 ⟨A19, n19, c19, rfl, y19, _, h19⟩
    have B19 := Lib.hid (B18.out.trans (h19.mono B18.out.size))
    have Y19 := Lib.hid y19
    have z19 : n19 ≤ 1000 := by have := HNA.out; have q := y19.1; simp only [othL_length] at q; omega
    have D19 := Lib.hid h19
    clear h19 y19
    go_wp2_with fail
    (with_reducible refine (rsame_any _ _ _ _ _ _ w19.heap.size (othL (othL l)) l _ Y19.out ((KA.out _ (LW.out _ B19.out)).more (LW.out _ B19.out).size)).mono ?_)
    rintro e w20 ⟨rfl, h20⟩
    rw [show sameB (othL (othL l)) l = true from by simp [sameB, othL_othL]]
    have B20 := Lib.hid (B19.out.trans (h20.below _))
    clear h20
    go_wp2_with fail
    (with_reducible refine (alive_any _).mono ?_)
    rintro e w21 ⟨rfl, h21⟩
    have B21 := Lib.hid (B20.out.trans (h21.mono B20.out.size))
    clear h21
    go_wp2
    go_ret
    exact ⟨rfl, LW.out _ B21.out⟩
  · rw [show sameB l m = false from by simp [sameB, hlm]]
    have HB1 := Lib.hid (beg_no hlm)
    have HB2 := Lib.hid (beg_no (Ne.symm hlm))
    clear hlm
    go_wp2_with fail
    (with_reducible refine (rbegins_any _ _ _ _ _ _ wb.heap.size (sputL l) (sputL m) _ (KPA.out _ (LB4.out _ B5.out)) (KPB.out _ (LB4.out _ B5.out))).mono ?_)
    rintro e w6 ⟨rfl, h6⟩
    rw [HB1.out]
    have B6 := Lib.hid (B5.out.trans (h6.below _))
    clear h6
    go_wp2_with fail
    (with_reducible refine (rbegins_any _ _ _ _ _ _ wb.heap.size (sputL m) (sputL l) _ (KPB.out _ (LB4.out _ B6.out)) (KPA.out _ (LB4.out _ B6.out))).mono ?_)
    rintro e w7 ⟨rfl, h7⟩
    rw [HB2.out]
    have B7 := Lib.hid (B6.out.trans (h7.below _))
    clear h7
    go_wp2_with fail
    (with_reducible refine (rcmp_any _ _ _ _ _ _ wb.heap.size (sputL l) (sputL m) _ (KPA.out _ (LB4.out _ B7.out)) (KPB.out _ (LB4.out _ B7.out))).mono ?_)
    rintro e w10 ⟨rfl, h10⟩
    rw [cmpL_sput, HD.out]
    have B10 := Lib.hid (B7.out.trans (h10.below _))
    clear h10
    go_wp2_with fail
    (with_reducible refine (rcmp_any _ _ _ _ _ _ w.heap.size l m _ (KA.out _ (LW.out _ B10.out)) (KB.out _ (LW.out _ B10.out))).mono ?_)
    rintro e w11 ⟨rfl, h11⟩
    rw [HD.out]
    have B11 := Lib.hid (B10.out.trans (h11.below _))
    clear h11
    go_wp2_with fail
    (with_reducible refine (oth_any _ _ _ _ (sputL l) _ (KPA.out _ (LB4.out _ B11.out)) (LB4.out _ B11.out).size (by omega)).mono ?_)
    rintro e w12 ⟨A12, n12, c12, rfl, y12, _, h12⟩
    have B12 := Lib.hid (B11.out.trans (h12.mono B11.out.size))
    have Y12 := Lib.hid y12
    have z12 : n12 ≤ 1000 := by have := LA.out; have q := y12.1; simp only [othL_length] at q; omega
    have D12 := Lib.hid h12
    clear h12 y12
    go_wp2_with fail
    (with_reducible refine (oth_any _ _ _ _ (sputL m) _ (KPB.out _ (LB4.out _ B12.out)) (LB4.out _ B12.out).size (by omega)).mono ?_)
    rintro e w13 ⟨A13, n13, c13, rfl, y13, _, h13⟩
    have B13 := Lib.hid (B12.out.trans (h13.mono B12.out.size))
    have Y13 := Lib.hid y13
    have z13 : n13 ≤ 1000 := by have := LB.out; have q := y13.1; simp only [othL_length] at q; omega
    have D13 := Lib.hid h13
    clear h13 y13
    go_wp2_with fail
    (with_reducible refine (rcmp_any _ _ _ _ _ _ w13.heap.size (othL (sputL l)) (othL (sputL m)) _ ((Y12.out.below D13.out).more D13.out.size) Y13.out).mono ?_)
    rintro e w14 ⟨rfl, h14⟩
    rw [cmpL_oth, HD.out]
    have B14 := Lib.hid (B13.out.trans (h14.below _))
    clear h14
    go_wp2_with fail
    (with_reducible refine (rcmp_any _ _ _ _ _ _ w.heap.size l m _ (KA.out _ (LW.out _ B14.out)) (KB.out _ (LW.out _ B14.out))).mono ?_)
    rintro e w15 ⟨rfl, h15⟩
    rw [HD.out]
    have B15 := Lib.hid (B14.out.trans (h15.below _))
    clear h15
    go_wp2_with fail
    (with_reducible refine (rsame_any _ _ _ _ _ _ w4.heap.size l l _ (K4.out _ B15.out) ((KA.out _ (LW.out _ B15.out)).more sw4)).mono ?_)
    rintro e w16 ⟨rfl, h16⟩
    rw [show sameB l l = true from by simp [sameB]]
    have B16 := Lib.hid (B15.out.trans (h16.below _))
    clear h16
    go_wp2_with fail
    (with_reducible refine (rsame_any _ _ _ _ _ _ w4.heap.size r r _ (K5.out _ B16.out) ((KR.out _ (LW.out _ B16.out)).more sw4)).mono ?_)
    rintro e w17 ⟨rfl, h17⟩
    rw [show sameB r r = true from by simp [sameB]]
    have B17 := Lib.hid (B16.out.trans (h17.below _))
    clear h17
    go_wp2_with fail
    (with_reducible refine (oth_any _ _ _ _ l _ (KA.out _ (LW.out _ B17.out)) (LW.out _ B17.out).size (by omega)).mono ?_)
    rintro e w18 ⟨A18, n18, c18, rfl, y18, _, h18⟩
    have B18 := Lib.hid (B17.out.trans (h18.mono B17.out.size))
    have Y18 := Lib.hid y18
    have z18 : n18 ≤ 1000 := by have := HNA.out; have q := y18.1; simp only [othL_length] at q; omega
    have D18 := Lib.hid h18
    clear h18 y18
    go_wp2_with fail
    (with_reducible refine (oth_any _ _ _ _ (othL l) _ Y18.out (Nat.le_refl _) (by omega)).mono ?_)
    rintro e w19 ⟨A19, n19, c19, rfl, y19, _, h19⟩
    have B19 := Lib.hid (B18.out.trans (h19.mono B18.out.size))
    have Y19 := Lib.hid y19
    have z19 : n19 ≤ 1000 := by have := HNA.out; have q := y19.1; simp only [othL_length] at q; omega
    have D19 := Lib.hid h19
    clear h19 y19
    go_wp2_with fail
    (with_reducible refine (rsame_any _ _ _ _ _ _ w19.heap.size (othL (othL l)) l _ Y19.out ((KA.out _ (LW.out _ B19.out)).more (LW.out _ B19.out).size)).mono ?_)
    rintro e w20 ⟨rfl, h20⟩
    rw [show sameB (othL (othL l)) l = true from by simp [sameB, othL_othL]]
    have B20 := Lib.hid (B19.out.trans (h20.below _))
    clear h20
    go_wp2_with fail
    (with_reducible refine (alive_any _).mono ?_)
    rintro e w21 ⟨rfl, h21⟩
    have B21 := Lib.hid (B20.out.trans (h21.mono B20.out.size))
    clear h21
    go_wp2
    go_ret
    exact ⟨rfl, LW.out _ B21.out⟩

set_option maxRecDepth 100000 in
theorem lifted (os : Os) (started : os.Started) (H : Type) (enc : TypeId × Value → H) :
    ReturnsInHanded {} Try.checked os 5 .any (Rows.sencOrderSpec.pre6 enc Try.prog Try.f5 Rows.sencOrderRow.domain false) (Rows.sencOrderSpec.post enc Try.prog Try.f5 false true false false) := by
  refine returnsInHanded_of_change (C := Try.checked) own started (by kernel_rfl) Try.func5
    (ChangeSpec.witness6 (enc := enc) (C := Try.checked) false ⟨#[], #[.slice none 0 0, .slice none 0 0, .slice none 0 0], []⟩ 8 (by kernel_rfl) (by kernel_rfl) (by kernel_rfl) (by kernel_rfl)) ?_
  intro W base args ds gs before hval0 hW hcnd _
  have hval : ∀ (j : Nat) t v, Try.f5.params[j]? = some t → args[j]? = some v → Value.okWide Try.prog W .any base t v := hval0
  have hW' := hW
  obtain ⟨p, q, hA0, hV, rfl, hfz, hnd⟩ := hW
  have hA : DataW.TrodAll enc Try.prog W 0 (fun _ => true) true Try.f5.params.toList args.toList ds p := hA0
  rw [Try.params5] at hA hval
  obtain ⟨v0, vs0, d0, ds0, p0, q0, hargs, rfl, rfl, h0, r0⟩ := trodAll_cons hA
  obtain ⟨v1, vs1, d1, ds1, p1, q1, rfl, rfl, rfl, h1, r1⟩ := trodAll_cons r0
  obtain ⟨v2, vs2, d2, ds2, p2, q2, rfl, rfl, rfl, h2, r2⟩ := trodAll_cons r1
  obtain ⟨rfl, rfl, rfl⟩ := trodAll_nil r2
  obtain rfl : args = #[v0, v1, v2] := by cases args; simp_all
  obtain ⟨rfl, rfl⟩ := trodVars_none hV
  have k0 := h0
  have lt0 : ∀ x ∈ p0, x.block < W.heap.size := by obtain ⟨m, hm⟩ := k0; exact DataW.trod_lt m _ _ _ hm
  have k1 := h1
  have lt1 : ∀ x ∈ p1, x.block < W.heap.size := by obtain ⟨m, hm⟩ := k1; exact DataW.trod_lt m _ _ _ hm
  have k2 := h2
  have lt2 : ∀ x ∈ p2, x.block < W.heap.size := by obtain ⟨m, hm⟩ := k2; exact DataW.trod_lt m _ _ _ hm
  obtain ⟨A0, n0, c0, l0, rfl, b0, nc0⟩ := open_byt (hval 0 22 v0 rfl rfl) h0
  obtain ⟨A1, n1, c1, l1, rfl, b1, nc1⟩ := open_byt (hval 1 22 v1 rfl rfl) h1
  obtain ⟨A2, n2, c2, l2, rfl, b2, nc2⟩ := open_byt (hval 2 22 v2 rfl rfl) h2
  clear hA0 hval0
  refine (walk A0 n0 c0 l0 A1 n1 c1 l1 A2 n2 c2 l2 W b0 nc0 b1 nc1 b2 nc2).mono fun e W' ⟨he, bel⟩ => ?_
  subst he
  exact ⟨_, rfl, _, _, _, [], _, [], hW', trodAll_mk1 (shut_bool Try.underlying4 _), (trodAll_cons_mk (Below.trod laidOut (by kernel_rfl) (of_decide_eq_true (by kernel_rfl)) k0 bel lt0) (trodAll_cons_mk (Below.trod laidOut (by kernel_rfl) (of_decide_eq_true (by kernel_rfl)) k1 bel lt1) (trodAll_cons_mk (Below.trod laidOut (by kernel_rfl) (of_decide_eq_true (by kernel_rfl)) k2 bel lt2) trodAll_mk0))), rfl, bel.frame _, fun h => by cases h⟩

theorem proved : Rows.SencOrderSaid :=
  OpenClaim.holds_of_wide 5 Try.f5 rfl rfl rfl rfl rfl rfl rfl ⟨rfl, rfl, rfl, rfl, rfl⟩ rfl rfl rfl rfl rfl (by kernel_rfl) Try.func5 (by kernel_rfl)
    (of_decide_eq_true (by kernel_rfl)) (by unfold Func.isWrapper; first | (rw [if_pos (by decide +kernel)]; kernel_rfl) | (rw [if_neg (by decide +kernel)]; exact ⟨rfl, rfl⟩))
    (fun os started H enc _ => lifted os started H enc)
#print axioms proved
end Go.Proofs.Ytggnfigkihkabaa.sencOrder
