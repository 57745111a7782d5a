/-
  The walks of the law TupleOrder: where the bytes are a tuple's, and where they are none's.
-/
import Derived.Test.YtdpddkpfllioiaaDoorTupleSame
import Derived.Deep.RegionHeld3
namespace Go.Proofs.YtdpddkpfllioiaaDoor.tupleOrder
open Go.RowKit

theorem gets_VB {fs : List Fd} {b : List UInt8} (h : getsE fs b = 0) : ∀ v ∈ getsV fs b, VB v := by
  obtain ⟨g1, g2, vs, ht, hv⟩ := getsE_zero h
  rw [hv]
  clear hv h g1 g2
  generalize ([] : List UInt8) = r at ht
  induction fs generalizing b vs with
  | nil =>
    simp only [takes, Tk.ok.injEq] at ht
    obtain ⟨rfl, _⟩ := ht
    simp
  | cons f fs ih =>
    simp only [takes] at ht
    by_cases he : errF f b = 0
    · rw [if_pos he] at ht
      rcases hq : takes fs (restF f b) with ⟨ws, r'⟩ | e
      · rw [hq] at ht
        simp only [Tk.ahead, Tk.ok.injEq] at ht
        obtain ⟨rfl, rfl⟩ := ht
        intro v hv
        simp only [List.cons_append, List.nil_append, List.mem_cons] at hv
        rcases hv with rfl | hv
        · exact takeF_bounds he
        · exact ih ws hq v hv
      · rw [hq] at ht; simp [Tk.ahead] at ht
    · rw [if_neg he] at ht; cases ht
set_option maxRecDepth 100000 in
set_option maxHeartbeats 16000000 in
theorem walk_yes (A : Option Addr) (n c : Nat) (fs : List Fd) (A1 : Option Addr) (n1 c1 : Nat) (a : List Vl) (A2 : Option Addr) (n2 c2 : Nat) (b : List Vl) (Ab : Option Addr) (m cb : Nat) (raw : List UInt8) (w : World) (hT : Tabs w) (ha : Fds w w.heap.size A n fs) (_ : n ≤ c) (h1 : Vls w w.heap.size A1 n1 a ∧ n1 ≤ c1 ∧ ∀ v ∈ a, VB v) (h2 : Vls w w.heap.size A2 n2 b ∧ n2 ≤ c2 ∧ ∀ v ∈ b, VB v) (hb : Byt w w.heap.size Ab m raw) (hbc : m ≤ cb) (hg : getsE fs raw = 0) :
    Calls Tryd.prog 6 #[.slice A n c, .agg #[.slice A1 n1 c1, .slice A2 n2 c2], .slice Ab m cb] w fun e w' => e = .returned (.bool true) ∧ Below w.heap.size w w' := by
  have hm : n ≤ 9223372036854775807 := by have := ha.2.1; unfold maxLen at this; omega
  have hmr : m ≤ 9223372036854775807 := by have := hb.2.1; unfold maxLen at this; omega
  obtain ⟨h1, nc1, vb1⟩ := h1
  obtain ⟨h2, nc2, vb2⟩ := h2
  have HN1 := Lib.hid h1.length
  have HN2 := Lib.hid h2.length
  have HVB := Lib.hid (And.intro vb1 vb2)
  have HG := Lib.hid hg
  generalize hW : w.alloc (.cells #[.slice A1 n1 c1, .slice A2 n2 c2] 60) = W
  have B0 := Lib.hid (Below.refl W.heap.size W)
  have HA := Lib.hid (show ∀ V, Below W.heap.size W V → Two V w.heap.size (.slice A1 n1 c1) (.slice A2 n2 c2) ∧ Fds V w.heap.size A n fs ∧ Vls V w.heap.size A1 n1 a ∧ Vls V w.heap.size A2 n2 b ∧ Byt V w.heap.size Ab m raw ∧ Tabs V ∧ Below w.heap.size w V from fun V h => by
    have hw : Below w.heap.size w W := by subst hW; exact (Below.refl _ _).alloc (Nat.le_refl _) _
    have hv : Below w.heap.size w V := hw.trans (h.mono hw.size)
    have ht : Two W w.heap.size (.slice A1 n1 c1) (.slice A2 n2 c2) := by subst hW; exact Two.new _ _ _ _
    exact ⟨ht.below h ht.lt, ha.below hv, h1.below hv, h2.below hv, hb.below hv, hT.below hv, hv⟩)
  have hle : w.heap.size ≤ W.heap.size := (HA.out _ B0.out).2.2.2.2.2.2.size
  clear ha h1 h2 hb hT vb1 vb2 hg
  have x0 := (HA.out _ B0.out).1.k0
  have x1 := (HA.out _ B0.out).1.k1
  generalize hU : W.alloc (.cells #[.slice A1 n1 c1, .slice A2 n2 c2] 23) = U
  have BU := Lib.hid (show Below W.heap.size W U from by subst hU; exact (Below.refl _ _).alloc (Nat.le_refl _) _)
  have HVV := Lib.hid (show VVs U U.heap.size (some ⟨W.heap.size, 0, none⟩) 2 [⟨A1, n1, c1, a⟩, ⟨A2, n2, c2, b⟩] from by
    have hbl : Blk U W.heap.size #[.slice A1 n1 c1, .slice A2 n2 c2] := by subst hU; exact Blk.new _ _ _
    have hsz := (HA.out _ BU.out).2.2.2.2.2.2.size
    refine ⟨⟨rfl, by unfold maxLen; omega, by simp, fun _ => ⟨_, rfl, hbl.lt, fun j i cc u hj hi => ?_⟩⟩, fun t ht => ?_⟩
    · match j, hj with
      | 0, hj =>
        simp at hj
        subst hj
        match i, hi with
        | 0, hi => simp at hi; subst hi; exact hbl.cell 0
      | 1, hj =>
        simp at hj
        subst hj
        match i, hi with
        | 0, hi => simp at hi; subst hi; exact hbl.cell 1
    · simp at ht
      rcases ht with rfl | rfl
      · exact ⟨(HA.out _ BU.out).2.2.1.more hsz, nc1⟩
      · exact ⟨(HA.out _ BU.out).2.2.2.1.more hsz, nc2⟩)
  go_enter Tryd.func6, Tryd.ntmps6
  go_wp2_with fail
  clear hW hU x0 x1
  (with_reducible refine (far_any A (some ⟨W.heap.size, 0, none⟩) n c 2 2 U.heap.size _ U hm HVV.out (Nat.le_refl _) (by omega)).mono ?_)
  rintro e w1 ⟨bo, rfl, hsm, hq⟩
  have B1 := Lib.hid (BU.out.trans (hq.mono BU.out.size))
  clear hq HVV
  cases bo with
  | true =>
    clear hsm
    go_wp2_with fail
    (with_reducible refine (alive_any _ (HA.out _ B1.out).2.2.2.2.2.1).mono ?_)
    rintro e wz ⟨rfl, hz⟩
    have BZ := Lib.hid ((HA.out _ B1.out).2.2.2.2.2.2.trans (hz.mono (HA.out _ B1.out).2.2.2.2.2.2.size))
    clear hz
    go_wp2
    go_ret
    exact ⟨rfl, BZ.out⟩
  | false =>
    obtain ⟨hn20, hsm⟩ := hsm rfl
    have HS1 := Lib.hid (show Sm a from hsm ⟨A1, n1, c1, a⟩ (by simp))
    have HS2 := Lib.hid (show Sm b from hsm ⟨A2, n2, c2, b⟩ (by simp))
    have hn1 : n1 ≤ 20 := by have := HS1.out.1; rw [HN1.out] at this; exact this
    have hn2 : n2 ≤ 20 := by have := HS2.out.1; rw [HN2.out] at this; exact this
    clear hsm
    by_cases hr : 500 < m
    · go_wp2_with fail
      (with_reducible refine (alive_any _ (HA.out _ B1.out).2.2.2.2.2.1).mono ?_)
      rintro e wz ⟨rfl, hz⟩
      have BZ := Lib.hid ((HA.out _ B1.out).2.2.2.2.2.2.trans (hz.mono (HA.out _ B1.out).2.2.2.2.2.2.size))
      clear hz
      go_wp2
      go_ret
      exact ⟨rfl, BZ.out⟩
    · have HL1 := Lib.hid (show ∀ v ∈ a, VB v ∧ v.l.length ≤ 1000000 from fun v hv => ⟨HVB.out.1 v hv, by have := HS1.out.2 v hv; omega⟩)
      have HL2 := Lib.hid (show ∀ v ∈ b, VB v ∧ v.l.length ≤ 1000000 from fun v hv => ⟨HVB.out.2 v hv, by have := HS2.out.2 v hv; omega⟩)
      go_wp2_with fail
      (with_reducible refine (fields_any A n c w.heap.size fs _ (HA.out _ B1.out).2.1 (HA.out _ B1.out).2.2.2.2.2.2.size (by omega)).mono ?_)
      rintro e w2 ⟨Ak, nk, ck, rfl, fk, nck, hq⟩
      have B2 := Lib.hid (B1.out.trans (hq.mono B1.out.size))
      have K2 := Lib.hid fk
      clear hq fk
      have x0 := (HA.out _ B2.out).1.k0
      have x1 := (HA.out _ B2.out).1.k1
      have hlw : w.heap.size < w2.heap.size := (HA.out _ B2.out).1.lt
      have HLW := Lib.hid hlw
      clear hlw
      have hd2 : Below w2.heap.size w2 w2.drew := (Below.refl _ _).drew
      have HC1 := Lib.hid (fun V (h : Below W.heap.size W V) => values_any A1 n1 c1 w.heap.size a V (HA.out _ h).2.2.1 (HA.out _ h).2.2.2.2.2.2.size (by omega))
      have HC2 := Lib.hid (fun V (h : Below W.heap.size W V) => values_any A2 n2 c2 w.heap.size b V (HA.out _ h).2.2.2.1 (HA.out _ h).2.2.2.2.2.2.size (by omega))
      go_wp2_with fail
      go_region_held3 (fun w' => w'.cell? ⟨w.heap.size, 0, none⟩ = some (.slice A1 n1 c1) ∧ w'.cell? ⟨w.heap.size, 1, none⟩ = some (.slice A2 n2 c2))
        (first | go_keep | exact ⟨(HA.out _ (B2.out.trans (g3.mono B2.out.size))).1.k0, (HA.out _ (B2.out.trans (g3.mono B2.out.size))).1.k1⟩ | exact ⟨(HA.out _ (B2.out.trans (g2.mono B2.out.size))).1.k0, (HA.out _ (B2.out.trans (g2.mono B2.out.size))).1.k1⟩ | exact ⟨(HA.out _ (B2.out.trans (g1.mono B2.out.size))).1.k0, (HA.out _ (B2.out.trans (g1.mono B2.out.size))).1.k1⟩)
        (first
          | (go_at_call 11; (with_reducible refine (HC1.out _ (B2.out.trans (hd2.mono B2.out.size))).mono ?_); rintro e y1 ⟨Av, nv, cv, rfl, v1, ncv, q1⟩; have g1 : Below w2.heap.size w2 y1 := hd2.trans q1)
          | (go_at_call 11; (with_reducible refine (HC2.out _ (B2.out.trans (g1.mono B2.out.size))).mono ?_); rintro e y2 ⟨Aw, nw, cw, rfl, v2, ncw, q2⟩; have g2 : Below w2.heap.size w2 y2 := g1.trans (q2.mono g1.size))
          | (go_at_call 25; (with_reducible refine (tcmp_any Ak Av Aw nk ck nv cv nw cw y2.heap.size fs a b y2 ((K2.out.below g2).more g2.size) ((v1.below q2).more q2.size) v2 (Nat.le_refl _)).mono ?_); rintro e y3 ⟨rfl, q3⟩; have g3 : Below w2.heap.size w2 y3 := g2.trans (q3.mono g2.size)))
      have B3 := Lib.hid (B2.out.trans (g3.mono B2.out.size))
      have K3 := Lib.hid ((K2.out.below g3).more g3.size)
      clear g1 g2 g3 q1 q2 q3 v1 v2 x0 x1 hd2
      have x0 := (HA.out _ B3.out).1.k0
      have x1 := (HA.out _ B3.out).1.k1
      have HO := Lib.hid (rtcmp_any A A1 A2 n c n1 c1 n2 c2 w.heap.size fs a b y3 (HA.out _ B3.out).2.1 (HA.out _ B3.out).2.2.1 (HA.out _ B3.out).2.2.2.1 (HA.out _ B3.out).2.2.2.2.2.2.size)
      generalize hC : cmpT fs a b = C at HO
      have HCC := Lib.hid hC
      try rw [hC]
      clear hC
      go_wp2_with fail
      (with_reducible refine HO.out.mono ?_)
      rintro e y4 ⟨rfl, hq⟩
      have B4 := Lib.hid (B3.out.trans (hq.mono B3.out.size))
      have K4 := Lib.hid ((K3.out.below hq).more hq.size)
      clear hq x0 x1
      have HGT := Lib.hid (tget_any Ak Ab nk ck m cb y4.heap.size fs raw y4 (HA.out _ B4.out).2.2.2.2.2.1.tab K4.out ((HA.out _ B4.out).2.2.2.2.1.more (Nat.le_trans (HA.out _ B4.out).2.2.2.2.2.2.size (Nat.le_refl _))) hbc (Nat.le_refl _))
      rw [HG.out] at HGT
      have HGP := Lib.hid (get_put HG.out)
      have HRL := Lib.hid (show raw.length = m from (HA.out _ B4.out).2.2.2.2.1.1)
      go_wp2_with fail
      (with_reducible refine HGT.out.mono ?_)
      rintro e y5 ⟨At, nt, ct, rfl, vt, nct, hq⟩
      have B5 := Lib.hid (B4.out.trans (hq.mono B4.out.size))
      have K5 := Lib.hid ((K4.out.below hq).more hq.size)
      have V5 := Lib.hid vt
      clear hq vt
      have HPT := Lib.hid (show Calls Tryd.prog 9 #[.slice Ak nk ck, .slice At nt ct] y5 (TPost y5 raw 0) from by
        have q := tput_any Ak At nk ck nt ct y5.heap.size fs (getsV fs raw) y5 (HA.out _ B5.out).2.2.2.2.2.1.tab K5.out V5.out (Nat.le_refl _) (fun v hv => ⟨gets_VB HG.out v hv, by have := HGP.out.2.2 v hv; have := HRL.out; omega⟩)
        rw [HGP.out.1, HGP.out.2.1] at q
        exact q)
      go_wp2_with fail
      (with_reducible refine HPT.out.mono ?_)
      rintro e y6 ⟨Ap, np, cp, rfl, yp, ncp, hq⟩
      have B6 := Lib.hid (B5.out.trans (hq.mono B5.out.size))
      have K6 := Lib.hid ((K5.out.below hq).more hq.size)
      have Y6 := Lib.hid yp
      clear hq yp
      go_wp2_with fail
      (with_reducible refine (rsame_self Ap Ab np m cp cb y6.heap.size raw y6 Y6.out ((HA.out _ B6.out).2.2.2.2.1.more (HA.out _ B6.out).2.2.2.2.2.2.size)).mono ?_)
      rintro e z0 ⟨rfl, hq⟩
      have D0 := Lib.hid (B6.out.trans (hq.below _))
      have L0 := Lib.hid ((K6.out.below (hq.below _)).more (hq.below y6.heap.size).size)
      clear hq
      have x0 := (HA.out _ D0.out).1.k0
      have x1 := (HA.out _ D0.out).1.k1
      go_wp2_with fail
      clear x0 x1
      (with_reducible refine (HC1.out _ D0.out).mono ?_)
      rintro e z1 ⟨Av1, nv1, cv1, rfl, vv1, ncv1, hq⟩
      have D1 := Lib.hid (D0.out.trans (hq.mono D0.out.size))
      have L1 := Lib.hid ((L0.out.below hq).more hq.size)
      have W1 := Lib.hid vv1
      clear hq vv1
      have HP1 := Lib.hid (tput_any Ak Av1 nk ck nv1 cv1 z1.heap.size fs a z1 (HA.out _ D1.out).2.2.2.2.2.1.tab L1.out W1.out (Nat.le_refl _) HL1.out)
      generalize hEa : putsE fs a = Ea at HP1
      have HEa := Lib.hid hEa
      clear hEa
      go_wp2_with fail
      (with_reducible refine HP1.out.mono ?_)
      rintro e z2 ⟨Aa, na, ca, rfl, ya, nca, hq⟩
      have D2 := Lib.hid (D1.out.trans (hq.mono D1.out.size))
      have L2 := Lib.hid ((L1.out.below hq).more hq.size)
      have Ya2 := Lib.hid ya
      clear hq ya
      have x0 := (HA.out _ D2.out).1.k0
      have x1 := (HA.out _ D2.out).1.k1
      go_wp2_with fail
      clear x0 x1
      (with_reducible refine (HC2.out _ D2.out).mono ?_)
      rintro e z3 ⟨Av2, nv2, cv2, rfl, vv2, ncv2, hq⟩
      have D3 := Lib.hid (D2.out.trans (hq.mono D2.out.size))
      have L3 := Lib.hid ((L2.out.below hq).more hq.size)
      have Ya3 := Lib.hid ((Ya2.out.below hq).more hq.size)
      have W2 := Lib.hid vv2
      clear hq vv2
      have HP2 := Lib.hid (tput_any Ak Av2 nk ck nv2 cv2 z3.heap.size fs b z3 (HA.out _ D3.out).2.2.2.2.2.1.tab L3.out W2.out (Nat.le_refl _) HL2.out)
      generalize hEb : putsE fs b = Eb at HP2
      have HEb := Lib.hid hEb
      clear hEb
      go_wp2_with fail
      (with_reducible refine HP2.out.mono ?_)
      rintro e z4 ⟨Abb, nb, cbb, rfl, yb, ncb, hq⟩
      have D4 := Lib.hid (D3.out.trans (hq.mono D3.out.size))
      have L4 := Lib.hid ((L3.out.below hq).more hq.size)
      have Ya4 := Lib.hid ((Ya3.out.below hq).more hq.size)
      have Yb4 := Lib.hid yb
      clear hq yb
      by_cases hea : Ea = 0
      · subst hea
        by_cases heb : Eb = 0
        · subst heb
          have HPZ := Lib.hid (And.intro (putsE_zero HEa.out) (putsE_zero HEb.out))
          have HPG := Lib.hid (put_get HEa.out)
          have hna : na ≤ 65535 := by have q := Ya4.out.1; rw [HPZ.out.1.2.2.2.2] at q; have := HPZ.out.1.2.2.2.1; omega
          go_wp2_with fail
          have HQ1 := Lib.hid (show Calls Tryd.prog 18 #[.slice Ak nk ck, .slice Aa na ca] z4 (VEPost z4 (getsV fs (putsL fs a)) 0) from by
            have q := tget_any Ak Aa nk ck na ca z4.heap.size fs (putsL fs a) z4 (HA.out _ D4.out).2.2.2.2.2.1.tab L4.out Ya4.out nca (Nat.le_refl _)
            rw [HPG.out.1] at q
            exact q)
          (with_reducible refine HQ1.out.mono ?_)
          rintro e z5 ⟨Ag, ng, cg, rfl, vg, ncg, hq⟩
          have D5 := Lib.hid (D4.out.trans (hq.mono D4.out.size))
          have L5 := Lib.hid ((L4.out.below hq).more hq.size)
          have Ya5 := Lib.hid ((Ya4.out.below hq).more hq.size)
          have Yb5 := Lib.hid ((Yb4.out.below hq).more hq.size)
          have G5 := Lib.hid vg
          clear hq vg
          go_wp2_with fail
          have HQ2 := Lib.hid (show Calls Tryd.prog 9 #[.slice Ak nk ck, .slice Ag ng cg] z5 (TPost z5 (putsL fs a) 0) from by
            have q := tput_any Ak Ag nk ck ng cg z5.heap.size fs (getsV fs (putsL fs a)) z5 (HA.out _ D5.out).2.2.2.2.2.1.tab L5.out G5.out (Nat.le_refl _) (fun v hv => ⟨gets_VB HPG.out.1 v hv, by have := (get_put HPG.out.1).2.2 v hv; have := Ya5.out.1; omega⟩)
            rw [HPG.out.2.2.1, HPG.out.2.2.2] at q
            exact q)
          (with_reducible refine HQ2.out.mono ?_)
          rintro e z6 ⟨Ad, nd, cd, rfl, yd, ncd, hq⟩
          have D6 := Lib.hid (D5.out.trans (hq.mono D5.out.size))
          have L6 := Lib.hid ((L5.out.below hq).more hq.size)
          have Ya6 := Lib.hid ((Ya5.out.below hq).more hq.size)
          have Yb6 := Lib.hid ((Yb5.out.below hq).more hq.size)
          have G6 := Lib.hid ((G5.out.below hq).more hq.size)
          have Yd6 := Lib.hid yd
          clear hq yd
          by_cases hc0 : C = 0
          · subst hc0
            go_wp2_with fail
            have HQ3 := Lib.hid (show Calls Tryd.prog 28 #[.slice Aa na ca, .slice Abb nb cbb] z6 (fun e w' => e = .returned (.int .i64 0) ∧ Still z6 w') from by
              have q := rcmp_any Aa Abb na nb ca cbb z6.heap.size (putsL fs a) (putsL fs b) z6 Ya6.out Yb6.out
              rw [HPZ.out.1.2.2.2.2, HPZ.out.2.2.2.2.2, (cat_order fs a b HPZ.out.1.2.2.1 HPZ.out.2.2.2.1 HPZ.out.1.2.1 HPZ.out.2.2.1).1, HCC.out] at q
              exact q)
            (with_reducible refine HQ3.out.mono ?_)
            rintro e u1 ⟨rfl, hq⟩
            have E1 := Lib.hid (D6.out.trans (hq.below _))
            have M1 := Lib.hid ((L6.out.below (hq.below _)).more (hq.below z6.heap.size).size)
            have Ya7 := Lib.hid ((Ya6.out.below (hq.below _)).more (hq.below z6.heap.size).size)
            have G7 := Lib.hid ((G6.out.below (hq.below _)).more (hq.below z6.heap.size).size)
            have Yd7 := Lib.hid ((Yd6.out.below (hq.below _)).more (hq.below z6.heap.size).size)
            clear hq
            have x0 := (HA.out _ E1.out).1.k0
            have x1 := (HA.out _ E1.out).1.k1
            go_wp2_with fail
            clear x0 x1
            (with_reducible refine (HC1.out _ E1.out).mono ?_)
            rintro e u2 ⟨Av3, nv3, cv3, rfl, vv3, ncv3, hq⟩
            have E2 := Lib.hid (E1.out.trans (hq.mono E1.out.size))
            have M2 := Lib.hid ((M1.out.below hq).more hq.size)
            have Ya8 := Lib.hid ((Ya7.out.below hq).more hq.size)
            have G8 := Lib.hid ((G7.out.below hq).more hq.size)
            have Yd8 := Lib.hid ((Yd7.out.below hq).more hq.size)
            have W3 := Lib.hid vv3
            clear hq vv3
            go_wp2_with fail
            have HQ4 := Lib.hid (show Calls Tryd.prog 25 #[.slice Ak nk ck, .slice Ag ng cg, .slice Av3 nv3 cv3] u2 (fun e w' => e = .returned (.int .i64 0) ∧ Below u2.heap.size u2 w') from by
              have q := tcmp_any Ak Ag Av3 nk ck ng cg nv3 cv3 u2.heap.size fs _ a u2 M2.out G8.out W3.out (Nat.le_refl _)
              rw [HPG.out.2.1] at q
              exact q)
            (with_reducible refine HQ4.out.mono ?_)
            rintro e u3 ⟨rfl, hq⟩
            have E3 := Lib.hid (E2.out.trans (hq.mono E2.out.size))
            have Ya9 := Lib.hid ((Ya8.out.below hq).more hq.size)
            have Yd9 := Lib.hid ((Yd8.out.below hq).more hq.size)
            clear hq
            go_wp2_with fail
            (with_reducible refine (rsame_self Ad Aa nd na cd ca u3.heap.size (putsL fs a) u3 Yd9.out Ya9.out).mono ?_)
            rintro e u4 ⟨rfl, hq⟩
            have E4 := Lib.hid (E3.out.trans (hq.below _))
            clear hq
            go_wp2_with fail
            (with_reducible refine (alive_any _ (HA.out _ E4.out).2.2.2.2.2.1).mono ?_)
            rintro e wz ⟨rfl, hz⟩
            have BZ := Lib.hid ((HA.out _ E4.out).2.2.2.2.2.2.trans (hz.mono (HA.out _ E4.out).2.2.2.2.2.2.size))
            clear hz
            go_wp2
            go_ret
            exact ⟨rfl, BZ.out⟩
          · have HBG := Lib.hid (show begB (putsL fs a) (putsL fs b) = false ∧ begB (putsL fs b) (putsL fs a) = false from by
              have q := cat_begins HPZ.out.1.2.2.1 HPZ.out.2.2.2.1 HPZ.out.1.2.1 HPZ.out.2.2.1 (by rw [HCC.out]; exact hc0)
              rw [HPZ.out.1.2.2.2.2, HPZ.out.2.2.2.2.2]
              exact q)
            go_wp2_with fail
            have HQ5 := Lib.hid (show Calls Tryd.prog 27 #[.slice Aa na ca, .slice Abb nb cbb] z6 (fun e w' => e = .returned (.bool false) ∧ Still z6 w') from by
              have q := rbegins_any Aa Abb na nb ca cbb z6.heap.size (putsL fs a) (putsL fs b) z6 Ya6.out Yb6.out
              rw [HBG.out.1] at q
              exact q)
            (with_reducible refine HQ5.out.mono ?_)
            rintro e t1 ⟨rfl, hq⟩
            have I1 := Lib.hid (D6.out.trans (hq.below _))
            have L7 := Lib.hid ((L6.out.below (hq.below _)).more (hq.below z6.heap.size).size)
            have Ya61 := Lib.hid ((Ya6.out.below (hq.below _)).more (hq.below z6.heap.size).size)
            have Yb61 := Lib.hid ((Yb6.out.below (hq.below _)).more (hq.below z6.heap.size).size)
            have G61 := Lib.hid ((G6.out.below (hq.below _)).more (hq.below z6.heap.size).size)
            have Yd61 := Lib.hid ((Yd6.out.below (hq.below _)).more (hq.below z6.heap.size).size)
            clear hq
            go_wp2_with fail
            have HQ6 := Lib.hid (show Calls Tryd.prog 27 #[.slice Abb nb cbb, .slice Aa na ca] t1 (fun e w' => e = .returned (.bool false) ∧ Still t1 w') from by
              have q := rbegins_any Abb Aa nb na cbb ca t1.heap.size (putsL fs b) (putsL fs a) t1 Yb61.out Ya61.out
              rw [HBG.out.2] at q
              exact q)
            (with_reducible refine HQ6.out.mono ?_)
            rintro e t2 ⟨rfl, hq⟩
            have I2 := Lib.hid (I1.out.trans (hq.below _))
            have L8 := Lib.hid ((L7.out.below (hq.below _)).more (hq.below t1.heap.size).size)
            have Ya62 := Lib.hid ((Ya61.out.below (hq.below _)).more (hq.below t1.heap.size).size)
            have Yb62 := Lib.hid ((Yb61.out.below (hq.below _)).more (hq.below t1.heap.size).size)
            have G62 := Lib.hid ((G61.out.below (hq.below _)).more (hq.below t1.heap.size).size)
            have Yd62 := Lib.hid ((Yd61.out.below (hq.below _)).more (hq.below t1.heap.size).size)
            clear hq
            go_wp2_with fail
            have HQ3 := Lib.hid (show Calls Tryd.prog 28 #[.slice Aa na ca, .slice Abb nb cbb] t2 (fun e w' => e = .returned (.int .i64 C) ∧ Still t2 w') from by
              have q := rcmp_any Aa Abb na nb ca cbb t2.heap.size (putsL fs a) (putsL fs b) t2 Ya62.out Yb62.out
              rw [HPZ.out.1.2.2.2.2, HPZ.out.2.2.2.2.2, (cat_order fs a b HPZ.out.1.2.2.1 HPZ.out.2.2.2.1 HPZ.out.1.2.1 HPZ.out.2.2.1).1, HCC.out] at q
              exact q)
            (with_reducible refine HQ3.out.mono ?_)
            rintro e u1 ⟨rfl, hq⟩
            have E1 := Lib.hid (I2.out.trans (hq.below _))
            have M1 := Lib.hid ((L8.out.below (hq.below _)).more (hq.below t2.heap.size).size)
            have Ya7 := Lib.hid ((Ya62.out.below (hq.below _)).more (hq.below t2.heap.size).size)
            have G7 := Lib.hid ((G62.out.below (hq.below _)).more (hq.below t2.heap.size).size)
            have Yd7 := Lib.hid ((Yd62.out.below (hq.below _)).more (hq.below t2.heap.size).size)
            clear hq
            have x0 := (HA.out _ E1.out).1.k0
            have x1 := (HA.out _ E1.out).1.k1
            go_wp2_with fail
            clear x0 x1
            (with_reducible refine (HC1.out _ E1.out).mono ?_)
            rintro e u2 ⟨Av3, nv3, cv3, rfl, vv3, ncv3, hq⟩
            have E2 := Lib.hid (E1.out.trans (hq.mono E1.out.size))
            have M2 := Lib.hid ((M1.out.below hq).more hq.size)
            have Ya8 := Lib.hid ((Ya7.out.below hq).more hq.size)
            have G8 := Lib.hid ((G7.out.below hq).more hq.size)
            have Yd8 := Lib.hid ((Yd7.out.below hq).more hq.size)
            have W3 := Lib.hid vv3
            clear hq vv3
            go_wp2_with fail
            have HQ4 := Lib.hid (show Calls Tryd.prog 25 #[.slice Ak nk ck, .slice Ag ng cg, .slice Av3 nv3 cv3] u2 (fun e w' => e = .returned (.int .i64 0) ∧ Below u2.heap.size u2 w') from by
              have q := tcmp_any Ak Ag Av3 nk ck ng cg nv3 cv3 u2.heap.size fs _ a u2 M2.out G8.out W3.out (Nat.le_refl _)
              rw [HPG.out.2.1] at q
              exact q)
            (with_reducible refine HQ4.out.mono ?_)
            rintro e u3 ⟨rfl, hq⟩
            have E3 := Lib.hid (E2.out.trans (hq.mono E2.out.size))
            have Ya9 := Lib.hid ((Ya8.out.below hq).more hq.size)
            have Yd9 := Lib.hid ((Yd8.out.below hq).more hq.size)
            clear hq
            go_wp2_with fail
            (with_reducible refine (rsame_self Ad Aa nd na cd ca u3.heap.size (putsL fs a) u3 Yd9.out Ya9.out).mono ?_)
            rintro e u4 ⟨rfl, hq⟩
            have E4 := Lib.hid (E3.out.trans (hq.below _))
            clear hq
            go_wp2_with fail
            (with_reducible refine (alive_any _ (HA.out _ E4.out).2.2.2.2.2.1).mono ?_)
            rintro e wz ⟨rfl, hz⟩
            have BZ := Lib.hid ((HA.out _ E4.out).2.2.2.2.2.2.trans (hz.mono (HA.out _ E4.out).2.2.2.2.2.2.size))
            clear hz
            go_wp2
            go_ret
            exact ⟨rfl, BZ.out⟩
        · go_wp2_with fail
          (with_reducible refine (alive_any _ (HA.out _ D4.out).2.2.2.2.2.1).mono ?_)
          rintro e wz ⟨rfl, hz⟩
          have BZ := Lib.hid ((HA.out _ D4.out).2.2.2.2.2.2.trans (hz.mono (HA.out _ D4.out).2.2.2.2.2.2.size))
          clear hz
          go_wp2
          go_ret
          exact ⟨rfl, BZ.out⟩
      · go_wp2_with fail
        (with_reducible refine (alive_any _ (HA.out _ D4.out).2.2.2.2.2.1).mono ?_)
        rintro e wz ⟨rfl, hz⟩
        have BZ := Lib.hid ((HA.out _ D4.out).2.2.2.2.2.2.trans (hz.mono (HA.out _ D4.out).2.2.2.2.2.2.size))
        clear hz
        go_wp2
        go_ret
        exact ⟨rfl, BZ.out⟩
set_option maxRecDepth 100000 in
set_option maxHeartbeats 16000000 in
theorem walk_no (A : Option Addr) (n c : Nat) (fs : List Fd) (A1 : Option Addr) (n1 c1 : Nat) (a : List Vl) (A2 : Option Addr) (n2 c2 : Nat) (b : List Vl) (Ab : Option Addr) (m cb : Nat) (raw : List UInt8) (w : World) (hT : Tabs w) (ha : Fds w w.heap.size A n fs) (_ : n ≤ c) (h1 : Vls w w.heap.size A1 n1 a ∧ n1 ≤ c1 ∧ ∀ v ∈ a, VB v) (h2 : Vls w w.heap.size A2 n2 b ∧ n2 ≤ c2 ∧ ∀ v ∈ b, VB v) (hb : Byt w w.heap.size Ab m raw) (hbc : m ≤ cb) (hg : getsE fs raw ≠ 0) :
    Calls Tryd.prog 6 #[.slice A n c, .agg #[.slice A1 n1 c1, .slice A2 n2 c2], .slice Ab m cb] w fun e w' => e = .returned (.bool true) ∧ Below w.heap.size w w' := by
  have hm : n ≤ 9223372036854775807 := by have := ha.2.1; unfold maxLen at this; omega
  have hmr : m ≤ 9223372036854775807 := by have := hb.2.1; unfold maxLen at this; omega
  obtain ⟨h1, nc1, vb1⟩ := h1
  obtain ⟨h2, nc2, vb2⟩ := h2
  have HN1 := Lib.hid h1.length
  have HN2 := Lib.hid h2.length
  have HVB := Lib.hid (And.intro vb1 vb2)
  have HG := Lib.hid hg
  generalize hW : w.alloc (.cells #[.slice A1 n1 c1, .slice A2 n2 c2] 60) = W
  have B0 := Lib.hid (Below.refl W.heap.size W)
  have HA := Lib.hid (show ∀ V, Below W.heap.size W V → Two V w.heap.size (.slice A1 n1 c1) (.slice A2 n2 c2) ∧ Fds V w.heap.size A n fs ∧ Vls V w.heap.size A1 n1 a ∧ Vls V w.heap.size A2 n2 b ∧ Byt V w.heap.size Ab m raw ∧ Tabs V ∧ Below w.heap.size w V from fun V h => by
    have hw : Below w.heap.size w W := by subst hW; exact (Below.refl _ _).alloc (Nat.le_refl _) _
    have hv : Below w.heap.size w V := hw.trans (h.mono hw.size)
    have ht : Two W w.heap.size (.slice A1 n1 c1) (.slice A2 n2 c2) := by subst hW; exact Two.new _ _ _ _
    exact ⟨ht.below h ht.lt, ha.below hv, h1.below hv, h2.below hv, hb.below hv, hT.below hv, hv⟩)
  have hle : w.heap.size ≤ W.heap.size := (HA.out _ B0.out).2.2.2.2.2.2.size
  clear ha h1 h2 hb hT vb1 vb2 hg
  have x0 := (HA.out _ B0.out).1.k0
  have x1 := (HA.out _ B0.out).1.k1
  generalize hU : W.alloc (.cells #[.slice A1 n1 c1, .slice A2 n2 c2] 23) = U
  have BU := Lib.hid (show Below W.heap.size W U from by subst hU; exact (Below.refl _ _).alloc (Nat.le_refl _) _)
  have HVV := Lib.hid (show VVs U U.heap.size (some ⟨W.heap.size, 0, none⟩) 2 [⟨A1, n1, c1, a⟩, ⟨A2, n2, c2, b⟩] from by
    have hbl : Blk U W.heap.size #[.slice A1 n1 c1, .slice A2 n2 c2] := by subst hU; exact Blk.new _ _ _
    have hsz := (HA.out _ BU.out).2.2.2.2.2.2.size
    refine ⟨⟨rfl, by unfold maxLen; omega, by simp, fun _ => ⟨_, rfl, hbl.lt, fun j i cc u hj hi => ?_⟩⟩, fun t ht => ?_⟩
    · match j, hj with
      | 0, hj =>
        simp at hj
        subst hj
        match i, hi with
        | 0, hi => simp at hi; subst hi; exact hbl.cell 0
      | 1, hj =>
        simp at hj
        subst hj
        match i, hi with
        | 0, hi => simp at hi; subst hi; exact hbl.cell 1
    · simp at ht
      rcases ht with rfl | rfl
      · exact ⟨(HA.out _ BU.out).2.2.1.more hsz, nc1⟩
      · exact ⟨(HA.out _ BU.out).2.2.2.1.more hsz, nc2⟩)
  go_enter Tryd.func6, Tryd.ntmps6
  go_wp2_with fail
  clear hW hU x0 x1
  (with_reducible refine (far_any A (some ⟨W.heap.size, 0, none⟩) n c 2 2 U.heap.size _ U hm HVV.out (Nat.le_refl _) (by omega)).mono ?_)
  rintro e w1 ⟨bo, rfl, hsm, hq⟩
  have B1 := Lib.hid (BU.out.trans (hq.mono BU.out.size))
  clear hq HVV
  cases bo with
  | true =>
    clear hsm
    go_wp2_with fail
    (with_reducible refine (alive_any _ (HA.out _ B1.out).2.2.2.2.2.1).mono ?_)
    rintro e wz ⟨rfl, hz⟩
    have BZ := Lib.hid ((HA.out _ B1.out).2.2.2.2.2.2.trans (hz.mono (HA.out _ B1.out).2.2.2.2.2.2.size))
    clear hz
    go_wp2
    go_ret
    exact ⟨rfl, BZ.out⟩
  | false =>
    obtain ⟨hn20, hsm⟩ := hsm rfl
    have HS1 := Lib.hid (show Sm a from hsm ⟨A1, n1, c1, a⟩ (by simp))
    have HS2 := Lib.hid (show Sm b from hsm ⟨A2, n2, c2, b⟩ (by simp))
    have hn1 : n1 ≤ 20 := by have := HS1.out.1; rw [HN1.out] at this; exact this
    have hn2 : n2 ≤ 20 := by have := HS2.out.1; rw [HN2.out] at this; exact this
    clear hsm
    by_cases hr : 500 < m
    · go_wp2_with fail
      (with_reducible refine (alive_any _ (HA.out _ B1.out).2.2.2.2.2.1).mono ?_)
      rintro e wz ⟨rfl, hz⟩
      have BZ := Lib.hid ((HA.out _ B1.out).2.2.2.2.2.2.trans (hz.mono (HA.out _ B1.out).2.2.2.2.2.2.size))
      clear hz
      go_wp2
      go_ret
      exact ⟨rfl, BZ.out⟩
    · have HL1 := Lib.hid (show ∀ v ∈ a, VB v ∧ v.l.length ≤ 1000000 from fun v hv => ⟨HVB.out.1 v hv, by have := HS1.out.2 v hv; omega⟩)
      have HL2 := Lib.hid (show ∀ v ∈ b, VB v ∧ v.l.length ≤ 1000000 from fun v hv => ⟨HVB.out.2 v hv, by have := HS2.out.2 v hv; omega⟩)
      go_wp2_with fail
      (with_reducible refine (fields_any A n c w.heap.size fs _ (HA.out _ B1.out).2.1 (HA.out _ B1.out).2.2.2.2.2.2.size (by omega)).mono ?_)
      rintro e w2 ⟨Ak, nk, ck, rfl, fk, nck, hq⟩
      have B2 := Lib.hid (B1.out.trans (hq.mono B1.out.size))
      have K2 := Lib.hid fk
      clear hq fk
      have x0 := (HA.out _ B2.out).1.k0
      have x1 := (HA.out _ B2.out).1.k1
      have hlw : w.heap.size < w2.heap.size := (HA.out _ B2.out).1.lt
      have HLW := Lib.hid hlw
      clear hlw
      have hd2 : Below w2.heap.size w2 w2.drew := (Below.refl _ _).drew
      have HC1 := Lib.hid (fun V (h : Below W.heap.size W V) => values_any A1 n1 c1 w.heap.size a V (HA.out _ h).2.2.1 (HA.out _ h).2.2.2.2.2.2.size (by omega))
      have HC2 := Lib.hid (fun V (h : Below W.heap.size W V) => values_any A2 n2 c2 w.heap.size b V (HA.out _ h).2.2.2.1 (HA.out _ h).2.2.2.2.2.2.size (by omega))
      go_wp2_with fail
      go_region_held3 (fun w' => w'.cell? ⟨w.heap.size, 0, none⟩ = some (.slice A1 n1 c1) ∧ w'.cell? ⟨w.heap.size, 1, none⟩ = some (.slice A2 n2 c2))
        (first | go_keep | exact ⟨(HA.out _ (B2.out.trans (g3.mono B2.out.size))).1.k0, (HA.out _ (B2.out.trans (g3.mono B2.out.size))).1.k1⟩ | exact ⟨(HA.out _ (B2.out.trans (g2.mono B2.out.size))).1.k0, (HA.out _ (B2.out.trans (g2.mono B2.out.size))).1.k1⟩ | exact ⟨(HA.out _ (B2.out.trans (g1.mono B2.out.size))).1.k0, (HA.out _ (B2.out.trans (g1.mono B2.out.size))).1.k1⟩)
        (first
          | (go_at_call 11; (with_reducible refine (HC1.out _ (B2.out.trans (hd2.mono B2.out.size))).mono ?_); rintro e y1 ⟨Av, nv, cv, rfl, v1, ncv, q1⟩; have g1 : Below w2.heap.size w2 y1 := hd2.trans q1)
          | (go_at_call 11; (with_reducible refine (HC2.out _ (B2.out.trans (g1.mono B2.out.size))).mono ?_); rintro e y2 ⟨Aw, nw, cw, rfl, v2, ncw, q2⟩; have g2 : Below w2.heap.size w2 y2 := g1.trans (q2.mono g1.size))
          | (go_at_call 25; (with_reducible refine (tcmp_any Ak Av Aw nk ck nv cv nw cw y2.heap.size fs a b y2 ((K2.out.below g2).more g2.size) ((v1.below q2).more q2.size) v2 (Nat.le_refl _)).mono ?_); rintro e y3 ⟨rfl, q3⟩; have g3 : Below w2.heap.size w2 y3 := g2.trans (q3.mono g2.size)))
      have B3 := Lib.hid (B2.out.trans (g3.mono B2.out.size))
      have K3 := Lib.hid ((K2.out.below g3).more g3.size)
      clear g1 g2 g3 q1 q2 q3 v1 v2 x0 x1 hd2
      have x0 := (HA.out _ B3.out).1.k0
      have x1 := (HA.out _ B3.out).1.k1
      have HO := Lib.hid (rtcmp_any A A1 A2 n c n1 c1 n2 c2 w.heap.size fs a b y3 (HA.out _ B3.out).2.1 (HA.out _ B3.out).2.2.1 (HA.out _ B3.out).2.2.2.1 (HA.out _ B3.out).2.2.2.2.2.2.size)
      generalize hC : cmpT fs a b = C at HO
      have HCC := Lib.hid hC
      try rw [hC]
      clear hC
      go_wp2_with fail
      (with_reducible refine HO.out.mono ?_)
      rintro e y4 ⟨rfl, hq⟩
      have B4 := Lib.hid (B3.out.trans (hq.mono B3.out.size))
      have K4 := Lib.hid ((K3.out.below hq).more hq.size)
      clear hq x0 x1
      have HGT := Lib.hid (tget_any Ak Ab nk ck m cb y4.heap.size fs raw y4 (HA.out _ B4.out).2.2.2.2.2.1.tab K4.out ((HA.out _ B4.out).2.2.2.2.1.more (Nat.le_trans (HA.out _ B4.out).2.2.2.2.2.2.size (Nat.le_refl _))) hbc (Nat.le_refl _))
      generalize hE : getsE fs raw = E at HGT
      have HEE := Lib.hid hE
      have hE0 : ¬ E = 0 := fun q => HG.out (hE.trans q)
      clear hE
      go_wp2_with fail
      (with_reducible refine HGT.out.mono ?_)
      rintro e z0 ⟨At, nt, ct, rfl, vt, nct, hq⟩
      have D0 := Lib.hid (B4.out.trans (hq.mono B4.out.size))
      have L0 := Lib.hid ((K4.out.below hq).more hq.size)
      clear hq vt
      have x0 := (HA.out _ D0.out).1.k0
      have x1 := (HA.out _ D0.out).1.k1
      go_wp2_with fail
      clear x0 x1
      (with_reducible refine (HC1.out _ D0.out).mono ?_)
      rintro e z1 ⟨Av1, nv1, cv1, rfl, vv1, ncv1, hq⟩
      have D1 := Lib.hid (D0.out.trans (hq.mono D0.out.size))
      have L1 := Lib.hid ((L0.out.below hq).more hq.size)
      have W1 := Lib.hid vv1
      clear hq vv1
      have HP1 := Lib.hid (tput_any Ak Av1 nk ck nv1 cv1 z1.heap.size fs a z1 (HA.out _ D1.out).2.2.2.2.2.1.tab L1.out W1.out (Nat.le_refl _) HL1.out)
      generalize hEa : putsE fs a = Ea at HP1
      have HEa := Lib.hid hEa
      clear hEa
      go_wp2_with fail
      (with_reducible refine HP1.out.mono ?_)
      rintro e z2 ⟨Aa, na, ca, rfl, ya, nca, hq⟩
      have D2 := Lib.hid (D1.out.trans (hq.mono D1.out.size))
      have L2 := Lib.hid ((L1.out.below hq).more hq.size)
      have Ya2 := Lib.hid ya
      clear hq ya
      have x0 := (HA.out _ D2.out).1.k0
      have x1 := (HA.out _ D2.out).1.k1
      go_wp2_with fail
      clear x0 x1
      (with_reducible refine (HC2.out _ D2.out).mono ?_)
      rintro e z3 ⟨Av2, nv2, cv2, rfl, vv2, ncv2, hq⟩
      have D3 := Lib.hid (D2.out.trans (hq.mono D2.out.size))
      have L3 := Lib.hid ((L2.out.below hq).more hq.size)
      have Ya3 := Lib.hid ((Ya2.out.below hq).more hq.size)
      have W2 := Lib.hid vv2
      clear hq vv2
      have HP2 := Lib.hid (tput_any Ak Av2 nk ck nv2 cv2 z3.heap.size fs b z3 (HA.out _ D3.out).2.2.2.2.2.1.tab L3.out W2.out (Nat.le_refl _) HL2.out)
      generalize hEb : putsE fs b = Eb at HP2
      have HEb := Lib.hid hEb
      clear hEb
      go_wp2_with fail
      (with_reducible refine HP2.out.mono ?_)
      rintro e z4 ⟨Abb, nb, cbb, rfl, yb, ncb, hq⟩
      have D4 := Lib.hid (D3.out.trans (hq.mono D3.out.size))
      have L4 := Lib.hid ((L3.out.below hq).more hq.size)
      have Ya4 := Lib.hid ((Ya3.out.below hq).more hq.size)
      have Yb4 := Lib.hid yb
      clear hq yb
      by_cases hea : Ea = 0
      · subst hea
        by_cases heb : Eb = 0
        · subst heb
          have HPZ := Lib.hid (And.intro (putsE_zero HEa.out) (putsE_zero HEb.out))
          have HPG := Lib.hid (put_get HEa.out)
          have hna : na ≤ 65535 := by have q := Ya4.out.1; rw [HPZ.out.1.2.2.2.2] at q; have := HPZ.out.1.2.2.2.1; omega
          go_wp2_with fail
          have HQ1 := Lib.hid (show Calls Tryd.prog 18 #[.slice Ak nk ck, .slice Aa na ca] z4 (VEPost z4 (getsV fs (putsL fs a)) 0) from by
            have q := tget_any Ak Aa nk ck na ca z4.heap.size fs (putsL fs a) z4 (HA.out _ D4.out).2.2.2.2.2.1.tab L4.out Ya4.out nca (Nat.le_refl _)
            rw [HPG.out.1] at q
            exact q)
          (with_reducible refine HQ1.out.mono ?_)
          rintro e z5 ⟨Ag, ng, cg, rfl, vg, ncg, hq⟩
          have D5 := Lib.hid (D4.out.trans (hq.mono D4.out.size))
          have L5 := Lib.hid ((L4.out.below hq).more hq.size)
          have Ya5 := Lib.hid ((Ya4.out.below hq).more hq.size)
          have Yb5 := Lib.hid ((Yb4.out.below hq).more hq.size)
          have G5 := Lib.hid vg
          clear hq vg
          go_wp2_with fail
          have HQ2 := Lib.hid (show Calls Tryd.prog 9 #[.slice Ak nk ck, .slice Ag ng cg] z5 (TPost z5 (putsL fs a) 0) from by
            have q := tput_any Ak Ag nk ck ng cg z5.heap.size fs (getsV fs (putsL fs a)) z5 (HA.out _ D5.out).2.2.2.2.2.1.tab L5.out G5.out (Nat.le_refl _) (fun v hv => ⟨gets_VB HPG.out.1 v hv, by have := (get_put HPG.out.1).2.2 v hv; have := Ya5.out.1; omega⟩)
            rw [HPG.out.2.2.1, HPG.out.2.2.2] at q
            exact q)
          (with_reducible refine HQ2.out.mono ?_)
          rintro e z6 ⟨Ad, nd, cd, rfl, yd, ncd, hq⟩
          have D6 := Lib.hid (D5.out.trans (hq.mono D5.out.size))
          have L6 := Lib.hid ((L5.out.below hq).more hq.size)
          have Ya6 := Lib.hid ((Ya5.out.below hq).more hq.size)
          have Yb6 := Lib.hid ((Yb5.out.below hq).more hq.size)
          have G6 := Lib.hid ((G5.out.below hq).more hq.size)
          have Yd6 := Lib.hid yd
          clear hq yd
          by_cases hc0 : C = 0
          · subst hc0
            go_wp2_with fail
            have HQ3 := Lib.hid (show Calls Tryd.prog 28 #[.slice Aa na ca, .slice Abb nb cbb] z6 (fun e w' => e = .returned (.int .i64 0) ∧ Still z6 w') from by
              have q := rcmp_any Aa Abb na nb ca cbb z6.heap.size (putsL fs a) (putsL fs b) z6 Ya6.out Yb6.out
              rw [HPZ.out.1.2.2.2.2, HPZ.out.2.2.2.2.2, (cat_order fs a b HPZ.out.1.2.2.1 HPZ.out.2.2.2.1 HPZ.out.1.2.1 HPZ.out.2.2.1).1, HCC.out] at q
              exact q)
            (with_reducible refine HQ3.out.mono ?_)
            rintro e u1 ⟨rfl, hq⟩
            have E1 := Lib.hid (D6.out.trans (hq.below _))
            have M1 := Lib.hid ((L6.out.below (hq.below _)).more (hq.below z6.heap.size).size)
            have Ya7 := Lib.hid ((Ya6.out.below (hq.below _)).more (hq.below z6.heap.size).size)
            have G7 := Lib.hid ((G6.out.below (hq.below _)).more (hq.below z6.heap.size).size)
            have Yd7 := Lib.hid ((Yd6.out.below (hq.below _)).more (hq.below z6.heap.size).size)
            clear hq
            have x0 := (HA.out _ E1.out).1.k0
            have x1 := (HA.out _ E1.out).1.k1
            go_wp2_with fail
            clear x0 x1
            (with_reducible refine (HC1.out _ E1.out).mono ?_)
            rintro e u2 ⟨Av3, nv3, cv3, rfl, vv3, ncv3, hq⟩
            have E2 := Lib.hid (E1.out.trans (hq.mono E1.out.size))
            have M2 := Lib.hid ((M1.out.below hq).more hq.size)
            have Ya8 := Lib.hid ((Ya7.out.below hq).more hq.size)
            have G8 := Lib.hid ((G7.out.below hq).more hq.size)
            have Yd8 := Lib.hid ((Yd7.out.below hq).more hq.size)
            have W3 := Lib.hid vv3
            clear hq vv3
            go_wp2_with fail
            have HQ4 := Lib.hid (show Calls Tryd.prog 25 #[.slice Ak nk ck, .slice Ag ng cg, .slice Av3 nv3 cv3] u2 (fun e w' => e = .returned (.int .i64 0) ∧ Below u2.heap.size u2 w') from by
              have q := tcmp_any Ak Ag Av3 nk ck ng cg nv3 cv3 u2.heap.size fs _ a u2 M2.out G8.out W3.out (Nat.le_refl _)
              rw [HPG.out.2.1] at q
              exact q)
            (with_reducible refine HQ4.out.mono ?_)
            rintro e u3 ⟨rfl, hq⟩
            have E3 := Lib.hid (E2.out.trans (hq.mono E2.out.size))
            have Ya9 := Lib.hid ((Ya8.out.below hq).more hq.size)
            have Yd9 := Lib.hid ((Yd8.out.below hq).more hq.size)
            clear hq
            go_wp2_with fail
            (with_reducible refine (rsame_self Ad Aa nd na cd ca u3.heap.size (putsL fs a) u3 Yd9.out Ya9.out).mono ?_)
            rintro e u4 ⟨rfl, hq⟩
            have E4 := Lib.hid (E3.out.trans (hq.below _))
            clear hq
            go_wp2_with fail
            (with_reducible refine (alive_any _ (HA.out _ E4.out).2.2.2.2.2.1).mono ?_)
            rintro e wz ⟨rfl, hz⟩
            have BZ := Lib.hid ((HA.out _ E4.out).2.2.2.2.2.2.trans (hz.mono (HA.out _ E4.out).2.2.2.2.2.2.size))
            clear hz
            go_wp2
            go_ret
            exact ⟨rfl, BZ.out⟩
          · have HBG := Lib.hid (show begB (putsL fs a) (putsL fs b) = false ∧ begB (putsL fs b) (putsL fs a) = false from by
              have q := cat_begins HPZ.out.1.2.2.1 HPZ.out.2.2.2.1 HPZ.out.1.2.1 HPZ.out.2.2.1 (by rw [HCC.out]; exact hc0)
              rw [HPZ.out.1.2.2.2.2, HPZ.out.2.2.2.2.2]
              exact q)
            go_wp2_with fail
            have HQ5 := Lib.hid (show Calls Tryd.prog 27 #[.slice Aa na ca, .slice Abb nb cbb] z6 (fun e w' => e = .returned (.bool false) ∧ Still z6 w') from by
              have q := rbegins_any Aa Abb na nb ca cbb z6.heap.size (putsL fs a) (putsL fs b) z6 Ya6.out Yb6.out
              rw [HBG.out.1] at q
              exact q)
            (with_reducible refine HQ5.out.mono ?_)
            rintro e t1 ⟨rfl, hq⟩
            have I1 := Lib.hid (D6.out.trans (hq.below _))
            have L7 := Lib.hid ((L6.out.below (hq.below _)).more (hq.below z6.heap.size).size)
            have Ya61 := Lib.hid ((Ya6.out.below (hq.below _)).more (hq.below z6.heap.size).size)
            have Yb61 := Lib.hid ((Yb6.out.below (hq.below _)).more (hq.below z6.heap.size).size)
            have G61 := Lib.hid ((G6.out.below (hq.below _)).more (hq.below z6.heap.size).size)
            have Yd61 := Lib.hid ((Yd6.out.below (hq.below _)).more (hq.below z6.heap.size).size)
            clear hq
            go_wp2_with fail
            have HQ6 := Lib.hid (show Calls Tryd.prog 27 #[.slice Abb nb cbb, .slice Aa na ca] t1 (fun e w' => e = .returned (.bool false) ∧ Still t1 w') from by
              have q := rbegins_any Abb Aa nb na cbb ca t1.heap.size (putsL fs b) (putsL fs a) t1 Yb61.out Ya61.out
              rw [HBG.out.2] at q
              exact q)
            (with_reducible refine HQ6.out.mono ?_)
            rintro e t2 ⟨rfl, hq⟩
            have I2 := Lib.hid (I1.out.trans (hq.below _))
            have L8 := Lib.hid ((L7.out.below (hq.below _)).more (hq.below t1.heap.size).size)
            have Ya62 := Lib.hid ((Ya61.out.below (hq.below _)).more (hq.below t1.heap.size).size)
            have Yb62 := Lib.hid ((Yb61.out.below (hq.below _)).more (hq.below t1.heap.size).size)
            have G62 := Lib.hid ((G61.out.below (hq.below _)).more (hq.below t1.heap.size).size)
            have Yd62 := Lib.hid ((Yd61.out.below (hq.below _)).more (hq.below t1.heap.size).size)
            clear hq
            go_wp2_with fail
            have HQ3 := Lib.hid (show Calls Tryd.prog 28 #[.slice Aa na ca, .slice Abb nb cbb] t2 (fun e w' => e = .returned (.int .i64 C) ∧ Still t2 w') from by
              have q := rcmp_any Aa Abb na nb ca cbb t2.heap.size (putsL fs a) (putsL fs b) t2 Ya62.out Yb62.out
              rw [HPZ.out.1.2.2.2.2, HPZ.out.2.2.2.2.2, (cat_order fs a b HPZ.out.1.2.2.1 HPZ.out.2.2.2.1 HPZ.out.1.2.1 HPZ.out.2.2.1).1, HCC.out] at q
              exact q)
            (with_reducible refine HQ3.out.mono ?_)
            rintro e u1 ⟨rfl, hq⟩
            have E1 := Lib.hid (I2.out.trans (hq.below _))
            have M1 := Lib.hid ((L8.out.below (hq.below _)).more (hq.below t2.heap.size).size)
            have Ya7 := Lib.hid ((Ya62.out.below (hq.below _)).more (hq.below t2.heap.size).size)
            have G7 := Lib.hid ((G62.out.below (hq.below _)).more (hq.below t2.heap.size).size)
            have Yd7 := Lib.hid ((Yd62.out.below (hq.below _)).more (hq.below t2.heap.size).size)
            clear hq
            have x0 := (HA.out _ E1.out).1.k0
            have x1 := (HA.out _ E1.out).1.k1
            go_wp2_with fail
            clear x0 x1
            (with_reducible refine (HC1.out _ E1.out).mono ?_)
            rintro e u2 ⟨Av3, nv3, cv3, rfl, vv3, ncv3, hq⟩
            have E2 := Lib.hid (E1.out.trans (hq.mono E1.out.size))
            have M2 := Lib.hid ((M1.out.below hq).more hq.size)
            have Ya8 := Lib.hid ((Ya7.out.below hq).more hq.size)
            have G8 := Lib.hid ((G7.out.below hq).more hq.size)
            have Yd8 := Lib.hid ((Yd7.out.below hq).more hq.size)
            have W3 := Lib.hid vv3
            clear hq vv3
            go_wp2_with fail
            have HQ4 := Lib.hid (show Calls Tryd.prog 25 #[.slice Ak nk ck, .slice Ag ng cg, .slice Av3 nv3 cv3] u2 (fun e w' => e = .returned (.int .i64 0) ∧ Below u2.heap.size u2 w') from by
              have q := tcmp_any Ak Ag Av3 nk ck ng cg nv3 cv3 u2.heap.size fs _ a u2 M2.out G8.out W3.out (Nat.le_refl _)
              rw [HPG.out.2.1] at q
              exact q)
            (with_reducible refine HQ4.out.mono ?_)
            rintro e u3 ⟨rfl, hq⟩
            have E3 := Lib.hid (E2.out.trans (hq.mono E2.out.size))
            have Ya9 := Lib.hid ((Ya8.out.below hq).more hq.size)
            have Yd9 := Lib.hid ((Yd8.out.below hq).more hq.size)
            clear hq
            go_wp2_with fail
            (with_reducible refine (rsame_self Ad Aa nd na cd ca u3.heap.size (putsL fs a) u3 Yd9.out Ya9.out).mono ?_)
            rintro e u4 ⟨rfl, hq⟩
            have E4 := Lib.hid (E3.out.trans (hq.below _))
            clear hq
            go_wp2_with fail
            (with_reducible refine (alive_any _ (HA.out _ E4.out).2.2.2.2.2.1).mono ?_)
            rintro e wz ⟨rfl, hz⟩
            have BZ := Lib.hid ((HA.out _ E4.out).2.2.2.2.2.2.trans (hz.mono (HA.out _ E4.out).2.2.2.2.2.2.size))
            clear hz
            go_wp2
            go_ret
            exact ⟨rfl, BZ.out⟩
        · go_wp2_with fail
          (with_reducible refine (alive_any _ (HA.out _ D4.out).2.2.2.2.2.1).mono ?_)
          rintro e wz ⟨rfl, hz⟩
          have BZ := Lib.hid ((HA.out _ D4.out).2.2.2.2.2.2.trans (hz.mono (HA.out _ D4.out).2.2.2.2.2.2.size))
          clear hz
          go_wp2
          go_ret
          exact ⟨rfl, BZ.out⟩
      · go_wp2_with fail
        (with_reducible refine (alive_any _ (HA.out _ D4.out).2.2.2.2.2.1).mono ?_)
        rintro e wz ⟨rfl, hz⟩
        have BZ := Lib.hid ((HA.out _ D4.out).2.2.2.2.2.2.trans (hz.mono (HA.out _ D4.out).2.2.2.2.2.2.size))
        clear hz
        go_wp2
        go_ret
        exact ⟨rfl, BZ.out⟩
end Go.Proofs.YtdpddkpfllioiaaDoor.tupleOrder
