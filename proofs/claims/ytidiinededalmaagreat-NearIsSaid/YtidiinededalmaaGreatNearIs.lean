/-
  Proved here: the first and the last one of any pairs, and the ones beside any key, are the document's; nothing that came in is turned. No condition.
-/
import Derived.Test.YtidiinededalmaaGreatNrSix
import Derived.Test.YtidiinededalmaaGreatRow
namespace Go.Proofs.YtidiinededalmaaGreat.nearIs
open Go.ChangeShapes Go.WideShapes Go.ChangeAt Go.RowKit

/-- Four blocks of two cells, made behind w. -/
structure Bx (w V : World) (ga gb gc gd : Nat) (xa xb xc xd : Array Value) : Prop where
  a : Blk V ga xa
  b : Blk V gb xb
  c : Blk V gc xc
  d : Blk V gd xd
  lo : w.heap.size ≤ ga ∧ w.heap.size ≤ gb ∧ w.heap.size ≤ gc ∧ w.heap.size ≤ gd
  ne : ga < gb ∧ gb < gc ∧ gc < gd
  wb : Below w.heap.size w V
section
variable {w V V' : World} {ga gb gc gd : Nat} {xa xb xc xd : Array Value}
theorem Bx.below (h : Bx w V ga gb gc gd xa xb xc xd) (hb : Below V.heap.size V V') : Bx w V' ga gb gc gd xa xb xc xd :=
  ⟨h.a.below hb h.a.lt, h.b.below hb h.b.lt, h.c.below hb h.c.lt, h.d.below hb h.d.lt, h.lo, h.ne, h.wb.trans (hb.mono h.wb.size)⟩
def Four_ (ga gb gc gd i : Nat) : Prop := i = ga ∨ i = gb ∨ i = gc ∨ i = gd
theorem Bx.seta {u v : Value} (h : Bx w V ga gb gc gd #[u, v] xb xc xd) (x y : Value) (hV : (V.setCell ⟨ga, 0, none⟩ x).setCell ⟨ga, 1, none⟩ y = V') : Bx w V' ga gb gc gd #[x, y] xb xc xd ∧ Kept (Four_ ga gb gc gd) V V' := by
  subst hV
  obtain ⟨t1, t2⟩ := two_set h.a x y
  have n := h.ne
  exact ⟨⟨t1, t2.blk h.b (fun e => by omega), t2.blk h.c (fun e => by omega), t2.blk h.d (fun e => by omega), h.lo, h.ne, h.wb.trans (t2.below h.wb.size (fun i e => by have := h.lo; omega))⟩, t2.mono (fun i e => .inl e)⟩
theorem Bx.setb {u v : Value} (h : Bx w V ga gb gc gd xa #[u, v] xc xd) (x y : Value) (hV : (V.setCell ⟨gb, 0, none⟩ x).setCell ⟨gb, 1, none⟩ y = V') : Bx w V' ga gb gc gd xa #[x, y] xc xd ∧ Kept (Four_ ga gb gc gd) V V' := by
  subst hV
  obtain ⟨t1, t2⟩ := two_set h.b x y
  have n := h.ne
  exact ⟨⟨t2.blk h.a (fun e => by omega), t1, t2.blk h.c (fun e => by omega), t2.blk h.d (fun e => by omega), h.lo, h.ne, h.wb.trans (t2.below h.wb.size (fun i e => by have := h.lo; omega))⟩, t2.mono (fun i e => .inr (.inl e))⟩
theorem Bx.setc {u v : Value} (h : Bx w V ga gb gc gd xa xb #[u, v] xd) (x y : Value) (hV : (V.setCell ⟨gc, 0, none⟩ x).setCell ⟨gc, 1, none⟩ y = V') : Bx w V' ga gb gc gd xa xb #[x, y] xd ∧ Kept (Four_ ga gb gc gd) V V' := by
  subst hV
  obtain ⟨t1, t2⟩ := two_set h.c x y
  have n := h.ne
  exact ⟨⟨t2.blk h.a (fun e => by omega), t2.blk h.b (fun e => by omega), t1, t2.blk h.d (fun e => by omega), h.lo, h.ne, h.wb.trans (t2.below h.wb.size (fun i e => by have := h.lo; omega))⟩, t2.mono (fun i e => .inr (.inr (.inl e)))⟩
theorem Bx.setd {u v : Value} (h : Bx w V ga gb gc gd xa xb xc #[u, v]) (x y : Value) (hV : (V.setCell ⟨gd, 0, none⟩ x).setCell ⟨gd, 1, none⟩ y = V') : Bx w V' ga gb gc gd xa xb xc #[x, y] ∧ Kept (Four_ ga gb gc gd) V V' := by
  subst hV
  obtain ⟨t1, t2⟩ := two_set h.d x y
  have n := h.ne
  exact ⟨⟨t2.blk h.a (fun e => by omega), t2.blk h.b (fun e => by omega), t2.blk h.c (fun e => by omega), t1, h.lo, h.ne, h.wb.trans (t2.below h.wb.size (fun i e => by have := h.lo; omega))⟩, t2.mono (fun i e => .inr (.inr (.inr e)))⟩
/-- Bytes that lie in none of the four. -/
structure Nb (D : Nat → Prop) (V : World) (A : Option Addr) (p : PV) : Prop where
  len : p.n = p.key.length
  byt : Byt V V.heap.size A p.n p.key
  far : ∀ i, Pb A p.key i → ¬ D i
theorem Nb.kept {D D' : Nat → Prop} {A : Option Addr} {p : PV} (h : Nb D V A p) (hk : Kept D' V V') (hd : ∀ i, i < V.heap.size → D' i → D i) : Nb D V' A p := by
  obtain ⟨h1, h2, h3⟩ := h
  refine ⟨h1, ?_, h3⟩
  rw [h1] at h2 ⊢
  exact (h2.keepPb fun q hq => hk.cell (h2.ltPb hq) (fun e => h3 _ hq (hd _ (h2.ltPb hq) e))).more hk.size
theorem Nb.below {D : Nat → Prop} {A : Option Addr} {p : PV} (h : Nb D V A p) (hb : Below V.heap.size V V') : Nb D V' A p := h.kept (D' := fun _ => False) (Kept.of_below hb) (fun _ _ q => q.elim)
end
set_option maxRecDepth 100000 in
set_option maxHeartbeats 8000000 in
theorem walk (A : Option Addr) (n c : Nat) (ps : List PV) (A' : Option Addr) (n' c' : Nat) (key : List UInt8) (W : World) (ha : Prs W W.heap.size A n ps) (hk : Kps W W.heap.size ps) (_ : n ≤ c) (_ : ∀ p ∈ ps, 0 ≤ p.val ∧ p.val ≤ 18446744073709551615) (hb : Byt W W.heap.size A' n' key) (hnc' : n' ≤ c') :
    Calls Tryz.prog 3 #[.slice A n c, .slice A' n' c'] W fun e w' => e = .returned (.bool true) ∧ Below W.heap.size W w' := by
  have hn9 : n' ≤ 9223372036854775807 := by have := hb.2.1; unfold maxLen at this; omega
  have H1 := nfar_any A n c W.heap.size 300 ps W ha (Nat.le_refl _) (by omega)
  rw [show ((300 : Nat) : Int) = 300 from rfl] at H1
  have H1 := Lib.hid H1
  have HA := Lib.hid (fun V (h : Below W.heap.size W V) => ha.below h)
  have HK := Lib.hid (fun V (h : Below W.heap.size W V) => hk.below h)
  have HB := Lib.hid (fun V (h : Below W.heap.size W V) => hb.below h)
  have HC := Lib.hid hnc'
  have HLN := Lib.hid ha.1
  clear ha hk hb hnc'
  go_enter Tryz.func3, Tryz.ntmps3
  go_wp2_with fail
  (with_reducible refine H1.out.mono ?_)
  rintro e w1 ⟨rfl, b1⟩
  have B1 := Lib.hid b1
  obtain ⟨fb, hfb⟩ : ∃ b, farP ps 300 = b := ⟨_, rfl⟩
  rw [hfb]
  have HFB := Lib.hid hfb
  clear b1 hfb H1
  by_cases hfar : fb = true ∨ 600 < n'
  · have H2 := Lib.hid (nalive_any w1)
    cases fb with
    | true =>
      clear hfar
      go_wp2_with fail
      (with_reducible refine H2.out.mono ?_)
      rintro e w2 ⟨rfl, b2⟩
      have B2 := Lib.hid (B1.out.trans (b2.mono B1.out.size))
      clear b2
      go_wp2_with fail
      go_ret
      exact ⟨rfl, B2.out⟩
    | false =>
      have i1 : decide ((600 : Int) < (n' : Int)) = true := decide_eq_true (by
        rcases hfar with q | q
        · cases q
        · omega)
      clear hfar
      go_wp2_with fail
      (with_reducible refine H2.out.mono ?_)
      rintro e w2 ⟨rfl, b2⟩
      have B2 := Lib.hid (B1.out.trans (b2.mono B1.out.size))
      clear b2
      go_wp2_with fail
      go_ret
      exact ⟨rfl, B2.out⟩
  · have hfb : fb = false := by
      cases fb with
      | false => rfl
      | true => exact absurd (.inl rfl) hfar
    subst hfb
    have hq : n' ≤ 600 := by
      rcases Nat.lt_or_ge 600 n' with q | q
      · exact absurd (.inr q) hfar
      · exact q
    have HSM := Lib.hid hq
    have i1 : decide ((600 : Int) < (n' : Int)) = false := decide_eq_false (by omega)
    clear hfar hq
    obtain ⟨f1, f2⟩ := nfarP_no HFB.out
    have hn300 : n ≤ 300 := by have := HLN.out; omega
    have F2 := Lib.hid f2
    have HS := Lib.hid (rsort_any A n c W.heap.size ps w1 (HA.out w1 B1.out) (HK.out w1 B1.out) B1.out.size (by omega))
    clear f1 f2
    go_wp2_with fail
    (with_reducible refine HS.out.mono ?_)
    rintro e w2 ⟨A2, c2, rfl, hc2, p2, _, b2⟩
    obtain ⟨ps2, hps2⟩ : ∃ l, sortS ps = l := ⟨_, rfl⟩
    obtain ⟨n2, hn2⟩ : ∃ k, (sortS ps).length = k := ⟨_, rfl⟩
    have hn2a : n2 ≤ 300 := by
      have := (sortS_len ps).1
      have := HLN.out
      omega
    have hrs : Rsn ps2 := hps2 ▸ sortS_rise ps
    have hk2 : ∀ p ∈ ps2, p.key.length ≤ 300 := hps2 ▸ sortS_all (P := fun p => p.key.length ≤ 300) (fun _ _ h _ => h) F2.out
    have hkp : ∀ V, Below W.heap.size W V → Kps V W.heap.size ps2 := fun V hb => hps2 ▸ Kps.sort (HK.out V hb)
    rw [hn2] at p2 hc2 ⊢
    rw [hps2] at p2 hn2
    have b2' : Below W.heap.size W w2 := B1.out.trans (b2.mono B1.out.size)
    have hok := nrT_ok hrs hk2 (by omega)
    have HT := Lib.hid (ntree_any A2 n2 c2 w2.heap.size ps2 w2 p2 ((hkp w2 b2').more b2'.size) (Nat.le_refl _) (by omega) hrs hk2)
    have ZV := Lib.hid (fun V (h : Below w2.heap.size w2 V) => show Prs V w2.heap.size A2 n2 ps2 ∧ Below W.heap.size W V from ⟨p2.below h, b2'.trans (h.mono b2'.size)⟩)
    have HRS := Lib.hid hrs
    have HOK := Lib.hid hok
    have HN2 := Lib.hid (And.intro hn2 hn2a)
    have HK2 := Lib.hid hk2
    clear hps2 hrs hk2 hkp p2 b2 b2' hn2 hc2 hok HS
    go_wp2_with fail
    (with_reducible refine HT.out.mono ?_)
    rintro e w3 ⟨p, rfl, t3, b3⟩
    have T3 := Lib.hid t3
    have B3 := Lib.hid b3
    have HZW := Lib.hid (fun (V : World) (h : Below w3.heap.size w3 V) => (ZV.out V (B3.out.trans (h.mono B3.out.size))).2)
    clear t3 b3 HT
    have P3 := Lib.hid (ZV.out w3 B3.out).1
    have HKY := Lib.hid ((HB.out w3 (ZV.out w3 B3.out).2).more (ZV.out w3 B3.out).2.size)
    obtain ⟨p0, r0, x0, y0, z0⟩ := qmin HOK.out T3.out P3.out B3.out.size HN2.out.2  (c := c2)
    have X0 := Lib.hid x0
    have Y0 := Lib.hid y0
    have Z0 := Lib.hid z0
    clear x0 y0 z0
    obtain ⟨p1, r1, x1, y1, z1⟩ := qmax HOK.out T3.out P3.out B3.out.size HN2.out.2  (c := c2)
    have X1 := Lib.hid x1
    have Y1 := Lib.hid y1
    have Z1 := Lib.hid z1
    clear x1 y1 z1
    obtain ⟨p2, r2, x2, y2, z2⟩ := qfloor HOK.out T3.out P3.out B3.out.size HN2.out.2 HRS.out HKY.out HSM.out (c := c2) (c' := c')
    have X2 := Lib.hid x2
    have Y2 := Lib.hid y2
    have Z2 := Lib.hid z2
    clear x2 y2 z2
    obtain ⟨p3, r3, x3, y3, z3⟩ := qceil HOK.out T3.out P3.out B3.out.size HN2.out.2 HRS.out HKY.out HC.out HSM.out (c := c2) (c' := c')
    have X3 := Lib.hid x3
    have Y3 := Lib.hid y3
    have Z3 := Lib.hid z3
    clear x3 y3 z3
    obtain ⟨p4, r4, x4, y4, z4⟩ := qlower HOK.out T3.out P3.out B3.out.size HN2.out.2 HRS.out HKY.out HC.out HSM.out (c := c2) (c' := c')
    have X4 := Lib.hid x4
    have Y4 := Lib.hid y4
    have Z4 := Lib.hid z4
    clear x4 y4 z4
    obtain ⟨p5, r5, x5, y5, z5⟩ := qhigher HOK.out T3.out P3.out B3.out.size HN2.out.2 HRS.out HKY.out HSM.out (c := c2) (c' := c')
    have X5 := Lib.hid x5
    have Y5 := Lib.hid y5
    have Z5 := Lib.hid z5
    clear x5 y5 z5
    clear P3 HKY
    have H4 := Lib.hid (X0.out w3 (Below.refl _ _))
    go_wp2_with fail
    (with_reducible refine H4.out.mono ?_)
    rintro e w4 ⟨Aa, ca, rfl, ya, nca, pba, q4⟩
    obtain ⟨V0, hV0⟩ : ∃ V, w4.alloc (.cells #[.slice Aa p0.n ca, .int .u64 p0.val] 31) = V := ⟨_, rfl⟩
    have bv0 : Below w4.heap.size w4 V0 := by rw [← hV0]; exact new_ _ _
    have kv0 : Blk V0 w4.heap.size #[.slice Aa p0.n ca, .int .u64 p0.val] := by rw [← hV0]; exact Blk.new _ _ _
    have sv0 : V0.heap.size = w4.heap.size + 1 := by rw [← hV0]; simp
    have HV0 := Lib.hid hV0
    have b30 : Below w3.heap.size w3 V0 := q4.trans (bv0.mono q4.size)
    have H5 := Lib.hid (Y0.out V0 b30)
    have YA := Lib.hid (And.intro ya pba)
    have Q4 := Lib.hid (And.intro q4 (And.intro bv0 (And.intro kv0 (And.intro sv0 b30))))
    clear ya nca pba q4 bv0 kv0 sv0 b30 hV0 H4
    go_wp2_with fail
    rw [HV0.out]
    (with_reducible refine H5.out.mono ?_)
    rintro e w6 ⟨rfl, q6⟩
    obtain ⟨V1, hV1⟩ : ∃ V, w6.alloc (.cells #[.slice p0.A p0.n p0.c, .int .u64 p0.val] 34) = V := ⟨_, rfl⟩
    have bv1 : Below w6.heap.size w6 V1 := by rw [← hV1]; exact new_ _ _
    have kv1 : Blk V1 w6.heap.size #[.slice p0.A p0.n p0.c, .int .u64 p0.val] := by rw [← hV1]; exact Blk.new _ _ _
    have sv1 : V1.heap.size = w6.heap.size + 1 := by rw [← hV1]; simp
    have HV1 := Lib.hid hV1
    have b31 : Below w3.heap.size w3 V1 := (Q4.out.2.2.2.2.trans (q6.mono Q4.out.2.2.2.2.size)).trans (bv1.mono (by have := Q4.out.2.2.2.2.size; have := q6.size; omega))
    have H6 := Lib.hid (X1.out V1 b31)
    have Q6 := Lib.hid (And.intro q6 (And.intro bv1 (And.intro kv1 (And.intro sv1 b31))))
    clear q6 bv1 kv1 sv1 b31 hV1 H5
    go_wp2_with fail
    rw [HV1.out]
    (with_reducible refine H6.out.mono ?_)
    rintro e w8 ⟨Ac, cc, rfl, yc, ncc, pbc, q8⟩
    obtain ⟨V2, hV2⟩ : ∃ V, w8.alloc (.cells #[.slice Ac p1.n cc, .int .u64 p1.val] 31) = V := ⟨_, rfl⟩
    have bv2 : Below w8.heap.size w8 V2 := by rw [← hV2]; exact new_ _ _
    have kv2 : Blk V2 w8.heap.size #[.slice Ac p1.n cc, .int .u64 p1.val] := by rw [← hV2]; exact Blk.new _ _ _
    have sv2 : V2.heap.size = w8.heap.size + 1 := by rw [← hV2]; simp
    have HV2 := Lib.hid hV2
    have b32 : Below w3.heap.size w3 V2 := (Q6.out.2.2.2.2.trans (q8.mono Q6.out.2.2.2.2.size)).trans (bv2.mono (by have := Q6.out.2.2.2.2.size; have := q8.size; omega))
    have H7 := Lib.hid (Y1.out V2 b32)
    have YC := Lib.hid (And.intro yc pbc)
    have Q8 := Lib.hid (And.intro q8 (And.intro bv2 (And.intro kv2 (And.intro sv2 b32))))
    clear yc ncc pbc q8 bv2 kv2 sv2 b32 hV2 H6
    go_wp2_with fail
    rw [HV2.out]
    (with_reducible refine H7.out.mono ?_)
    rintro e w10 ⟨rfl, q10⟩
    obtain ⟨V3, hV3⟩ : ∃ V, w10.alloc (.cells #[.slice p1.A p1.n p1.c, .int .u64 p1.val] 34) = V := ⟨_, rfl⟩
    have bv3 : Below w10.heap.size w10 V3 := by rw [← hV3]; exact new_ _ _
    have kv3 : Blk V3 w10.heap.size #[.slice p1.A p1.n p1.c, .int .u64 p1.val] := by rw [← hV3]; exact Blk.new _ _ _
    have sv3 : V3.heap.size = w10.heap.size + 1 := by rw [← hV3]; simp
    have HV3 := Lib.hid hV3
    have hbx : Bx w3 V3 w4.heap.size w6.heap.size w8.heap.size w10.heap.size #[.slice Aa p0.n ca, .int .u64 p0.val] #[.slice p0.A p0.n p0.c, .int .u64 p0.val] #[.slice Ac p1.n cc, .int .u64 p1.val] #[.slice p1.A p1.n p1.c, .int .u64 p1.val] ∧ Nb (Four_ w4.heap.size w6.heap.size w8.heap.size w10.heap.size) V3 Aa p0 ∧ Nb (Four_ w4.heap.size w6.heap.size w8.heap.size w10.heap.size) V3 Ac p1 := by
      obtain ⟨a1, a2, a3, a4, a5⟩ := Q4.out
      obtain ⟨c1, c2, c3, c4, c5⟩ := Q6.out
      obtain ⟨d1, d2, d3, d4, d5⟩ := Q8.out
      have m1 := a1.size; have m2 := c1.size; have m3 := d1.size; have m4 := q10.size
      have t3 : Below V2.heap.size V2 V3 := q10.trans (bv3.mono m4)
      have t2 : Below V1.heap.size V1 V3 := (d1.trans (d2.mono m3)).trans (t3.mono (by omega))
      have t1 : Below V0.heap.size V0 V3 := (c1.trans (c2.mono m2)).trans (t2.mono (by omega))
      have t0 : Below w4.heap.size w4 V3 := a2.trans (t1.mono (by omega))
      have t8 : Below w8.heap.size w8 V3 := d2.trans (t3.mono (by omega))
      refine ⟨⟨a3.below t1 a3.lt, c3.below t2 c3.lt, d3.below t3 d3.lt, kv3, ⟨by omega, by omega, by omega, by omega⟩, ⟨by omega, by omega, by omega⟩, a5.trans (t1.mono (by omega))⟩, ⟨Z0.out.1, (YA.out.1.below t0).more t0.size, fun i hi q => ?_⟩, ⟨Z1.out.1, (YC.out.1.below t8).more t8.size, fun i hi q => ?_⟩⟩
      · have z1 := YA.out.1
        rw [Z0.out.1] at z1
        have z2 := z1.ltPb hi
        rcases q with q | q | q | q <;> omega
      · have z1 := YC.out.1
        rw [Z1.out.1] at z1
        have z2 := z1.ltPb hi
        have z3 := YC.out.2 i hi
        rcases q with q | q | q | q <;> omega
    obtain ⟨bx0, na0, nc0⟩ := hbx
    have ea0 := bx0.a.cell 0
    have ea1 := bx0.a.cell 1
    have eb0 := bx0.b.cell 0
    have eb1 := bx0.b.cell 1
    have ec0 := bx0.c.cell 0
    have ec1 := bx0.c.cell 1
    have ed0 := bx0.d.cell 0
    have ed1 := bx0.d.cell 1
    rw [← hV3] at ea0 ea1 eb0 eb1 ec0 ec1 ed0 ed1
    have BX := Lib.hid bx0
    have NA := Lib.hid na0
    have NC := Lib.hid nc0
    have HS1 := Lib.hid (nsame_any Aa p0.A p0.n ca p0.c p0.key p0.val r0 V3 NA.out.byt ((Z0.out.2 V3 BX.out.wb).more BX.out.wb.size))
    clear q10 bv3 kv3 sv3 hV3 bx0 na0 nc0 H7 Q4 Q6 Q8 YA YC
    go_wp2_with fail
    rw [HV3.out]
    (with_reducible refine HS1.out.mono ?_)
    rintro e s0 ⟨rfl, u0⟩
    clear ea0 ea1 eb0 eb1 ec0 ec1 ed0 ed1 HS1
    have BXS := Lib.hid (BX.out.below u0)
    have NAS := Lib.hid (NA.out.below u0)
    have NCS := Lib.hid (NC.out.below u0)
    have ec0 := BXS.out.c.cell 0
    have ec1 := BXS.out.c.cell 1
    have ed0 := BXS.out.d.cell 0
    have ed1 := BXS.out.d.cell 1
    have HS2 := Lib.hid (nsame_any Ac p1.A p1.n cc p1.c p1.key p1.val r1 s0 NCS.out.byt ((Z1.out.2 s0 BXS.out.wb).more BXS.out.wb.size))
    clear u0 BX NA NC
    go_wp2_with fail
    (with_reducible refine HS2.out.mono ?_)
    rintro e t0 ⟨rfl, u0⟩
    clear ec0 ec1 ed0 ed1 HS2
    have BXT := Lib.hid (BXS.out.below u0)
    clear u0 BXS NAS NCS
    have H4 := Lib.hid (X2.out t0 BXT.out.wb)
    go_wp2_with fail
    (with_reducible refine H4.out.mono ?_)
    rintro e o4 ⟨Aa1, ca1, rfl, y4, _, pb4, u4⟩
    have bo4 := BXT.out.below u4
    have d0 := bo4.a.cell 0
    have z0 := bo4.a.fz 0
    have d1 := bo4.a.cell 1
    have z1 := bo4.a.fz 1
    obtain ⟨V4, hV4⟩ : ∃ V, (o4.setCell ⟨w4.heap.size, 0, none⟩ (.slice Aa1 p2.n ca1)).setCell ⟨w4.heap.size, 1, none⟩ (.int .u64 p2.val) = V := ⟨_, rfl⟩
    obtain ⟨bx4, k4⟩ := bo4.seta (.slice Aa1 p2.n ca1) (.int .u64 p2.val) hV4
    have NA_1 := Lib.hid ((show Nb (Four_ w4.heap.size w6.heap.size w8.heap.size w10.heap.size) o4 Aa1 p2 from ⟨Z2.out.1, y4, fun i hi q => by have z9 := pb4 i hi; have := BXT.out.a.lt; have := BXT.out.b.lt; have := BXT.out.c.lt; have := BXT.out.d.lt; rcases q with q | q | q | q <;> omega⟩).kept k4 (fun _ _ q => q))
    have HV4 := Lib.hid hV4
    have B4_ := Lib.hid bx4
    clear H4 u4 bo4 k4 BXT y4 pb4 hV4 bx4
    have H5 := Lib.hid (Y2.out V4 B4_.out.wb)
    go_wp2_with fail
    rw [HV4.out]
    (with_reducible refine H5.out.mono ?_)
    rintro e o5 ⟨rfl, u5⟩
    have bo5 := B4_.out.below u5
    have d0 := bo5.b.cell 0
    have z0 := bo5.b.fz 0
    have d1 := bo5.b.cell 1
    have z1 := bo5.b.fz 1
    obtain ⟨V5, hV5⟩ : ∃ V, (o5.setCell ⟨w6.heap.size, 0, none⟩ (.slice p2.A p2.n p2.c)).setCell ⟨w6.heap.size, 1, none⟩ (.int .u64 p2.val) = V := ⟨_, rfl⟩
    obtain ⟨bx5, k5⟩ := bo5.setb (.slice p2.A p2.n p2.c) (.int .u64 p2.val) hV5
    have NA_1_ := Lib.hid ((NA_1.out.below u5).kept k5 (fun _ _ q => q))
    clear NA_1
    have NA_1 := NA_1_
    clear NA_1_
    have HV5 := Lib.hid hV5
    have B5_ := Lib.hid bx5
    clear H5 u5 bo5 k5 B4_ hV5 bx5
    have H6 := Lib.hid (X3.out V5 B5_.out.wb)
    go_wp2_with fail
    rw [HV5.out]
    (with_reducible refine H6.out.mono ?_)
    rintro e o6 ⟨Ac1, cc1, rfl, y6, _, pb6, u6⟩
    have bo6 := B5_.out.below u6
    have d0 := bo6.c.cell 0
    have z0 := bo6.c.fz 0
    have d1 := bo6.c.cell 1
    have z1 := bo6.c.fz 1
    obtain ⟨V6, hV6⟩ : ∃ V, (o6.setCell ⟨w8.heap.size, 0, none⟩ (.slice Ac1 p3.n cc1)).setCell ⟨w8.heap.size, 1, none⟩ (.int .u64 p3.val) = V := ⟨_, rfl⟩
    obtain ⟨bx6, k6⟩ := bo6.setc (.slice Ac1 p3.n cc1) (.int .u64 p3.val) hV6
    have NA_1_ := Lib.hid ((NA_1.out.below u6).kept k6 (fun _ _ q => q))
    clear NA_1
    have NA_1 := NA_1_
    clear NA_1_
    have NC_1 := Lib.hid ((show Nb (Four_ w4.heap.size w6.heap.size w8.heap.size w10.heap.size) o6 Ac1 p3 from ⟨Z3.out.1, y6, fun i hi q => by have z9 := pb6 i hi; have := B5_.out.a.lt; have := B5_.out.b.lt; have := B5_.out.c.lt; have := B5_.out.d.lt; rcases q with q | q | q | q <;> omega⟩).kept k6 (fun _ _ q => q))
    have HV6 := Lib.hid hV6
    have B6_ := Lib.hid bx6
    clear H6 u6 bo6 k6 B5_ y6 pb6 hV6 bx6
    have H7 := Lib.hid (Y3.out V6 B6_.out.wb)
    go_wp2_with fail
    rw [HV6.out]
    (with_reducible refine H7.out.mono ?_)
    rintro e o7 ⟨rfl, u7⟩
    have bo7 := B6_.out.below u7
    have d0 := bo7.d.cell 0
    have z0 := bo7.d.fz 0
    have d1 := bo7.d.cell 1
    have z1 := bo7.d.fz 1
    obtain ⟨V7, hV7⟩ : ∃ V, (o7.setCell ⟨w10.heap.size, 0, none⟩ (.slice p3.A p3.n p3.c)).setCell ⟨w10.heap.size, 1, none⟩ (.int .u64 p3.val) = V := ⟨_, rfl⟩
    obtain ⟨bx7, k7⟩ := bo7.setd (.slice p3.A p3.n p3.c) (.int .u64 p3.val) hV7
    have NA_1_ := Lib.hid ((NA_1.out.below u7).kept k7 (fun _ _ q => q))
    have NC_1_ := Lib.hid ((NC_1.out.below u7).kept k7 (fun _ _ q => q))
    clear NA_1 NC_1
    have NA_1 := NA_1_
    clear NA_1_
    have NC_1 := NC_1_
    clear NC_1_
    have HV7 := Lib.hid hV7
    have B7_ := Lib.hid bx7
    clear H7 u7 bo7 k7 B6_
    have na7 := NA_1.out
    have nc7 := NC_1.out
    have ea0 := bx7.a.cell 0
    have ea1 := bx7.a.cell 1
    have eb0 := bx7.b.cell 0
    have eb1 := bx7.b.cell 1
    have ec0 := bx7.c.cell 0
    have ec1 := bx7.c.cell 1
    have ed0 := bx7.d.cell 0
    have ed1 := bx7.d.cell 1
    rw [← hV7] at ea0 ea1 eb0 eb1 ec0 ec1 ed0 ed1
    have BX := Lib.hid bx7
    have NA := Lib.hid na7
    have NC := Lib.hid nc7
    have HS1 := Lib.hid (nsame_any Aa1 p2.A p2.n ca1 p2.c p2.key p2.val r2 V7 NA.out.byt ((Z2.out.2 V7 BX.out.wb).more BX.out.wb.size))
    clear hV7 bx7 na7 nc7 B7_ NA_1 NC_1
    go_wp2_with fail
    rw [HV7.out]
    (with_reducible refine HS1.out.mono ?_)
    rintro e s1 ⟨rfl, u1⟩
    clear ea0 ea1 eb0 eb1 ec0 ec1 ed0 ed1 HS1
    have BXS := Lib.hid (BX.out.below u1)
    have NAS := Lib.hid (NA.out.below u1)
    have NCS := Lib.hid (NC.out.below u1)
    have ec0 := BXS.out.c.cell 0
    have ec1 := BXS.out.c.cell 1
    have ed0 := BXS.out.d.cell 0
    have ed1 := BXS.out.d.cell 1
    have HS2 := Lib.hid (nsame_any Ac1 p3.A p3.n cc1 p3.c p3.key p3.val r3 s1 NCS.out.byt ((Z3.out.2 s1 BXS.out.wb).more BXS.out.wb.size))
    clear u1 BX NA NC
    go_wp2_with fail
    (with_reducible refine HS2.out.mono ?_)
    rintro e t1 ⟨rfl, u1⟩
    clear ec0 ec1 ed0 ed1 HS2
    have BXT := Lib.hid (BXS.out.below u1)
    clear u1 BXS NAS NCS
    have H8 := Lib.hid (X4.out t1 BXT.out.wb)
    go_wp2_with fail
    (with_reducible refine H8.out.mono ?_)
    rintro e o8 ⟨Aa2, ca2, rfl, y8, _, pb8, u8⟩
    have bo8 := BXT.out.below u8
    have d0 := bo8.a.cell 0
    have z0 := bo8.a.fz 0
    have d1 := bo8.a.cell 1
    have z1 := bo8.a.fz 1
    obtain ⟨V8, hV8⟩ : ∃ V, (o8.setCell ⟨w4.heap.size, 0, none⟩ (.slice Aa2 p4.n ca2)).setCell ⟨w4.heap.size, 1, none⟩ (.int .u64 p4.val) = V := ⟨_, rfl⟩
    obtain ⟨bx8, k8⟩ := bo8.seta (.slice Aa2 p4.n ca2) (.int .u64 p4.val) hV8
    have NA_2 := Lib.hid ((show Nb (Four_ w4.heap.size w6.heap.size w8.heap.size w10.heap.size) o8 Aa2 p4 from ⟨Z4.out.1, y8, fun i hi q => by have z9 := pb8 i hi; have := BXT.out.a.lt; have := BXT.out.b.lt; have := BXT.out.c.lt; have := BXT.out.d.lt; rcases q with q | q | q | q <;> omega⟩).kept k8 (fun _ _ q => q))
    have HV8 := Lib.hid hV8
    have B8_ := Lib.hid bx8
    clear H8 u8 bo8 k8 BXT y8 pb8 hV8 bx8
    have H9 := Lib.hid (Y4.out V8 B8_.out.wb)
    go_wp2_with fail
    rw [HV8.out]
    (with_reducible refine H9.out.mono ?_)
    rintro e o9 ⟨rfl, u9⟩
    have bo9 := B8_.out.below u9
    have d0 := bo9.b.cell 0
    have z0 := bo9.b.fz 0
    have d1 := bo9.b.cell 1
    have z1 := bo9.b.fz 1
    obtain ⟨V9, hV9⟩ : ∃ V, (o9.setCell ⟨w6.heap.size, 0, none⟩ (.slice p4.A p4.n p4.c)).setCell ⟨w6.heap.size, 1, none⟩ (.int .u64 p4.val) = V := ⟨_, rfl⟩
    obtain ⟨bx9, k9⟩ := bo9.setb (.slice p4.A p4.n p4.c) (.int .u64 p4.val) hV9
    have NA_2_ := Lib.hid ((NA_2.out.below u9).kept k9 (fun _ _ q => q))
    clear NA_2
    have NA_2 := NA_2_
    clear NA_2_
    have HV9 := Lib.hid hV9
    have B9_ := Lib.hid bx9
    clear H9 u9 bo9 k9 B8_ hV9 bx9
    have H10 := Lib.hid (X5.out V9 B9_.out.wb)
    go_wp2_with fail
    rw [HV9.out]
    (with_reducible refine H10.out.mono ?_)
    rintro e o10 ⟨Ac2, cc2, rfl, y10, _, pb10, u10⟩
    have bo10 := B9_.out.below u10
    have d0 := bo10.c.cell 0
    have z0 := bo10.c.fz 0
    have d1 := bo10.c.cell 1
    have z1 := bo10.c.fz 1
    obtain ⟨V10, hV10⟩ : ∃ V, (o10.setCell ⟨w8.heap.size, 0, none⟩ (.slice Ac2 p5.n cc2)).setCell ⟨w8.heap.size, 1, none⟩ (.int .u64 p5.val) = V := ⟨_, rfl⟩
    obtain ⟨bx10, k10⟩ := bo10.setc (.slice Ac2 p5.n cc2) (.int .u64 p5.val) hV10
    have NA_2_ := Lib.hid ((NA_2.out.below u10).kept k10 (fun _ _ q => q))
    clear NA_2
    have NA_2 := NA_2_
    clear NA_2_
    have NC_2 := Lib.hid ((show Nb (Four_ w4.heap.size w6.heap.size w8.heap.size w10.heap.size) o10 Ac2 p5 from ⟨Z5.out.1, y10, fun i hi q => by have z9 := pb10 i hi; have := B9_.out.a.lt; have := B9_.out.b.lt; have := B9_.out.c.lt; have := B9_.out.d.lt; rcases q with q | q | q | q <;> omega⟩).kept k10 (fun _ _ q => q))
    have HV10 := Lib.hid hV10
    have B10_ := Lib.hid bx10
    clear H10 u10 bo10 k10 B9_ y10 pb10 hV10 bx10
    have H11 := Lib.hid (Y5.out V10 B10_.out.wb)
    go_wp2_with fail
    rw [HV10.out]
    (with_reducible refine H11.out.mono ?_)
    rintro e o11 ⟨rfl, u11⟩
    have bo11 := B10_.out.below u11
    have d0 := bo11.d.cell 0
    have z0 := bo11.d.fz 0
    have d1 := bo11.d.cell 1
    have z1 := bo11.d.fz 1
    obtain ⟨V11, hV11⟩ : ∃ V, (o11.setCell ⟨w10.heap.size, 0, none⟩ (.slice p5.A p5.n p5.c)).setCell ⟨w10.heap.size, 1, none⟩ (.int .u64 p5.val) = V := ⟨_, rfl⟩
    obtain ⟨bx11, k11⟩ := bo11.setd (.slice p5.A p5.n p5.c) (.int .u64 p5.val) hV11
    have NA_2_ := Lib.hid ((NA_2.out.below u11).kept k11 (fun _ _ q => q))
    have NC_2_ := Lib.hid ((NC_2.out.below u11).kept k11 (fun _ _ q => q))
    clear NA_2 NC_2
    have NA_2 := NA_2_
    clear NA_2_
    have NC_2 := NC_2_
    clear NC_2_
    have HV11 := Lib.hid hV11
    have B11_ := Lib.hid bx11
    clear H11 u11 bo11 k11 B10_
    have na11 := NA_2.out
    have nc11 := NC_2.out
    have ea0 := bx11.a.cell 0
    have ea1 := bx11.a.cell 1
    have eb0 := bx11.b.cell 0
    have eb1 := bx11.b.cell 1
    have ec0 := bx11.c.cell 0
    have ec1 := bx11.c.cell 1
    have ed0 := bx11.d.cell 0
    have ed1 := bx11.d.cell 1
    rw [← hV11] at ea0 ea1 eb0 eb1 ec0 ec1 ed0 ed1
    have BX := Lib.hid bx11
    have NA := Lib.hid na11
    have NC := Lib.hid nc11
    have HS1 := Lib.hid (nsame_any Aa2 p4.A p4.n ca2 p4.c p4.key p4.val r4 V11 NA.out.byt ((Z4.out.2 V11 BX.out.wb).more BX.out.wb.size))
    clear hV11 bx11 na11 nc11 B11_ NA_2 NC_2
    go_wp2_with fail
    rw [HV11.out]
    (with_reducible refine HS1.out.mono ?_)
    rintro e s2 ⟨rfl, u2⟩
    clear ea0 ea1 eb0 eb1 ec0 ec1 ed0 ed1 HS1
    have BXS := Lib.hid (BX.out.below u2)
    have NAS := Lib.hid (NA.out.below u2)
    have NCS := Lib.hid (NC.out.below u2)
    have ec0 := BXS.out.c.cell 0
    have ec1 := BXS.out.c.cell 1
    have ed0 := BXS.out.d.cell 0
    have ed1 := BXS.out.d.cell 1
    have HS2 := Lib.hid (nsame_any Ac2 p5.A p5.n cc2 p5.c p5.key p5.val r5 s2 NCS.out.byt ((Z5.out.2 s2 BXS.out.wb).more BXS.out.wb.size))
    clear u2 BX NA NC
    go_wp2_with fail
    (with_reducible refine HS2.out.mono ?_)
    rintro e t2 ⟨rfl, u2⟩
    clear ec0 ec1 ed0 ed1 HS2
    have BXT := Lib.hid (BXS.out.below u2)
    clear u2 BXS NAS NCS
    have HE := Lib.hid (nalive_any t2)
    go_wp2_with fail
    (with_reducible refine HE.out.mono ?_)
    rintro e f ⟨rfl, uf⟩
    have FB := Lib.hid (HZW.out f (BXT.out.wb.trans (uf.mono BXT.out.wb.size)))
    clear uf HE
    go_wp2_with fail
    go_ret
    exact ⟨rfl, FB.out⟩
set_option maxRecDepth 100000 in
theorem lifted (os : Os) (started : os.Started) (H : Type) (enc : TypeId × Value → H) :
    ReturnsInHanded {} Tryz.checked os 3 .any (Rows.nearIsSpec.pre6 enc Tryz.prog Tryz.f3 Rows.nearIsRow.domain false) (Rows.nearIsSpec.post enc Tryz.prog Tryz.f3 false true false false) := by
  refine returnsInHanded_of_change (C := Tryz.checked) own started (by kernel_rfl) Tryz.func3
    (ChangeSpec.witness6 (enc := enc) (C := Tryz.checked) false ⟨#[], #[.slice none 0 0, .slice none 0 0], []⟩ 8 (by kernel_rfl) (by kernel_rfl) (by kernel_rfl) (by kernel_rfl)) ?_
  intro W base args ds gs before hval0 hW hcnd _
  have hval : ∀ (j : Nat) t v, Tryz.f3.params[j]? = some t → args[j]? = some v → Value.okWide Tryz.prog W .any base t v := hval0
  have hW' := hW
  obtain ⟨p, q, hA0, hV, rfl, hfz, hnd⟩ := hW
  have hA : DataW.TrodAll enc Tryz.prog W 0 (fun _ => true) true Tryz.f3.params.toList args.toList ds p := hA0
  rw [Tryz.params3] at hA hval
  obtain ⟨v0, vs0, d0, ds0, p0, q0, hargs, rfl, rfl, h0, r0⟩ := trodAll_cons hA
  obtain ⟨v1, vs1, d1, ds1, p1, q1, rfl, rfl, rfl, h1, r1⟩ := trodAll_cons r0
  obtain ⟨rfl, rfl, rfl⟩ := trodAll_nil r1
  obtain rfl : args = #[v0, v1] := by cases args; simp_all
  obtain ⟨rfl, rfl⟩ := trodVars_none hV
  have k0 := h0
  have lt0 : ∀ x ∈ p0, x.block < W.heap.size := by obtain ⟨m, hm⟩ := k0; exact DataW.trod_lt m _ _ _ hm
  have k1 := h1
  have lt1 : ∀ x ∈ p1, x.block < W.heap.size := by obtain ⟨m, hm⟩ := k1; exact DataW.trod_lt m _ _ _ hm
  obtain ⟨A0, n0, c0, l0, rfl, b0, kp0, nc0, vl0⟩ := open_kps (hval 0 22 v0 rfl rfl) h0
  obtain ⟨A1, n1, c1, l1, rfl, b1, nc1⟩ := open_byt (hval 1 23 v1 rfl rfl) h1
  clear hA0 hval0
  refine (walk A0 n0 c0 l0 A1 n1 c1 l1 W b0 kp0 nc0 vl0 b1 nc1).mono fun e W' ⟨he, bel⟩ => ?_
  subst he
  exact ⟨_, rfl, _, _, _, [], _, [], hW', trodAll_mk1 (shut_bool Tryz.underlying4 _), (trodAll_cons_mk (Below.trod laidOut (by kernel_rfl) (of_decide_eq_true (by kernel_rfl)) k0 bel lt0) (trodAll_cons_mk (Below.trod laidOut (by kernel_rfl) (of_decide_eq_true (by kernel_rfl)) k1 bel lt1) trodAll_mk0)), rfl, bel.frame _, fun h => by cases h⟩

set_option maxRecDepth 100000 in
theorem proved : Rows.NearIsSaid :=
  OpenClaim.holds_of_wide 3 Tryz.f3 rfl rfl rfl rfl rfl rfl rfl ⟨rfl, rfl, rfl, rfl, rfl⟩ rfl rfl rfl rfl rfl (by kernel_rfl) Tryz.func3 (by kernel_rfl)
    (of_decide_eq_true (by kernel_rfl)) (by unfold Func.isWrapper; first | (rw [if_pos (by decide +kernel)]; kernel_rfl) | (rw [if_neg (by decide +kernel)]; exact ⟨rfl, rfl⟩))
    (fun os started H enc _ => lifted os started H enc)
end Go.Proofs.YtidiinededalmaaGreat.nearIs
