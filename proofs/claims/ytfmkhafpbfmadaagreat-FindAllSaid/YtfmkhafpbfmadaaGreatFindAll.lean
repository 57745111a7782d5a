/-
  Proved here: each pair of any is found in their canonical tree; of a key that is one byte longer, or shorter, just what the pairs have; nothing that came in is turned. No condition.
-/
import Derived.Test.YtfmkhafpbfmadaaGreatFnAlive
import Derived.Test.YtfmkhafpbfmadaaGreatFnCan
import Derived.Test.YtfmkhafpbfmadaaGreatRow
import Derived.Deep.CutBlock
import Derived.Deep.DeepCutAuto
namespace Go.Proofs.YtfmkhafpbfmadaaGreat.findAll
open Go.ChangeShapes Go.WideShapes Go.ChangeAt Go.RowKit

set_option maxRecDepth 100000 in
theorem info_bytes : (Tryz.prog.info? 23).map (·.size) = some 1 := by kernel_rfl
theorem first_at {ps : List PV} (hr : Rsn ps) {k : Nat} {p : PV} (h : ps[k]? = some p) : firstK (ps.map kvP) p.key = (p.val, true) := by
  have h1 : Rise (ps.map kvP) := by unfold Rise; rw [List.pairwise_map]; exact hr
  rw [first_get h1]
  exact getK_mem h1 (p := kvP p) (List.mem_map.2 ⟨p, List.mem_of_getElem? h, rfl⟩)
set_option maxRecDepth 100000 in
set_option maxHeartbeats 8000000 in
theorem walk (A : Option Addr) (n c : Nat) (ps : List PV) (x : Int) (W : World) (ha : Prs W W.heap.size A n ps) (hk : Kps W W.heap.size ps) (_ : n ≤ c) (_ : ∀ p ∈ ps, 0 ≤ p.val ∧ p.val ≤ 18446744073709551615) (wx : (Lit.int .u8 x).wf = true) :
    Calls Tryz.prog 4 #[.slice A n c, .int .u8 x] W fun e w' => e = .returned (.bool true) ∧ Below W.heap.size W w' := by
  have hbx : 0 ≤ x ∧ x ≤ 255 := by simpa [Lit.wf, IntKind.min, IntKind.max, IntKind.signed, IntKind.bits] using wx
  obtain ⟨bb, hxb⟩ : ∃ b : UInt8, x = (b.toNat : Int) := ⟨UInt8.ofNat x.toNat, by rw [UInt8.toNat_ofNat', Nat.mod_eq_of_lt (by omega)]; omega⟩
  have HXB := Lib.hid hxb
  have H1 := Lib.hid (ffar_any A none n c 0 0 W.heap.size ps W ha (Nat.le_refl _) (by omega))
  have HA := Lib.hid ha
  have HK := Lib.hid hk
  have hln : ps.length = n := ha.1
  have hn9 : n ≤ 9223372036854775807 := by have := ha.2.1; unfold maxLen at this; omega
  have HLN := Lib.hid hln
  clear ha hk hln hbx wx hxb
  go_enter Tryz.func4, Tryz.ntmps4
  go_wp2_with fail
  (with_reducible refine H1.out.mono ?_)
  rintro e w1 ⟨rfl, b1⟩
  have B1 := Lib.hid b1
  obtain ⟨fb, hfb⟩ : ∃ b, farF ps 0 = b := ⟨_, rfl⟩
  rw [hfb]
  have HFB := Lib.hid hfb
  clear b1 hfb H1
  cases fb with
  | true =>
    have H2 := Lib.hid (falive_any w1)
    go_wp2_with fail
    (with_reducible refine H2.out.mono ?_)
    rintro e w2 ⟨rfl, b2⟩
    have B2 := Lib.hid (B1.out.trans (b2.mono B1.out.size))
    clear b2
    go_wp2_with fail
    go_ret
    exact ⟨rfl, B2.out⟩
  | false =>
    by_cases h100 : 100 < n
    · have H2 := Lib.hid (falive_any w1)
      go_wp2_with fail
      (with_reducible refine H2.out.mono ?_)
      rintro e w2 ⟨rfl, b2⟩
      have B2 := Lib.hid (B1.out.trans (b2.mono B1.out.size))
      clear b2
      go_wp2_with fail
      go_ret
      exact ⟨rfl, B2.out⟩
    obtain ⟨f1, f2, f3⟩ := farF_no HFB.out
    have hn300 : n ≤ 300 := by have := HLN.out; omega
    have F2 := Lib.hid f2
    have HS := Lib.hid (rsort_any A n c W.heap.size ps w1 (HA.out.below B1.out) (HK.out.below B1.out) B1.out.size (by omega))
    clear f1 f2
    go_wp2_with fail
    (with_reducible refine HS.out.mono ?_)
    rintro e w2 ⟨A2, c2, rfl, hc2, p2, g2, b2⟩
    obtain ⟨ps2, hps2⟩ : ∃ l, sortS ps = l := ⟨_, rfl⟩
    obtain ⟨n2, hn2⟩ : ∃ k, (sortS ps).length = k := ⟨_, rfl⟩
    have hn2a : n2 ≤ 300 := by
      have := sortS_len ps
      have := HLN.out
      omega
    have hrs : Rsn ps2 := hps2 ▸ sortS_rise ps
    have hk2 : ∀ p ∈ ps2, p.key.length ≤ 300 := hps2 ▸ sortS_all (P := fun p => p.key.length ≤ 300) (fun _ _ h _ => h) F2.out
    have hkp : ∀ V, Below W.heap.size W V → Kps V W.heap.size ps2 := fun V hb => hps2 ▸ Kps.sort (HK.out.below hb)
    rw [hn2] at p2 g2 hc2 ⊢
    rw [hps2] at p2 hn2
    have b2' : Below W.heap.size W w2 := B1.out.trans (b2.mono B1.out.size)
    have ZV := Lib.hid (fun V (h : Below w2.heap.size w2 V) => show Prs V w2.heap.size A2 n2 ps2 ∧ Kps V w2.heap.size ps2 ∧ True ∧ Below W.heap.size W V from
      have hW : Below W.heap.size W V := b2'.trans (h.mono b2'.size)
      ⟨p2.below h, (hkp V hW).more b2'.size, trivial, hW⟩)
    have HT := Lib.hid (ftree_any A2 n2 c2 w2.heap.size ps2 w2 p2 ((hkp w2 b2').more b2'.size) (Nat.le_refl _) hn2a hrs hk2)
    have HRS := Lib.hid hrs
    have HK2 := Lib.hid hk2
    have HN2 := Lib.hid hn2
    have HC2 := Lib.hid hc2
    clear hps2 hrs hk2 hkp p2 g2 b2 b2' hn2 hc2 HS
    go_wp2_with fail
    (with_reducible refine HT.out.mono ?_)
    rintro e w3 ⟨p, rfl, t3, b3⟩
    have T3 := Lib.hid t3
    have B3 := Lib.hid b3
    clear t3 b3 HT
    clear h100
    go_wp2_with fail
    go_loopw [32] (fun i wr => ∃ k : Nat, k ≤ n2 ∧ i = .int .i64 (k : Int) ∧ Hid (Below w3.heap.size w3 wr)) (fun i _ => n2 - (intOf i).toNat)
    case atStart => exact ⟨0, Nat.zero_le _, rfl, Lib.hid (Below.refl _ _)⟩
    case round =>
      obtain ⟨k, hk, rfl, HR⟩ := hrel
      obtain ⟨wo, hwo⟩ : ∃ V, V = wr := ⟨_, rfl⟩
      subst hwo
      by_cases h1 : k < n2
      · have BR := Lib.hid (B3.out.trans (HR.out.mono B3.out.size))
        obtain ⟨ad, p1, hA2, _, e1, c1, c2', b1⟩ := (ZV.out wo BR.out).1.at_ h1
        have hkc := ((ZV.out wo BR.out).2.1 p1 (List.mem_of_getElem? e1)).2
        have hk3 := HK2.out p1 (List.mem_of_getElem? e1)
        have HFI := Lib.hid (first_at HRS.out e1)
        have HB1 := Lib.hid (fun V (h : Below wo.heap.size wo V) => b1.below (h.mono BR.out.size))
        have hkl : p1.key.length = p1.n := b1.1
        subst hA2
        rw [← add_of_add] at c2'
        have cv : wo.cell? ⟨(ad.add (k * 2)).block, (ad.add (k * 2)).off + 1, none⟩ = some (.int .u64 p1.val) := c2'
        clear c2' e1 b1
        obtain ⟨kA, kn, kc, key, v1⟩ := p1
        dsimp only at hkc hk3 HFI HB1 hkl c1 cv
        have HKL := Lib.hid (And.intro hkl hkc)
        have hkn : kn ≤ 300 := by omega
        obtain ⟨lz, hlz⟩ : ∃ z, kn - 1 = z := ⟨_, rfl⟩
        have HLZ := Lib.hid hlz
        have hsl := fun V => slc_upto (P := Tryz.prog) Tryz.underlying23 size_u8 kA kn kc lz (by omega) V
        obtain ⟨X1, hX1⟩ : ∃ V, wo.alloc (.cells #[.slice kA kn kc, .int .u64 v1] 37) = V := ⟨_, rfl⟩
        have bx1 : Below wo.heap.size wo X1 := by rw [← hX1]; exact (Below.refl _ _).alloc (Nat.le_refl _) _
        have kx1 : Blk X1 wo.heap.size #[.slice kA kn kc, .int .u64 v1] := by rw [← hX1]; exact Blk.new _ _ _
        have KX := Lib.hid (fun V (h : Below X1.heap.size X1 V) => kx1.below h kx1.lt)
        have BX1 := Lib.hid bx1
        have HX1 := Lib.hid hX1
        have HBK := Lib.hid (fun V (h : Below X1.heap.size X1 V) => HB1.out V (bx1.trans (h.mono bx1.size)))
        clear hkl hlz bx1 kx1 hX1 hk3 hkc
        go_upto_region 8 with fail
        rw [HX1.out]
        have d0 := (KX.out X1 (Below.refl _ _)).cell 0
        go_upto_region 9 with (first
                     | (at_builtin
                        refine wpList_append_byt X1 rfl _ (.tmp 37) _ rfl Tryz.underlying23 info_u8 X1.heap.size (.slice none 0 0) 0 [] rfl (Mine.nil _ _ _) w2.heap.size kA kn kc key rfl (HBK.out X1 (Below.refl _ _)) (by omega) (Nat.le_refl _) ?_
                        intro v2 wA hm2 hg2 _
                        rw [Nat.zero_add, List.nil_append] at hm2
                        obtain ⟨A5, c5, rfl⟩ := hm2.slice
                        have M2 := Lib.hid hm2
                        have BA := Lib.hid ((Below.refl X1.heap.size X1).grown hg2 (Nat.le_refl _) (by simp [Value.ownBlock]))
                        clear hm2 hg2)
                     | (at_builtin
                        refine wpList_append_byt (wA.alloc (.cells #[.int .u8 x] 5)) rfl (.tmp 38) (.tmp 40) _ rfl Tryz.underlying23 info_u8 X1.heap.size (.slice A5 kn c5) kn key rfl (Mine.alloc M2.out _) (wA.heap.size + 1) (some ⟨wA.heap.size, 0, none⟩) 1 1 [bb] rfl (byt_one wA 5 (u := bb) HXB.out) (by omega) (by have := BA.out.size; simp; omega) ?_
                        intro v4 wC hm4 hg4 _
                        obtain ⟨A6, c6, rfl⟩ := hm4.slice
                        have M4 := Lib.hid hm4
                        have BC := Lib.hid ((BA.out.alloc BA.out.size (.cells #[.int .u8 x] 5)).grown hg4 (by have := BA.out.size; simp; omega) (fun g hg => (M2.out.lt g hg).1))
                        have d1 := (KX.out wC BC.out).cell 0
                        clear hm4 hg4))
        clear d0
        go_cut [9] (fun v9 wc => v9 = .slice kA lz kc ∧ Hid (wc = wC))
        case first =>
          by_cases hk1 : 2 ≤ kn
          · have ewk : IntKind.i64.wrap ((kn : Int) - 1) = (lz : Int) := by have := HLZ.out; rw [IntKind.wrap_i64]; omega
            have hpos : (0 : Int) < (lz : Int) := by have := HLZ.out; omega
            have hmx : max (0 : Int) (lz : Int) = (lz : Int) := by omega
            go_wp2_with fail
            go_meet
            exact ⟨rfl, Lib.hid rfl⟩
          · obtain rfl : lz = 0 := by have := HLZ.out; omega
            rcases (by omega : kn = 0 ∨ kn = 1) with rfl | rfl
            · go_wp2_with fail
              go_meet
              exact ⟨rfl, Lib.hid rfl⟩
            · go_wp2_with fail
              go_meet
              exact ⟨rfl, Lib.hid rfl⟩
        case rest =>
          obtain ⟨rfl, hcw⟩ := hcut
          obtain ⟨w5, hw5⟩ : ∃ V, V = wc := ⟨_, rfl⟩
          have hw5c : w5 = wC := hw5.trans hcw.out
          rw [← hw5]
          have M5 := Lib.hid (show Mine w5 X1.heap.size 5 (.slice A6 (kn + 1) c6) (kn + 1) (key ++ [bb]) from by rw [hw5c]; exact M4.out)
          have B5 := Lib.hid (show Below X1.heap.size X1 w5 from by rw [hw5c]; exact BC.out)
          clear hw5c hw5 hcw M4 BC d1 M2 BA
          have d1 := (KX.out w5 B5.out).cell 0
          obtain ⟨X4, hX4⟩ : ∃ V, w5.alloc (.cells #[.slice kA kn kc, .slice A6 (kn + 1) c6, .slice kA lz kc] 23) = V := ⟨_, rfl⟩
          have bx4 : Below w5.heap.size w5 X4 := by rw [← hX4]; exact (Below.refl _ _).alloc (Nat.le_refl _) _
          have kx4 : Blk X4 w5.heap.size #[.slice kA kn kc, .slice A6 (kn + 1) c6, .slice kA lz kc] := by rw [← hX4]; exact Blk.new _ _ _
          have b14 : Below X1.heap.size X1 X4 := B5.out.trans (bx4.mono B5.out.size)
          have b24 : Below w2.heap.size w2 X4 := BR.out.trans ((BX1.out.trans (b14.mono BX1.out.size)).mono BR.out.size)
          have B24 := Lib.hid b24
          have B34 := Lib.hid (show Below w3.heap.size w3 X4 from HR.out.trans ((BX1.out.trans (b14.mono BX1.out.size)).mono HR.out.size))
          have T4 := Lib.hid (T3.out.below B34.out)
          have HE := Lib.hid (fun (V : World) (h : Below X4.heap.size X4 V) (j : Nat) (hj : j < 3) => show ∃ Ak nk ck lk, V.cell? ⟨w5.heap.size, j, none⟩ = some (.slice Ak nk ck) ∧ Byt V X4.heap.size Ak nk lk ∧ nk ≤ ck ∧ nk ≤ 301 from by
            have hb := kx4.below h kx4.lt
            have hk := (HBK.out V (b14.trans (h.mono b14.size))).more b24.size
            match j, hj with
            | 0, _ => exact ⟨_, _, _, _, hb.cell 0, hk, HKL.out.2, by omega⟩
            | 1, _ => exact ⟨_, _, _, _, hb.cell 1, ((M5.out.byt.below bx4).more bx4.size).below h, M5.out.room, by omega⟩
            | 2, _ => exact ⟨_, _, _, _, hb.cell 2, hk.take (by have := HLZ.out; omega), by have := HLZ.out; have := HKL.out; omega, by have := HLZ.out; omega⟩)
          have KX4 := Lib.hid (fun V (h : Below X4.heap.size X4 V) => KX.out V (b14.trans (h.mono b14.size)))
          have HB4 := Lib.hid (fun V (h : Below X4.heap.size X4 V) => HBK.out V (b14.trans (h.mono b14.size)))
          have HX4 := Lib.hid hX4
          clear bx4 kx4 b14 b24 hX4 M5 B5
          go_wp2_with fail
          rw [HX4.out]
          go_loopw [56] (fun i wr => ∃ j : Nat, j ≤ 3 ∧ i = .int .i64 (j : Int) ∧ Hid (Below X4.heap.size X4 wr)) (fun i _ => 3 - (intOf i).toNat)
          case atStart => exact ⟨0, by omega, rfl, Lib.hid (Below.refl _ _)⟩
          case round =>
            obtain ⟨j, hj, rfl, HQ⟩ := hrel
            by_cases hj3 : j < 3
            · obtain ⟨Ak, nk, ck, lk, e4, y4, hck, hnk⟩ := HE.out _ HQ.out j hj3
              obtain ⟨g, hg⟩ : ∃ g, firstK (ps2.map kvP) lk = g := ⟨_, rfl⟩
              obtain ⟨g1, g2⟩ := g
              have H5 := Lib.hid (cget_any HRS.out HK2.out (T4.out.below HQ.out) y4 HQ.out.size hck (by omega) hg)
              have HG := Lib.hid hg
              have HY4 := Lib.hid y4
              have hj0 : (0 : Int) ≤ (j : Int) := by omega
              have hji : (j : Int) < 3 := by omega
              clear hg y4
              go_wp2_with fail
              (with_reducible refine H5.out.mono ?_)
              rintro e w6 ⟨rfl, b6⟩
              have Q6 := Lib.hid (HQ.out.trans (b6.mono HQ.out.size))
              have H6 := rfget_any (some ad) Ak n2 c2 nk ck X4.heap.size ps2 lk w6 ((ZV.out w6 (B24.out.trans (Q6.out.mono B24.out.size))).1.more B24.out.size) (HY4.out.below (b6.mono HQ.out.size)) (by omega)
              rw [HG.out] at H6
              have H6 := Lib.hid H6
              clear b6 H5 e4
              go_wp2_with fail
              (with_reducible refine H6.out.mono ?_)
              rintro e w7 ⟨rfl, s7⟩
              have Q7 := Lib.hid (Q6.out.trans ((s7.below w6.heap.size).mono Q6.out.size))
              have u1 : (g1 != g1) = false := bne_self_eq_false _
              have u2 : (g2 != g2) = false := bne_self_eq_false _
              clear s7 H6
              go_wp2_with fail
              exact ⟨⟨j + 1, by omega, by go_num, Q7⟩, by simp [intOf]; omega⟩
            · obtain rfl : j = 3 := by omega
              have d2 := (KX4.out _ HQ.out).cell 0
              have H5 := Lib.hid (cget_any HRS.out HK2.out (T4.out.below HQ.out) (HB4.out _ HQ.out) (Nat.le_trans B24.out.size HQ.out.size) HKL.out.2 (by omega) HFI.out)
              go_wp2_with fail
              (with_reducible refine H5.out.mono ?_)
              rintro e w6 ⟨rfl, b6⟩
              have Q6 := Lib.hid (HQ.out.trans (b6.mono HQ.out.size))
              have d3 := (KX4.out _ Q6.out).cell 1
              have u1 : (v1 != v1) = false := bne_self_eq_false _
              have BZ := Lib.hid (B34.out.trans (Q6.out.mono B34.out.size))
              clear b6 H5 d2
              go_wp2_with fail
              exact ⟨⟨k + 1, by omega, by go_num, BZ⟩, by simp [intOf]; omega⟩
      · have H13 := Lib.hid (falive_any wo)
        have BR := Lib.hid (B3.out.trans (HR.out.mono B3.out.size))
        go_wp2_with fail
        (with_reducible refine H13.out.mono ?_)
        rintro e w13 ⟨rfl, b13⟩
        have B13 := Lib.hid (ZV.out w13 (BR.out.trans (b13.mono BR.out.size))).2.2.2
        clear b13 H13
        go_wp2_with fail
        go_ret
        exact ⟨rfl, B13.out⟩
set_option maxRecDepth 100000 in
theorem lifted (os : Os) (started : os.Started) (H : Type) (enc : TypeId × Value → H) :
    ReturnsInHanded {} Tryz.checked os 4 .any (Rows.findAllSpec.pre6 enc Tryz.prog Tryz.f4 Rows.findAllRow.domain false) (Rows.findAllSpec.post enc Tryz.prog Tryz.f4 false true false false) := by
  refine returnsInHanded_of_change (C := Tryz.checked) own started (by kernel_rfl) Tryz.func4
    (ChangeSpec.witness6 (enc := enc) (C := Tryz.checked) false ⟨#[], #[.slice none 0 0, .int .u8 0], []⟩ 8 (by kernel_rfl) (by kernel_rfl) (by kernel_rfl) (by kernel_rfl)) ?_
  intro W base args ds gs before hval0 hW hcnd _
  have hval : ∀ (j : Nat) t v, Tryz.f4.params[j]? = some t → args[j]? = some v → Value.okWide Tryz.prog W .any base t v := hval0
  have hW' := hW
  obtain ⟨p, q, hA0, hV, rfl, hfz, hnd⟩ := hW
  have hA : DataW.TrodAll enc Tryz.prog W 0 (fun _ => true) true Tryz.f4.params.toList args.toList ds p := hA0
  rw [Tryz.params4] at hA hval
  obtain ⟨v0, vs0, d0, ds0, p0, q0, hargs, rfl, rfl, h0, r0⟩ := trodAll_cons hA
  obtain ⟨v1, vs1, d1, ds1, p1, q1, rfl, rfl, rfl, h1, r1⟩ := trodAll_cons r0
  obtain ⟨rfl, rfl, rfl⟩ := trodAll_nil r1
  obtain rfl : args = #[v0, v1] := by cases args; simp_all
  obtain ⟨rfl, rfl⟩ := trodVars_none hV
  have k0 := h0
  have lt0 : ∀ x ∈ p0, x.block < W.heap.size := by obtain ⟨m, hm⟩ := k0; exact DataW.trod_lt m _ _ _ hm
  have k1 := h1
  have lt1 : ∀ x ∈ p1, x.block < W.heap.size := by obtain ⟨m, hm⟩ := k1; exact DataW.trod_lt m _ _ _ hm
  obtain ⟨A0, n0, c0, l0, rfl, b0, kp0, nc0, vl0⟩ := open_kps (hval 0 22 v0 rfl rfl) h0
  obtain ⟨x1, rfl, _, _, wx1⟩ := open_int Tryz.underlying5 (hval 1 5 v1 rfl rfl) h1
  clear hA0 hval0
  refine (walk A0 n0 c0 l0 x1 W b0 kp0 nc0 vl0 wx1).mono fun e W' ⟨he, bel⟩ => ?_
  subst he
  exact ⟨_, rfl, _, _, _, [], _, [], hW', trodAll_mk1 (shut_bool Tryz.underlying4 _), (trodAll_cons_mk (Below.trod laidOut (by kernel_rfl) (of_decide_eq_true (by kernel_rfl)) k0 bel lt0) (trodAll_cons_mk (Below.trod laidOut (by kernel_rfl) (of_decide_eq_true (by kernel_rfl)) k1 bel lt1) trodAll_mk0)), rfl, bel.frame _, fun h => by cases h⟩

set_option maxRecDepth 100000 in
theorem proved : Rows.FindAllSaid :=
  OpenClaim.holds_of_wide 4 Tryz.f4 rfl rfl rfl rfl rfl rfl rfl ⟨rfl, rfl, rfl, rfl, rfl⟩ rfl rfl rfl rfl rfl (by kernel_rfl) Tryz.func4 (by kernel_rfl)
    (of_decide_eq_true (by kernel_rfl)) (by unfold Func.isWrapper; first | (rw [if_pos (by decide +kernel)]; kernel_rfl) | (rw [if_neg (by decide +kernel)]; exact ⟨rfl, rfl⟩))
    (fun os started H enc _ => lifted os started H enc)
end Go.Proofs.YtfmkhafpbfmadaaGreat.findAll
