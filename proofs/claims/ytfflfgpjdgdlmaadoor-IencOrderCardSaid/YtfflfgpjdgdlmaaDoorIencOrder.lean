/-
  Proved here: numbers' bytes, as ienc.Put tells them, are in order as the numbers; what is put is taken by ienc.Take, whatever stands behind; no stands ahead of yes; nothing that came in is turned. The one condition is the card's own: the table of the widths lies as the program's text lays it (tied).
-/
import Derived.Test.YtfflfgpjdgdlmaaDoorRowArrI
import Derived.Test.YtfflfgpjdgdlmaaDoorIencTab
import Derived.Test.YtfflfgpjdgdlmaaDoorTie
import Derived.Test.YtfflfgpjdgdlmaaDoorCards
import Derived.SevenTiedAt
import Derived.Deep.RegionHeld3
namespace Go.Proofs.YtfflfgpjdgdlmaaDoor.iencOrder
open Go.ChangeShapes Go.WideShapes Go.ChangeAt Go.RowKit

theorem mine_cap {w : World} {base : Nat} {e : TypeId} {A : Option Addr} {n c : Nat} {l : List UInt8} (h : Mine w base e (.slice A n c) n l) : n ≤ c := by
  rcases h.2 with ⟨hv, h0⟩ | ⟨g, cap, cur, hv, _, _, h1, _⟩
  · omega
  · injection hv with _ _ hv
    omega
theorem take_put (k n c B : Nat) (a : Int) (q : Nat) (A : Option Addr) (l : List UInt8) (w : World) (hT : Tab w) (ht : itakeN k (beL k q ++ l) = a ∧ restL k (beL k q ++ l) = l ∧ firstE k (beL k q ++ l) = 0) (ha : Byt w B A (k + n) (beL k q ++ l)) (hnc : k + n ≤ c) (hB : B ≤ w.heap.size) (hs : k + n ≤ 281474976710656) :
    Calls Tryd.prog 14 #[.int .i64 (k : Int), .slice A (k + n) c] w (ITakePost w a l 0) := by
  have h := itake_any k A (k + n) c B (beL k q ++ l) w hT ha hnc hB hs
  rwa [ht.1, ht.2.1, ht.2.2] at h

set_option maxHeartbeats 4000000 in
theorem walk (x : Int) (a b : Int) (A : Option Addr) (n c : Nat) (l : List UInt8) (w : World) (hT : Tab w) (_ : (Lit.int .i64 x).wf = true) (ha : a ≤ 9223372036854775807) (hb : b ≤ 9223372036854775807) (hl : Byt w w.heap.size A n l) (_ : n ≤ c) :
    Calls Tryd.prog 5 #[.int .i64 x, .agg #[.int .i64 a, .int .i64 b], .slice A n c] w fun e w' => e = .returned (.bool true) ∧ Below w.heap.size w w' := by
  have na : n ≤ 9223372036854775807 := by have := hl.2.1; unfold maxLen at this; omega
  have BW := Lib.hid ((Below.refl w.heap.size w).alloc (Nat.le_refl _) (.cells #[.int .i64 a, .int .i64 b] 44))
  have HT := Lib.hid (fun V (h : Below w.heap.size w V) => hT.below h)
  have hk : ∀ W, Below w.heap.size w W → Byt W w.heap.size A n l := fun W h => hl.below h
  have HK := Lib.hid hk
  clear hk hl hT
  by_cases hg : 300 < n
  · go_enter Tryd.func5, Tryd.ntmps5
    go_wp2_with fail
    (with_reducible refine (alive_any _ (HT.out _ BW.out)).mono ?_)
    rintro e w4 ⟨rfl, h4⟩
    have B4 := Lib.hid (BW.out.trans (h4.mono BW.out.size))
    clear h4
    go_wp2
    go_ret
    exact ⟨rfl, B4.out⟩
  · generalize hW : w.alloc (.cells #[.int .i64 a, .int .i64 b] 44) = W at BW
    have hx0 : W.cell? ⟨w.heap.size, 0, none⟩ = some (.int .i64 a) := by subst hW; rw [cell_of_row _ w.heap.size 0 _ _ (0, 0) (heap_alloc_new w _)]; rfl
    have hx1 : W.cell? ⟨w.heap.size, 1, none⟩ = some (.int .i64 b) := by subst hW; rw [cell_of_row _ w.heap.size 1 _ _ (0, 0) (heap_alloc_new w _)]; rfl
    have hWs : w.heap.size + 1 ≤ W.heap.size := by subst hW; simp
    have HX := Lib.hid (And.intro hx0 hx1)
    clear hx0 hx1
    have hc : ∀ V, Below W.heap.size W V → V.cell? ⟨w.heap.size, 0, none⟩ = some (.int .i64 a) ∧ V.cell? ⟨w.heap.size, 1, none⟩ = some (.int .i64 b) := fun V h => ⟨(h.cell (p := ⟨w.heap.size, 0, none⟩) (by simp; omega)).trans HX.out.1, (h.cell (p := ⟨w.heap.size, 1, none⟩) (by simp; omega)).trans HX.out.2⟩
    have HC := Lib.hid hc
    clear hc
    have hm : ∀ V, Below W.heap.size W V → Below w.heap.size w V := fun V h => BW.out.trans (h.mono (by omega))
    have HM := Lib.hid hm
    clear hm
    have HA := Lib.hid (fun V (h : Below W.heap.size W V) => iput_any x a V (HT.out _ (HM.out _ h)) ha)
    have HB := Lib.hid (fun V (h : Below W.heap.size W V) => iput_any x b V (HT.out _ (HM.out _ h)) hb)
    by_cases e1 : iputE x a = 0
    · by_cases e2 : iputE x b = 0
      · obtain ⟨k, rfl, hk8, hwk, ha0, _, hak, hpa⟩ := iput_ok e1
        obtain ⟨k', hkk, _, _, hb0, _, hbk, hpb⟩ := iput_ok e2
        obtain rfl : k = k' := by omega
        have HTK := Lib.hid (itake_back hwk ha0 hak l)
        have HCM := Lib.hid (cmp_iput ha0 hb0 hak hbk)
        rw [e1, hpa] at HA
        rw [e2, hpb] at HB
        obtain ⟨qa, hqa⟩ : ∃ q, (a - leastI k).toNat = q := ⟨_, rfl⟩
        obtain ⟨qb, hqb⟩ : ∃ q, (b - leastI k).toNat = q := ⟨_, rfl⟩
        rw [hqa] at HTK HCM HA
        rw [hqb] at HCM HB
        have HLA := Lib.hid (beL_length k qa)
        clear e1 e2 hpa hpb hkk hwk hak hbk ha0 hb0 hqa hqb
        go_enter Tryd.func5, Tryd.ntmps5
        go_wp2_with fail
        clear hW
        (with_reducible refine (putbool_f _).mono ?_)
        rintro e p1 ⟨P1, d1, rfl, yp1, _, g1⟩
        have G1 := Lib.hid g1
        have YP1 := Lib.hid yp1
        clear g1 yp1
        go_wp2_with fail
        (with_reducible refine (putbool_t _).mono ?_)
        rintro e p2 ⟨P2, d2, rfl, yp2, _, g2⟩
        have G2 := Lib.hid (G1.out.trans (g2.mono G1.out.size))
        have YP1' := Lib.hid ((YP1.out.below g2).more g2.size)
        have YP2 := Lib.hid yp2
        clear g2 yp2
        go_wp2_with fail
        (with_reducible refine (rcmp_any _ _ _ _ _ _ p2.heap.size [0] [1] _ YP1'.out YP2.out).mono ?_)
        rintro e p3 ⟨rfl, g3⟩
        rw [show cmpL [0] [1] = -1 from rfl]
        have B0 := Lib.hid (G2.out.trans (g3.below _))
        clear g3 G1 G2 YP1 YP1' YP2
        obtain ⟨hx0, hx1⟩ := HC.out _ B0.out
        go_wp2_with fail
        (with_reducible refine (HA.out _ B0.out).mono ?_)
        rintro e w1 ⟨A1, n1, c1, rfl, y1, h1⟩
        obtain rfl : k = n1 := by rw [← y1.1]; exact HLA.out.symm
        have B1 := Lib.hid (B0.out.trans (h1.mono B0.out.size))
        have Y1 := Lib.hid y1
        clear h1 y1 hx0 hx1
        obtain ⟨hx0, hx1⟩ := HC.out _ B1.out
        go_wp2_with fail
        (with_reducible refine (HB.out _ B1.out).mono ?_)
        rintro e w2 ⟨A2, n2, c2, rfl, y2, h2⟩
        have B2 := Lib.hid (B1.out.trans (h2.mono B1.out.size))
        have Y2 := Lib.hid y2
        have Y1' := Lib.hid ((Y1.out.below h2).more h2.size)
        clear h2 y2 hx0 hx1
        obtain ⟨hx0, hx1⟩ := HC.out _ B2.out
        have KW := Lib.hid (HK.out _ (HM.out _ B2.out))
        have zW : W.heap.size ≤ w2.heap.size := B2.out.size
        go_wp2_with (first
          | (at_builtin
             refine wpList_append_byt _ rfl (.const (.slice none 0 0)) (.tmp 45) _ rfl Tryd.underlying22 info_u8 w2.heap.size (.slice none 0 0) 0 [] rfl (Mine.nil _ _ _) w2.heap.size A1 k c1 (beL k qa) rfl Y1'.out (by omega) (Nat.le_refl _) ?_
             intro v3 w3 hm3 hg3 _
             rw [Nat.zero_add, List.nil_append] at hm3
             obtain ⟨A3, c3, rfl⟩ := hm3.slice
             have HM3 := Lib.hid hm3
             have HB3 := Lib.hid ((Below.refl w2.heap.size w2).grown hg3 (Nat.le_refl _) (by simp [Value.ownBlock]))
             clear hm3 hg3)
          | (at_builtin
             refine wpList_append_byt _ rfl (.tmp 46) (.tmp 47) _ rfl Tryd.underlying22 info_u8 w2.heap.size (.slice A3 k c3) k (beL k qa) rfl HM3.out w.heap.size A n c l rfl (KW.out.below (HB3.out.mono (by omega))) (by omega) HB3.out.size ?_
             intro v4 w4 hm4 hg4 _
             obtain ⟨A4, c4, rfl⟩ := hm4.slice
             have HM4 := Lib.hid hm4
             have HB4 := Lib.hid (HB3.out.grown hg4 HB3.out.size (fun j hj => (HM3.out.lt j hj).1))
             clear hm4 hg4))
        (with_reducible refine (take_put k n _ w4.heap.size a qa _ l _ (HT.out _ (HM.out _ (B2.out.trans (HB4.out.mono zW)))) HTK.out HM4.out.byt (mine_cap HM4.out) (Nat.le_refl _) (by omega)).mono ?_)
        rintro e w5 ⟨A5, n5, c5, rfl, y5, _, h5⟩
        have B5 := Lib.hid (B2.out.trans ((HB4.out.trans (h5.mono HB4.out.size)).mono zW))
        have Y5 := Lib.hid y5
        have z5 : w2.heap.size ≤ w5.heap.size := (HB4.out.trans (h5.mono HB4.out.size)).size
        have Y1'' := Lib.hid ((Y1'.out.below (HB4.out.trans (h5.mono HB4.out.size))).more z5)
        have Y2' := Lib.hid ((Y2.out.below (HB4.out.trans (h5.mono HB4.out.size))).more z5)
        clear h5 y5 hx0 hx1
        obtain ⟨hx0, hx1⟩ := HC.out _ B5.out
        have KW5 := Lib.hid ((HK.out _ (HM.out _ B5.out)).more (Nat.le_trans (Nat.le_trans (by omega) zW) z5))
        clear KW HB3 HB4 HM3 HM4
        have zz : w.heap.size + 1 ≤ w5.heap.size := by omega
        have hk5 : ∀ V, Below w5.heap.size w5 V → (Byt V w5.heap.size A1 k (beL k qa) ∧ Byt V w5.heap.size A2 n2 (beL k qb)) ∧ Byt V w5.heap.size A5 n5 l ∧ Byt V w5.heap.size A n l := fun V h => ⟨⟨Y1''.out.below h, Y2'.out.below h⟩, Y5.out.below h, KW5.out.below h⟩
        have HK5 := Lib.hid hk5
        have htt : ∀ V, Below w5.heap.size w5 V → Tab V := fun V h => HT.out _ (HM.out _ (B5.out.trans (h.mono B5.out.size)))
        have HTT := Lib.hid htt
        clear htt
        have hb0 : Below w5.heap.size w5 w5 := Below.refl _ _
        clear hk5
        go_wp2_with fail
        go_region_held3 (fun w' => w'.cell? ⟨w.heap.size, 0, none⟩ = some (.int .i64 a) ∧ w'.cell? ⟨w.heap.size, 1, none⟩ = some (.int .i64 b))
          (first
            | go_keep
            | exact ⟨(hb3.cell (p := ⟨w.heap.size, 0, none⟩) (by simp; omega)).trans hx0, (hb3.cell (p := ⟨w.heap.size, 1, none⟩) (by simp; omega)).trans hx1⟩
            | exact ⟨(hb2.cell (p := ⟨w.heap.size, 0, none⟩) (by simp; omega)).trans hx0, (hb2.cell (p := ⟨w.heap.size, 1, none⟩) (by simp; omega)).trans hx1⟩
            | exact ⟨(hb1.cell (p := ⟨w.heap.size, 0, none⟩) (by simp; omega)).trans hx0, (hb1.cell (p := ⟨w.heap.size, 1, none⟩) (by simp; omega)).trans hx1⟩)
          (first
            | (go_at_call 18; refine (rcmp_any _ _ _ _ _ _ w5.heap.size (beL k qa) (beL k qb) _ (HK5.out _ (by repeat (first | assumption | apply below_drewN | apply Below.drew))).1.1 (HK5.out _ (by repeat (first | assumption | apply below_drewN | apply Below.drew))).1.2).mono ?_; rintro e v1 ⟨rfl, hst1⟩; rw [HCM.out]; have hb1 : Below w5.heap.size w5 v1 := Below.trans (by repeat (first | assumption | apply below_drewN | apply Below.drew)) (hst1.below _))
            | (go_at_call 20; refine (icmp_any a b _).mono ?_; rintro e v4 ⟨rfl, rfl⟩)
            | (go_at_call 21; refine (ricmp_any a b _).mono ?_; rintro e v5 ⟨rfl, rfl⟩)
            | (go_at_call 12; refine (rsame_any _ _ _ _ _ _ w5.heap.size l l _ (HK5.out _ (by repeat (first | assumption | apply below_drewN | apply Below.drew))).2.1 (HK5.out _ (by repeat (first | assumption | apply below_drewN | apply Below.drew))).2.2).mono ?_; rintro e v2 ⟨rfl, hst2⟩; rw [show sameB l l = true from by simp [sameB]]; have hb2 : Below w5.heap.size w5 v2 := Below.trans (by repeat (first | assumption | apply below_drewN | apply Below.drew)) (hst2.below _))
            | (go_at_call 13; refine (alive_any _ (HTT.out _ (by repeat (first | assumption | apply below_drewN | apply Below.drew)))).mono ?_; rintro e v3 ⟨rfl, hst3⟩; have hb3 : Below w5.heap.size w5 v3 := Below.trans hb2 (hst3.mono (by have := hb2.size; simp; omega))))
        go_wp2
        go_ret
        exact ⟨by simp, HM.out _ (B5.out.trans (hb3.mono B5.out.size))⟩
      · rw [e1] at HA
        have hne : ((iputE x b) != 0) = true := by simpa using e2
        go_enter Tryd.func5, Tryd.ntmps5
        go_wp2_with fail
        clear hW
        (with_reducible refine (putbool_f _).mono ?_)
        rintro e p1 ⟨P1, d1, rfl, yp1, _, g1⟩
        have G1 := Lib.hid g1
        have YP1 := Lib.hid yp1
        clear g1 yp1
        go_wp2_with fail
        (with_reducible refine (putbool_t _).mono ?_)
        rintro e p2 ⟨P2, d2, rfl, yp2, _, g2⟩
        have G2 := Lib.hid (G1.out.trans (g2.mono G1.out.size))
        have YP1' := Lib.hid ((YP1.out.below g2).more g2.size)
        have YP2 := Lib.hid yp2
        clear g2 yp2
        go_wp2_with fail
        (with_reducible refine (rcmp_any _ _ _ _ _ _ p2.heap.size [0] [1] _ YP1'.out YP2.out).mono ?_)
        rintro e p3 ⟨rfl, g3⟩
        rw [show cmpL [0] [1] = -1 from rfl]
        have B0 := Lib.hid (G2.out.trans (g3.below _))
        clear g3 G1 G2 YP1 YP1' YP2
        obtain ⟨hx0, hx1⟩ := HC.out _ B0.out
        go_wp2_with fail
        (with_reducible refine (HA.out _ B0.out).mono ?_)
        rintro e w1 ⟨A1, n1, c1, rfl, y1, h1⟩
        have B1 := Lib.hid (B0.out.trans (h1.mono B0.out.size))
        clear h1 y1 hx0 hx1
        obtain ⟨hx0, hx1⟩ := HC.out _ B1.out
        go_wp2_with fail
        (with_reducible refine (HB.out _ B1.out).mono ?_)
        rintro e w2 ⟨A2, n2, c2, rfl, y2, h2⟩
        have B2 := Lib.hid (B1.out.trans (h2.mono B1.out.size))
        clear h2 y2 hx0 hx1
        go_wp2_with fail
        (with_reducible refine (alive_any _ (HT.out _ (HM.out _ B2.out))).mono ?_)
        rintro e w3 ⟨rfl, h3⟩
        have B3 := Lib.hid (HM.out _ (B2.out.trans (h3.mono B2.out.size)))
        clear h3
        go_wp2
        go_ret
        exact ⟨rfl, B3.out⟩
    · have hne : ((iputE x a) != 0) = true := by simpa using e1
      go_enter Tryd.func5, Tryd.ntmps5
      go_wp2_with fail
      clear hW
      (with_reducible refine (putbool_f _).mono ?_)
      rintro e p1 ⟨P1, d1, rfl, yp1, _, g1⟩
      have G1 := Lib.hid g1
      have YP1 := Lib.hid yp1
      clear g1 yp1
      go_wp2_with fail
      (with_reducible refine (putbool_t _).mono ?_)
      rintro e p2 ⟨P2, d2, rfl, yp2, _, g2⟩
      have G2 := Lib.hid (G1.out.trans (g2.mono G1.out.size))
      have YP1' := Lib.hid ((YP1.out.below g2).more g2.size)
      have YP2 := Lib.hid yp2
      clear g2 yp2
      go_wp2_with fail
      (with_reducible refine (rcmp_any _ _ _ _ _ _ p2.heap.size [0] [1] _ YP1'.out YP2.out).mono ?_)
      rintro e p3 ⟨rfl, g3⟩
      rw [show cmpL [0] [1] = -1 from rfl]
      have B0 := Lib.hid (G2.out.trans (g3.below _))
      clear g3 G1 G2 YP1 YP1' YP2
      obtain ⟨hx0, hx1⟩ := HC.out _ B0.out
      go_wp2_with fail
      (with_reducible refine (HA.out _ B0.out).mono ?_)
      rintro e w1 ⟨A1, n1, c1, rfl, y1, h1⟩
      have B1 := Lib.hid (B0.out.trans (h1.mono B0.out.size))
      clear h1 y1 hx0 hx1
      obtain ⟨hx0, hx1⟩ := HC.out _ B1.out
      go_wp2_with fail
      (with_reducible refine (HB.out _ B1.out).mono ?_)
      rintro e w2 ⟨A2, n2, c2, rfl, y2, h2⟩
      have B2 := Lib.hid (B1.out.trans (h2.mono B1.out.size))
      clear h2 y2 hx0 hx1
      go_wp2_with fail
      (with_reducible refine (alive_any _ (HT.out _ (HM.out _ B2.out))).mono ?_)
      rintro e w3 ⟨rfl, h3⟩
      have B3 := Lib.hid (HM.out _ (B2.out.trans (h3.mono B2.out.size)))
      clear h3
      go_wp2
      go_ret
      exact ⟨rfl, B3.out⟩

set_option maxRecDepth 100000 in
theorem lifted (os : Os) (started : os.Started) (H : Type) (enc : TypeId × Value → H) :
    ReturnsInHanded {} Tryd.checked os 5 .any (fun w args => (Rows.iencOrderSpec.pre enc Tryd.prog Tryd.f5 [] false w args ∧ laidMetH Tryd.prog [("spunyarn/ienc.widths", Rows.laid_spunyarn_ienc_widths)] w) ∧ sizedMet enc Tryd.prog Tryd.f5 (OpenSpec.ofChange Rows.iencOrderSpec) false w args) (Rows.iencOrderSpec.post enc Tryd.prog Tryd.f5 false true false false) := by
  refine returnsInHanded_of_change_and (C := Tryd.checked) (X := fun w _ => laidMetH Tryd.prog [("spunyarn/ienc.widths", Rows.laid_spunyarn_ienc_widths)] w) (fun _ _ _ hh h => h.of_heap hh) own started (by kernel_rfl) Tryd.func5
    (ChangeSpec.witness_shaped (enc := enc) (C := Tryd.checked) (os := os) (X := fun w _ => laidMetH Tryd.prog [("spunyarn/ienc.widths", Rows.laid_spunyarn_ienc_widths)] w) false (World.doorLaid Tryd.prog 400 os) #[.int .i64 0, .agg #[.int .i64 0, .int .i64 0], .slice none 0 0] 8 rfl (World.shaped_of_RefB (by kernel_rfl) (by kernel_rfl)) (by kernel_rfl) (by kernel_rfl) (by kernel_rfl) (door_met os _)) ?_
  intro W base args ds gs before hval0 hW _ _ hL _
  have hval : ∀ (j : Nat) t v, Tryd.f5.params[j]? = some t → args[j]? = some v → Value.okWide Tryd.prog W .any base t v := hval0
  have hW' := hW
  obtain ⟨p, q, hA0, hV, rfl, hfz, hnd⟩ := hW
  have hA : DataW.TrodAll enc Tryd.prog W 0 (fun _ => true) true Tryd.f5.params.toList args.toList ds p := hA0
  rw [Tryd.params5] at hA hval
  obtain ⟨v0, vs0, d0, ds0, p0, q0, hargs, rfl, rfl, h0, r0⟩ := trodAll_cons hA
  obtain ⟨v1, vs1, d1, ds1, p1, q1, rfl, rfl, rfl, h1, r1⟩ := trodAll_cons r0
  obtain ⟨v2, vs2, d2, ds2, p2, q2, rfl, rfl, rfl, h2, r2⟩ := trodAll_cons r1
  obtain ⟨rfl, rfl, rfl⟩ := trodAll_nil r2
  obtain rfl : args = #[v0, v1, v2] := by cases args; simp_all
  obtain ⟨rfl, rfl⟩ := trodVars_none hV
  have k0 := h0
  have lt0 : ∀ x ∈ p0, x.block < W.heap.size := by obtain ⟨m, hm⟩ := k0; exact DataW.trod_lt m _ _ _ hm
  have k1 := h1
  have lt1 : ∀ x ∈ p1, x.block < W.heap.size := by obtain ⟨m, hm⟩ := k1; exact DataW.trod_lt m _ _ _ hm
  have k2 := h2
  have lt2 : ∀ x ∈ p2, x.block < W.heap.size := by obtain ⟨m, hm⟩ := k2; exact DataW.trod_lt m _ _ _ hm
  obtain ⟨x0, rfl, _, _, wx0⟩ := open_int Tryd.underlying3 (hval 0 3 v0 rfl rfl) h0
  obtain ⟨a, b, rfl, ha, hb⟩ := open_i64s (hval 1 44 v1 rfl rfl) h1
  obtain ⟨A2, n2, c2, l2, rfl, b2, nc2⟩ := open_byt (hval 2 22 v2 rfl rfl) h2
  clear hA0 hval0
  refine (walk x0 a b A2 n2 c2 l2 W (of_laid hL) wx0 ha hb b2 nc2).mono fun e W' ⟨he, bel⟩ => ?_
  subst he
  exact ⟨_, rfl, _, _, _, [], _, [], hW', trodAll_mk1 (shut_bool Tryd.underlying4 _), (trodAll_cons_mk (Below.trod laidOut (by kernel_rfl) (of_decide_eq_true (by kernel_rfl)) k0 bel lt0) (trodAll_cons_mk (Below.trod laidOut (by kernel_rfl) (of_decide_eq_true (by kernel_rfl)) k1 bel lt1) (trodAll_cons_mk (Below.trod laidOut (by kernel_rfl) (of_decide_eq_true (by kernel_rfl)) k2 bel lt2) trodAll_mk0))), rfl, bel.frame _, fun h => by cases h⟩

theorem proved : Rows.IencOrderSaid :=
  OpenClaim.holds_of_wide 5 Tryd.f5 rfl rfl rfl rfl rfl rfl rfl ⟨rfl, rfl, rfl, rfl, rfl⟩ rfl rfl rfl rfl rfl (by kernel_rfl) Tryd.func5 (by kernel_rfl)
    (of_decide_eq_true (by kernel_rfl)) (by unfold Func.isWrapper; first | (rw [if_pos (by decide +kernel)]; kernel_rfl) | (rw [if_neg (by decide +kernel)]; exact ⟨rfl, rfl⟩))
    (fun os started H enc _ => lifted os started H enc)
#print axioms proved

theorem card_holds : Rows.IencOrderCardSaid :=
  Claim7.holds_tied_plain_at .later [] [.data] true _ false
    proved (fun _ h => by cases h) (by kernel_rfl) (fun _ h => by cases h) iencOrder_row_tie rfl ⟨rfl, rfl⟩ (by kernel_rfl) rfl
    (fun f fn hf hfn => by
      obtain rfl : f = 5 := Option.some.inj ((show Tryd.prog.funcNamed "spunyarn/spunyarnlaw03.IencOrder" = some 5 by kernel_rfl).symm.trans hf) |>.symm
      obtain rfl : fn = Tryd.f5 := (Option.some.inj (Tryd.func5.symm.trans hfn)).symm
      exact ⟨by kernel_rfl, fun j t ht => by
        rw [Tryd.params5] at ht
        have hm : t ∈ [3, 44, 22] := by simpa using Array.mem_of_getElem? ht
        have hall : ([3, 44, 22].all fun u => !Tryd.prog.wantsStandIn u) = true := by kernel_rfl
        exact (show Tryd.prog.wantsStandIn t = false by simpa using List.all_eq_true.1 hall t hm)⟩)
    (by kernel_rfl)
#print axioms card_holds
end Go.Proofs.YtfflfgpjdgdlmaaDoor.iencOrder
