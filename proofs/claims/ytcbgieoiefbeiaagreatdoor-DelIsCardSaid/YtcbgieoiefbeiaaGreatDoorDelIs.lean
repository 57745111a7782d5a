/-
  Proved here: the canonical tree of any pairs, without any key, taken out by another owner, is the canonical one of the others, or refused, whether it was there is told, and the first tree is what it was; nothing that came in is turned. The one condition is the card's own: the table of the powers of ten lies as the program's library lays it (tied).
-/
import Derived.Test.YtcbgieoiefbeiaaGreatDoorDelW
import Derived.Test.YtcbgieoiefbeiaaGreatDoorRow
import Derived.Test.YtcbgieoiefbeiaaGreatDoorTie
import Derived.Test.YtcbgieoiefbeiaaGreatDoorCards
import Derived.SevenTiedAt
import Derived.Deep.DeepCutAuto
namespace Go.Proofs.YtcbgieoiefbeiaaGreatDoor.delIs
open Go.ChangeShapes Go.WideShapes Go.ChangeAt Go.RowKit

def DelAny (w : World) (S : Nat → Prop) (t : Option (Nn × Fo)) (l : List UInt8) (e : Ending) (w' : World) : Prop := ∃ o, DelOth o w S t l e w'
theorem DelOth.any {o : Int} {w : World} {S : Nat → Prop} {t : Option (Nn × Fo)} {l : List UInt8} {e : Ending} {w' : World} (h : DelOth o w S t l e w') : DelAny w S t l e w' := ⟨o, h⟩
set_option maxRecDepth 100000 in
set_option maxHeartbeats 4000000 in
theorem walk (A : Option Addr) (n c : Nat) (ps : List PV) (A' : Option Addr) (n' c' : Nat) (key : List UInt8) (ow : Int) (W : World) (htb : Tb W) (ha : Prs W W.heap.size A n ps) (hk : Kps W W.heap.size ps) (_ : n ≤ c) (hv : ∀ p ∈ ps, 0 ≤ p.val ∧ p.val ≤ 18446744073709551615) (hb : Byt W W.heap.size A' n' key) (hnc' : n' ≤ c') (hwf : (Lit.int IntKind.u64 ow).wf = true) :
    Calls Tryz.prog 3 #[.slice A n c, .slice A' n' c', .int .u64 ow] W fun e w' => e = .returned (.bool true) ∧ Below W.heap.size W w' := by
  have hle : 0 < W.heap.size := htb.lt
  have HTB := Lib.hid (fun (V : World) (h : Below W.heap.size W V) => htb.below h hle)
  have HAL := Lib.hid (fun (V : World) (h : Below W.heap.size W V) => dalive_any V (htb.below h hle))
  have HZ := Lib.hid (fun (V : World) (h : Below W.heap.size W V) => h)
  have HA := Lib.hid (fun (V : World) (h : Below W.heap.size W V) => ha.below h)
  have HK := Lib.hid (fun (V : World) (h : Below W.heap.size W V) => hk.below h)
  have HB := Lib.hid (fun (V : World) (h : Below W.heap.size W V) => hb.below h)
  have hn9 : n' ≤ 9223372036854775807 := by have := hb.2.1; unfold maxLen at this; omega
  have H1 := pfar_any A n c W.heap.size 200 ps W ha (Nat.le_refl _) (by omega)
  rw [show ((200 : Nat) : Int) = 200 from rfl] at H1
  have H1 := Lib.hid H1
  have HV := Lib.hid hv
  have HC := Lib.hid hnc'
  have HLN := Lib.hid ha.1
  have HKL := Lib.hid hb.1
  have ho1 : 0 ≤ ow := by
    have h1 : 0 ≤ ow ∧ ow ≤ 18446744073709551615 := by simpa [Lit.wf, IntKind.min, IntKind.max, IntKind.signed, IntKind.bits] using hwf
    exact h1.1
  clear htb ha hk hb hnc' hv hle hwf
  go_enter Tryz.func3, Tryz.ntmps3
  go_wp2_with fail
  (with_reducible refine H1.out.mono ?_)
  rintro e w1 ⟨rfl, b1⟩
  have B1 := Lib.hid b1
  obtain ⟨fb, hfb⟩ : ∃ b, farP ps 200 = b := ⟨_, rfl⟩
  rw [hfb]
  have HFB := Lib.hid hfb
  clear b1 hfb H1
  by_cases hfar : fb = true ∨ (600 < n' ∧ n' ≤ 65535) ∨ 70000 < n'
  · have H2 := Lib.hid (HAL.out w1 B1.out)
    have hgo : ∀ (e : Ending) (w' : World), (e = .returned (.bool true) ∧ Below w1.heap.size w1 w') → e = .returned (.bool true) ∧ Below W.heap.size W w' := fun e w' h => ⟨h.1, HZ.out w' (B1.out.trans (h.2.mono B1.out.size))⟩
    have HGO := Lib.hid hgo
    clear hgo
    cases fb with
    | true =>
      clear hfar
      go_wp2_with fail
      (with_reducible refine H2.out.mono ?_)
      rintro e w2 ⟨rfl, b2⟩
      have B2 := Lib.hid (HGO.out _ _ ⟨rfl, b2⟩).2
      clear b2
      go_wp2_with fail
      go_ret
      exact ⟨rfl, B2.out⟩
    | false =>
      have hcs : (600 < n' ∧ n' ≤ 65535) ∨ 70000 < n' := by
        rcases hfar with q | q
        · cases q
        · exact q
      rcases hcs with hq | hq
      case' inl =>
        have i1 : decide ((600 : Int) < (n' : Int)) = true := decide_eq_true (by omega)
        have i2 : decide ((n' : Int) ≤ 65535) = true := decide_eq_true (by omega)
      case' inr =>
        have i1 : decide ((600 : Int) < (n' : Int)) = true := decide_eq_true (by omega)
        have i2 : decide ((n' : Int) ≤ 65535) = false := decide_eq_false (by omega)
        have i3 : decide ((70000 : Int) < (n' : Int)) = true := decide_eq_true (by omega)
      all_goals
        clear hfar hq
        go_wp2_with fail
        (with_reducible refine H2.out.mono ?_)
        rintro e w2 ⟨rfl, b2⟩
        have B2 := Lib.hid (HGO.out _ _ ⟨rfl, b2⟩).2
        clear b2
        go_wp2_with fail
        go_ret
        exact ⟨rfl, B2.out⟩
  · have hfb : fb = false := by
      cases fb with
      | false => rfl
      | true => exact absurd (.inl rfl) hfar
    subst hfb
    have hn70 : n' ≤ 70000 := by
      rcases Nat.lt_or_ge 70000 n' with q | q
      · exact absurd (.inr (.inr q)) hfar
      · exact q
    have hcs : n' ≤ 600 ∨ 65535 < n' := by
      rcases Nat.lt_or_ge 600 n' with q | q
      · right
        rcases Nat.lt_or_ge 65535 n' with z | z
        · exact z
        · exact absurd (.inr (.inl ⟨q, z⟩)) hfar
      · exact .inl q
    obtain ⟨f1, f2⟩ := farP_no HFB.out
    have hn200 : n ≤ 200 := by have := HLN.out; omega
    have F2 := Lib.hid f2
    have HS := Lib.hid (rsort_any A n c W.heap.size ps w1 (HA.out w1 B1.out) (HK.out w1 B1.out) B1.out.size (by omega))
    have HCS := Lib.hid hcs
    clear hfar f1 f2
    rcases hcs with hq | hq
    case' inl =>
      have i1 : decide ((600 : Int) < (n' : Int)) = false := decide_eq_false (by omega)
      have i3 : decide ((70000 : Int) < (n' : Int)) = false := decide_eq_false (by omega)
      have i4 : decide ((65535 : Int) < (n' : Int)) = false := decide_eq_false (by omega)
    case' inr =>
      have i1 : decide ((600 : Int) < (n' : Int)) = true := decide_eq_true (by omega)
      have i2 : decide ((n' : Int) ≤ 65535) = false := decide_eq_false (by omega)
      have i3 : decide ((70000 : Int) < (n' : Int)) = false := decide_eq_false (by omega)
      have i4 : decide ((65535 : Int) < (n' : Int)) = true := decide_eq_true (by omega)
    all_goals
      clear hq hn70
      go_wp2_with fail
      (with_reducible refine HS.out.mono ?_)
      rintro e w2 ⟨A2, c2, rfl, hc2, p2, _, b2⟩
      obtain ⟨ps2, hps2⟩ : ∃ l, sortS ps = l := ⟨_, rfl⟩
      obtain ⟨n2, hn2⟩ : ∃ k, (sortS ps).length = k := ⟨_, rfl⟩
      have hn2a : n2 ≤ 200 := by
        have := (sortS_len ps).1
        have := HLN.out
        omega
      have hrs : Rsn ps2 := hps2 ▸ sortS_rise ps
      have hk2 : ∀ p ∈ ps2, p.key.length ≤ 300 := hps2 ▸ sortS_all (P := fun p => p.key.length ≤ 300) (fun _ _ h _ => h) F2.out
      have hv2 : ∀ p ∈ ps2, 0 ≤ p.val ∧ p.val ≤ 18446744073709551615 := hps2 ▸ sortS_all (P := fun p => 0 ≤ p.val ∧ p.val ≤ 18446744073709551615) (fun _ _ _ h => h) HV.out
      rw [hn2] at p2 hc2 ⊢
      rw [hps2] at p2 hn2
      have b2' : Below W.heap.size W w2 := B1.out.trans (b2.mono B1.out.size)
      have hkp : ∀ V, Below W.heap.size W V → Kps V W.heap.size ps2 := fun V hb => hps2 ▸ Kps.sort (HK.out V hb)
      have ZV := Lib.hid (fun V (h : Below w2.heap.size w2 V) => show Prs V w2.heap.size A2 n2 ps2 ∧ Kps V w2.heap.size ps2 ∧ Below W.heap.size W V from
        have hW : Below W.heap.size W V := b2'.trans (h.mono b2'.size)
        ⟨p2.below h, (hkp V hW).more b2'.size, hW⟩)
      have HT := Lib.hid (ptree_any (o := 1) (by omega) A2 n2 c2 w2.heap.size ps2 w2 p2 ((hkp w2 b2').more b2'.size) (Nat.le_refl _) (by omega) hrs hk2)
      have HRS := Lib.hid hrs
      have HK2 := Lib.hid hk2
      have HV2 := Lib.hid hv2
      have HC2 := Lib.hid hc2
      have HN2 := Lib.hid hn2
      clear hps2 hrs hk2 hv2 hkp p2 b2 b2' hn2 hc2 HS
      go_wp2_with fail
      (with_reducible refine HT.out.mono ?_)
      rintro e w3 ⟨p, rfl, t3, b3⟩
      have T3 := Lib.hid (OTow.here t3)
      have B3 := Lib.hid b3
      clear t3 b3 HT
      have HPX := Lib.hid (show oall (fun q => q = 1) (bTr 1 301 (rel 0 ps2)) ∧ OCan ps2 (bTr 1 301 (rel 0 ps2)) from by
        have h1 := bTr_ocan 1 HRS.out 301 (fun p hp => by have := HK2.out p hp; omega)
        exact ⟨h1.2, h1.1⟩)
      have HM := Lib.hid (show ∀ q ∈ olist (bTr 1 301 (rel 0 ps2)), q.1.length ≤ 1000000 from fun q hq => by
        rw [HPX.out.2.list] at hq
        obtain ⟨p, hp, rfl⟩ := List.mem_map.1 hq
        have := HK2.out p hp
        show p.key.length ≤ _
        omega)
      have HPO := Lib.hid (fun (o2 : Int) (h1 : 1 ≤ o2) (h2 : 1 ≠ o2) (hs : n' ≤ 600) => del_other (o := o2) (c := c') h1 T3.out (fun i q => q) (oall_mono (fun q e => by rw [e]; exact h2) HPX.out.1) HPX.out.2.srt HPX.out.2.owf HPX.out.2.good HM.out (HB.out w3 (ZV.out w3 B3.out).2.2) (ZV.out w3 B3.out).2.2.size HC.out (by omega))
      have HA3 := Lib.hid (fun (V : World) (h : Below w3.heap.size w3 V) => pas_any (c := c2) (HTB.out V (ZV.out V (B3.out.trans (h.mono B3.out.size))).2.2) (T3.out.below h) (ZV.out V (B3.out.trans (h.mono B3.out.size))).1 (ZV.out V (B3.out.trans (h.mono B3.out.size))).2.1 (Nat.le_trans B3.out.size h.size) (by omega) HC2.out HRS.out (fun p hp => by have := HK2.out p hp; omega) HV2.out HPX.out.2)
      have HZ3 := Lib.hid (fun (V : World) (h : Below w3.heap.size w3 V) => show Below W.heap.size W V from HZ.out V (ZV.out V (B3.out.trans (h.mono B3.out.size))).2.2)
      have HL3 := Lib.hid (fun (V : World) (h : Below w3.heap.size w3 V) => HAL.out V (ZV.out V (B3.out.trans (h.mono B3.out.size))).2.2)
      by_cases ho0 : ow = 0
      · subst ho0
        have H4 := Lib.hid (del_zero p A' n' c' none w3)
        clear i1 i3 i4 HPO
        go_wp2_with fail
        (with_reducible refine H4.out.mono ?_)
        rintro e w4 ⟨rfl, rfl⟩
        have H5 := Lib.hid (HL3.out w4 (Below.refl _ _))
        go_wp2_with fail
        (with_reducible refine H5.out.mono ?_)
        rintro e w5 ⟨rfl, b5⟩
        have B5 := Lib.hid (HZ3.out w5 b5)
        clear b5
        go_wp2_with fail
        go_ret
        exact ⟨rfl, B5.out⟩
      · by_cases ho : ow = 1
        case' pos =>
          subst ho
          have HP2 := Lib.hid (fun (hs : n' ≤ 600) => (HPO.out 2 (by decide) (by decide) hs).mono (fun _ _ h => DelOth.any h))
          have HB2 := Lib.hid (fun (hs : 65535 < n') => del_big p A' n' c' 2 none w3 (by decide) hs hn9)
        case' neg =>
          have h0 : (ow == 1) = false := by simpa using ho
          have h00 : (ow == 0) = false := by simpa using ho0
          have HP2 := Lib.hid (fun (hs : n' ≤ 600) => (HPO.out ow (by omega) (fun e => ho e.symm) hs).mono (fun _ _ h => DelOth.any h))
          have HB2 := Lib.hid (fun (hs : 65535 < n') => del_big p A' n' c' ow none w3 ho0 hs hn9)
        all_goals
          clear HPO ho0
          rcases HCS.out with hs | hs
          · try (exfalso; have h4 := of_decide_eq_true i4; omega)
            all_goals
              have H4 := Lib.hid (HP2.out hs)
              have HSM := Lib.hid hs
              clear hs
              go_wp2_with fail
              (with_reducible refine H4.out.mono ?_)
              rintro e w4 ⟨o4, u4, rfl, t4, b4⟩
              have B4 := Lib.hid b4
              have BZ4 := Lib.hid (ZV.out w4 (B3.out.trans (b4.mono B3.out.size)))
              have T4 := Lib.hid (OTre.here t4)
              obtain ⟨g2, hg2⟩ : ∃ g, (firstK (olist (bTr 1 301 (rel 0 ps2))) key).2 = g := ⟨_, rfl⟩
              have H5 := rdel_any A2 A' n2 c2 n' c' w4.heap.size ps2 key w4 (BZ4.out.1.more (Nat.le_trans B3.out.size b4.size)) (BZ4.out.2.1.more (Nat.le_trans B3.out.size b4.size)) (Nat.le_refl _) (by omega) ((HB.out w4 BZ4.out.2.2).more BZ4.out.2.2.size)
              rw [← HPX.out.2.list, hg2] at H5
              rw [hg2]
              have H5 := Lib.hid H5
              have hgg : (g2 == g2) = true := beq_self_eq_true _
              clear b4 t4 H4 hg2
              go_wp2_with fail
              (with_reducible refine H5.out.mono ?_)
              rintro e w5 ⟨A5, n5, c5, rfl, h5, p5, b5⟩
              have hcn := HPX.out.2.dels HRS.out o4 key
              have B5 := Lib.hid (B4.out.trans (b5.mono B4.out.size))
              have BZ5 := Lib.hid (ZV.out w5 (B3.out.trans (B5.out.mono B3.out.size)))
              have h7 : ∀ p ∈ delS key ps2, p.key.length ≤ 600 := fun p hp => by have := HK2.out p (delS_sub p hp); omega
              have h8 : ∀ p ∈ delS key ps2, 0 ≤ p.val ∧ p.val ≤ 18446744073709551615 := fun p hp => HV2.out p (delS_sub p hp)
              have h9 : Kps w5 w5.heap.size (delS key ps2) := fun p hp => (BZ5.out.2.1.more (Nat.le_trans B3.out.size B5.out.size)) p (delS_sub p hp)
              have h10 : n5 ≤ 300 := by
                have h1 := p5.1
                have h2 := delS_len key ps2
                have h3 := HN2.out
                omega
              have H6 := Lib.hid (pas_any (c := c5) (HTB.out w5 BZ5.out.2.2) (T4.out.below b5) p5 h9 (Nat.le_refl _) h10 h5 (delS_rise HRS.out) h7 h8 hcn)
              have HA5 := Lib.hid (fun (V : World) (h : Below w5.heap.size w5 V) => HA3.out V (B5.out.trans (h.mono B5.out.size)))
              clear hcn p5 b5 h7 h8 h9 h10 h5 H5 T4
              go_wp2_with fail
              (with_reducible refine H6.out.mono ?_)
              rintro e w6 ⟨rfl, b6⟩
              have H7 := Lib.hid (HA5.out w6 b6)
              have B6 := Lib.hid (B5.out.trans (b6.mono B5.out.size))
              clear b6 H6
              go_wp2_with fail
              (with_reducible refine H7.out.mono ?_)
              rintro e w7 ⟨rfl, b7⟩
              have B7 := Lib.hid (B6.out.trans (b7.mono B6.out.size))
              have H8 := Lib.hid (HL3.out w7 B7.out)
              clear b7 H7
              go_wp2_with fail
              (with_reducible refine H8.out.mono ?_)
              rintro e w8 ⟨rfl, b8⟩
              have B8 := Lib.hid (HZ3.out w8 (B7.out.trans (b8.mono B7.out.size)))
              clear b8 H8
              go_wp2_with fail
              go_ret
              exact ⟨rfl, B8.out⟩
          · try (exfalso; have h4 := of_decide_eq_false i4; omega)
            all_goals
              have H4 := Lib.hid (HB2.out hs)
              clear hs
              go_wp2_with fail
              (with_reducible refine H4.out.mono ?_)
              rintro e w4 ⟨rfl, rfl⟩
              have H5 := Lib.hid (HA3.out w4 (Below.refl _ _))
              go_wp2_with fail
              (with_reducible refine H5.out.mono ?_)
              rintro e w5 ⟨rfl, b5⟩
              have H6 := Lib.hid (HL3.out w5 b5)
              have B5 := Lib.hid b5
              clear b5
              go_wp2_with fail
              (with_reducible refine H6.out.mono ?_)
              rintro e w6 ⟨rfl, b6⟩
              have B6 := Lib.hid (HZ3.out w6 (B5.out.trans (b6.mono B5.out.size)))
              clear b6
              go_wp2_with fail
              go_ret
              exact ⟨rfl, B6.out⟩
set_option maxRecDepth 100000 in
theorem lifted (os : Os) (started : os.Started) (H : Type) (enc : TypeId × Value → H) :
    ReturnsInHanded {} Tryz.checked os 3 .any (fun w args => (Rows.delIsSpec.pre enc Tryz.prog Tryz.f3 [] false w args ∧ laidMetH Tryz.prog laid3 w) ∧ sizedMet enc Tryz.prog Tryz.f3 (OpenSpec.ofChange Rows.delIsSpec) false w args) (Rows.delIsSpec.post enc Tryz.prog Tryz.f3 false true false false) := by
  refine returnsInHanded_of_change_and (C := Tryz.checked) (X := fun w _ => laidMetH Tryz.prog laid3 w) (fun _ _ _ hh h => h.of_heap hh) own started (by kernel_rfl) Tryz.func3
    (ChangeSpec.witness_shaped (enc := enc) (C := Tryz.checked) (os := os) (X := fun w _ => laidMetH Tryz.prog laid3 w) false (World.doorLaid Tryz.prog 400 os) #[.slice none 0 0, .slice none 0 0, .int .u64 0] 8 rfl (World.shaped_of_RefB (by kernel_rfl) (by kernel_rfl)) (by kernel_rfl) (by kernel_rfl) (by kernel_rfl) (door_met3 os _)) ?_
  intro W base args ds gs before hval0 hW _ _ hL _
  have hval : ∀ (j : Nat) t v, Tryz.f3.params[j]? = some t → args[j]? = some v → Value.okWide Tryz.prog W .any base t v := hval0
  have hW' := hW
  obtain ⟨p, q, hA0, hV, rfl, hfz, hnd⟩ := hW
  have hA : DataW.TrodAll enc Tryz.prog W 0 (fun _ => true) true Tryz.f3.params.toList args.toList ds p := hA0
  rw [Tryz.params3] at hA hval
  obtain ⟨v0, vs0, d0, ds0, p0, q0, hargs, rfl, rfl, h0, r0⟩ := trodAll_cons hA
  obtain ⟨v1, vs1, d1, ds1, p1, q1, rfl, rfl, rfl, h1, r1⟩ := trodAll_cons r0
  obtain ⟨v2, vs2, d2, ds2, p2, q2, rfl, rfl, rfl, h2, r2⟩ := trodAll_cons r1
  obtain ⟨rfl, rfl, rfl⟩ := trodAll_nil r2
  obtain rfl : args = #[v0, v1, v2] := by cases args; simp_all
  obtain ⟨rfl, rfl⟩ := trodVars_none hV
  have k0 := h0
  have lt0 : ∀ x ∈ p0, x.block < W.heap.size := by obtain ⟨m, hm⟩ := k0; exact DataW.trod_lt m _ _ _ hm
  have k1 := h1
  have lt1 : ∀ x ∈ p1, x.block < W.heap.size := by obtain ⟨m, hm⟩ := k1; exact DataW.trod_lt m _ _ _ hm
  have k2 := h2
  have lt2 : ∀ x ∈ p2, x.block < W.heap.size := by obtain ⟨m, hm⟩ := k2; exact DataW.trod_lt m _ _ _ hm
  obtain ⟨A0, n0, c0, l0, rfl, b0, kp0, nc0, vl0⟩ := open_kps (hval 0 22 v0 rfl rfl) h0
  obtain ⟨A1, n1, c1, l1, rfl, b1, nc1⟩ := open_byt (hval 1 23 v1 rfl rfl) h1
  obtain ⟨x2, rfl, _, _, wx2⟩ := open_int Tryz.underlying24 (hval 2 24 v2 rfl rfl) h2
  clear hA0 hval0
  refine (walk A0 n0 c0 l0 A1 n1 c1 l1 x2 W (of_laid3 hL) b0 kp0 nc0 vl0 b1 nc1 wx2).mono fun e W' ⟨he, bel⟩ => ?_
  subst he
  exact ⟨_, rfl, _, _, _, [], _, [], hW', trodAll_mk1 (shut_bool Tryz.underlying4 _), (trodAll_cons_mk (Below.trod laidOut (by kernel_rfl) (of_decide_eq_true (by kernel_rfl)) k0 bel lt0) (trodAll_cons_mk (Below.trod laidOut (by kernel_rfl) (of_decide_eq_true (by kernel_rfl)) k1 bel lt1) (trodAll_cons_mk (Below.trod laidOut (by kernel_rfl) (of_decide_eq_true (by kernel_rfl)) k2 bel lt2) trodAll_mk0))), rfl, bel.frame _, fun h => by cases h⟩

set_option maxRecDepth 100000 in
theorem proved : Rows.DelIsSaid :=
  OpenClaim.holds_of_wide 3 Tryz.f3 rfl rfl rfl rfl rfl rfl rfl ⟨rfl, rfl, rfl, rfl, rfl⟩ rfl rfl rfl rfl rfl (by kernel_rfl) Tryz.func3 (by kernel_rfl)
    (of_decide_eq_true (by kernel_rfl)) (by unfold Func.isWrapper; first | (rw [if_pos (by decide +kernel)]; kernel_rfl) | (rw [if_neg (by decide +kernel)]; exact ⟨rfl, rfl⟩))
    (fun os started H enc _ => lifted os started H enc)
set_option maxRecDepth 100000 in
theorem card_holds : Rows.DelIsCardSaid :=
  Claim7.holds_tied_plain_at .later [] [.data, .data, .data] true _ false
    proved (fun _ h => by cases h) (by kernel_rfl) (fun _ h => by cases h) delIs_row_tie rfl ⟨rfl, rfl⟩ (by kernel_rfl) rfl
    (fun f fn hf hfn => by
      obtain rfl : f = 3 := Option.some.inj ((show Tryz.prog.funcNamed "spunyarn/spunyarnlaw16.DelIs" = some 3 by kernel_rfl).symm.trans hf) |>.symm
      obtain rfl : fn = Tryz.f3 := (Option.some.inj (Tryz.func3.symm.trans hfn)).symm
      exact ⟨by kernel_rfl, fun j t ht => by
        rw [Tryz.params3] at ht
        have hm : t ∈ [22, 23, 24] := by simpa using Array.mem_of_getElem? ht
        have hall : ([22, 23, 24].all fun u => !Tryz.prog.wantsStandIn u) = true := by kernel_rfl
        exact (show Tryz.prog.wantsStandIn t = false by simpa using List.all_eq_true.1 hall t hm)⟩)
    (by kernel_rfl)
end Go.Proofs.YtcbgieoiefbeiaaGreatDoor.delIs
