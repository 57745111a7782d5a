/-
  Proved here: how many nodes are gone into, where any key is looked for in the canonical tree of any pairs, is the document's, not more than the key has bytes, and one, and not more than the tree is deep; nothing that came in is turned. No condition.
-/
import Derived.Test.YtfmkhafpbfmadaaGreatFnAlive
import Derived.Test.YtfmkhafpbfmadaaGreatFnCan
import Derived.Test.YtfmkhafpbfmadaaGreatFnStep
import Derived.Test.YtfmkhafpbfmadaaGreatRow
namespace Go.Proofs.YtfmkhafpbfmadaaGreat.findSteps
open Go.ChangeShapes Go.WideShapes Go.ChangeAt Go.RowKit

set_option maxRecDepth 100000 in
set_option maxHeartbeats 8000000 in
theorem walk (A : Option Addr) (n c : Nat) (ps : List PV) (A' : Option Addr) (n' c' : Nat) (key : List UInt8) (W : World) (ha : Prs W W.heap.size A n ps) (hk : Kps W W.heap.size ps) (_ : n ≤ c) (_ : ∀ p ∈ ps, 0 ≤ p.val ∧ p.val ≤ 18446744073709551615) (hb : Byt W W.heap.size A' n' key) (hnc' : n' ≤ c') :
    Calls Tryz.prog 5 #[.slice A n c, .slice A' n' c'] W fun e w' => e = .returned (.bool true) ∧ Below W.heap.size W w' := by
  have hn9 : n' ≤ 9223372036854775807 := by have := hb.2.1; unfold maxLen at this; omega
  have H1 := Lib.hid (ffar_any A A' n c n' c' W.heap.size ps W ha (Nat.le_refl _) hn9)
  have HA := Lib.hid ha
  have HK := Lib.hid hk
  have HB := Lib.hid (fun V (h : Below W.heap.size W V) => hb.below h)
  have HC := Lib.hid hnc'
  have HKL := Lib.hid hb.1
  have hln : ps.length = n := ha.1
  have HLN := Lib.hid hln
  clear ha hk hb hln hnc'
  go_enter Tryz.func5, Tryz.ntmps5
  go_wp2_with fail
  (with_reducible refine H1.out.mono ?_)
  rintro e w1 ⟨rfl, b1⟩
  have B1 := Lib.hid b1
  obtain ⟨fb, hfb⟩ : ∃ b, farF ps n' = b := ⟨_, rfl⟩
  rw [hfb]
  have HFB := Lib.hid hfb
  clear b1 hfb H1
  cases fb with
  | true =>
    have H2 := Lib.hid (falive_any w1)
    go_wp2_with fail
    (with_reducible refine H2.out.mono ?_)
    rintro e w2 ⟨rfl, b2⟩
    have B2 := Lib.hid (B1.out.trans (b2.mono B1.out.size))
    clear b2
    go_wp2_with fail
    go_ret
    exact ⟨rfl, B2.out⟩
  | false =>
    obtain ⟨f1, f2, f3⟩ := farF_no HFB.out
    have hn300 : n ≤ 300 := by have := HLN.out; omega
    have F2 := Lib.hid f2
    have HS := Lib.hid (rsort_any A n c W.heap.size ps w1 (HA.out.below B1.out) (HK.out.below B1.out) B1.out.size (by omega))
    clear f1 f2
    go_wp2_with fail
    (with_reducible refine HS.out.mono ?_)
    rintro e w2 ⟨A2, c2, rfl, hc2, p2, g2, b2⟩
    obtain ⟨ps2, hps2⟩ : ∃ l, sortS ps = l := ⟨_, rfl⟩
    obtain ⟨n2, hn2⟩ : ∃ k, (sortS ps).length = k := ⟨_, rfl⟩
    have hn2a : n2 ≤ 300 := by
      have := sortS_len ps
      have := HLN.out
      omega
    have hrs : Rsn ps2 := hps2 ▸ sortS_rise ps
    have hk2 : ∀ p ∈ ps2, p.key.length ≤ 300 := hps2 ▸ sortS_all (P := fun p => p.key.length ≤ 300) (fun _ _ h _ => h) F2.out
    have hkp : ∀ V, Below W.heap.size W V → Kps V W.heap.size ps2 := fun V hb => hps2 ▸ Kps.sort (HK.out.below hb)
    rw [hn2] at p2 g2 hc2 ⊢
    rw [hps2] at p2 hn2
    have b2' : Below W.heap.size W w2 := B1.out.trans (b2.mono B1.out.size)
    have ZV := Lib.hid (fun V (h : Below w2.heap.size w2 V) => show Prs V w2.heap.size A2 n2 ps2 ∧ Kps V w2.heap.size ps2 ∧ Byt V w2.heap.size A' n' key ∧ Below W.heap.size W V from
      have hW : Below W.heap.size W V := b2'.trans (h.mono b2'.size)
      ⟨p2.below h, (hkp V hW).more b2'.size, (HB.out V hW).more b2'.size, hW⟩)
    have HT := Lib.hid (ftree_any A2 n2 c2 w2.heap.size ps2 w2 p2 ((hkp w2 b2').more b2'.size) (Nat.le_refl _) hn2a hrs hk2)
    have HRS := Lib.hid hrs
    have HK2 := Lib.hid hk2
    have HN2 := Lib.hid hn2
    have HC2 := Lib.hid hc2
    clear hps2 hrs hk2 hkp p2 g2 b2 b2' hn2 hc2 HS
    go_wp2_with fail
    (with_reducible refine HT.out.mono ?_)
    rintro e w3 ⟨p, rfl, t3, b3⟩
    have T3 := Lib.hid t3
    have B3 := Lib.hid b3
    clear t3 b3 HT
    obtain ⟨m, hm⟩ : ∃ m, (ogo (canT ps2) key 0).length = m := ⟨_, rfl⟩
    have H5 := fsteps_any (canT ps2) p A' n' c' key w3 T3.out ((ZV.out w3 B3.out).2.2.1.more B3.out.size) HC.out (by omega)
    rw [hm] at H5
    have H5 := Lib.hid H5
    have HM := Lib.hid hm
    clear hm
    go_wp2_with fail
    (with_reducible refine H5.out.mono ?_)
    rintro e w4 ⟨rfl, b4⟩
    have B4 := Lib.hid (B3.out.trans (b4.mono B3.out.size))
    have T4 := Lib.hid (T3.out.below b4)
    have H6 := Lib.hid (rBuild_any 301 n2 c2 w2.heap.size A2 ps2 w4 (ZV.out w4 B4.out).1 (ZV.out w4 B4.out).2.1 B4.out.size (by omega) HC2.out (fun p hp => by have := HK2.out p hp; omega) (rsn_rel HRS.out))
    clear b4 H5 T3
    go_wp2_with fail
    (with_reducible refine H6.out.mono ?_)
    rintro e w5 ⟨cs, rfl, o5, b5⟩
    have B5 := Lib.hid (B4.out.trans (b5.mono B4.out.size))
    have T5 := Lib.hid (T4.out.below b5)
    have H7 := osteps_any (t := canT ps2) o5 (ZV.out w5 B5.out).2.2.1 B5.out.size HC.out (by omega)
    rw [HM.out] at H7
    have H7 := Lib.hid H7
    have hm1 : m ≤ n' + 1 := by
      have h1 := ogo_len (canT ps2) key 0
      have h2 := HM.out
      have h3 := HKL.out
      omega
    have ew : IntKind.i64.wrap ((n' : Int) + 1) = (n' : Int) + 1 := by rw [IntKind.wrap_i64]; omega
    have u1 : ((m : Int) == (m : Int)) = true := beq_self_eq_true _
    have u2 : (m : Int) ≤ (n' : Int) + 1 := by omega
    clear o5 b5 H6 T4
    go_wp2_with fail
    (with_reducible refine H7.out.mono ?_)
    rintro e w6 ⟨rfl, b6⟩
    have B6 := Lib.hid (B5.out.trans (b6.mono B5.out.size))
    have T6 := T5.out.below b6
    have H8 := cdepth_any (canT ps2) p w6 T6 (canT_fits HRS.out HK2.out (by have := HN2.out; omega))
    obtain ⟨dp, hdp⟩ : ∃ d, dpV (otvis (canT ps2)) = d := ⟨_, rfl⟩
    have u3 : (m : Int) ≤ (dp : Int) := by
      have h1 := oLen_dep (canT ps2) key 0
      have h2 := HM.out
      omega
    rw [hdp] at H8
    have H8 := Lib.hid H8
    clear hdp b6 H7 T5 T6
    go_wp2_with fail
    (with_reducible refine H8.out.mono ?_)
    rintro e w7 ⟨rfl, b7⟩
    have B7 := Lib.hid (B6.out.trans (b7.mono B6.out.size))
    have H9 := Lib.hid (falive_any w7)
    clear b7 H8
    go_wp2_with fail
    (with_reducible refine H9.out.mono ?_)
    rintro e w8 ⟨rfl, b8⟩
    have B8 := Lib.hid (ZV.out w8 (B7.out.trans (b8.mono B7.out.size))).2.2.2
    clear b8 H9
    go_wp2_with fail
    go_ret
    exact ⟨rfl, B8.out⟩
set_option maxRecDepth 100000 in
theorem lifted (os : Os) (started : os.Started) (H : Type) (enc : TypeId × Value → H) :
    ReturnsInHanded {} Tryz.checked os 5 .any (Rows.findStepsSpec.pre6 enc Tryz.prog Tryz.f5 Rows.findStepsRow.domain false) (Rows.findStepsSpec.post enc Tryz.prog Tryz.f5 false true false false) := by
  refine returnsInHanded_of_change (C := Tryz.checked) own started (by kernel_rfl) Tryz.func5
    (ChangeSpec.witness6 (enc := enc) (C := Tryz.checked) false ⟨#[], #[.slice none 0 0, .slice none 0 0], []⟩ 8 (by kernel_rfl) (by kernel_rfl) (by kernel_rfl) (by kernel_rfl)) ?_
  intro W base args ds gs before hval0 hW hcnd _
  have hval : ∀ (j : Nat) t v, Tryz.f5.params[j]? = some t → args[j]? = some v → Value.okWide Tryz.prog W .any base t v := hval0
  have hW' := hW
  obtain ⟨p, q, hA0, hV, rfl, hfz, hnd⟩ := hW
  have hA : DataW.TrodAll enc Tryz.prog W 0 (fun _ => true) true Tryz.f5.params.toList args.toList ds p := hA0
  rw [Tryz.params5] at hA hval
  obtain ⟨v0, vs0, d0, ds0, p0, q0, hargs, rfl, rfl, h0, r0⟩ := trodAll_cons hA
  obtain ⟨v1, vs1, d1, ds1, p1, q1, rfl, rfl, rfl, h1, r1⟩ := trodAll_cons r0
  obtain ⟨rfl, rfl, rfl⟩ := trodAll_nil r1
  obtain rfl : args = #[v0, v1] := by cases args; simp_all
  obtain ⟨rfl, rfl⟩ := trodVars_none hV
  have k0 := h0
  have lt0 : ∀ x ∈ p0, x.block < W.heap.size := by obtain ⟨m, hm⟩ := k0; exact DataW.trod_lt m _ _ _ hm
  have k1 := h1
  have lt1 : ∀ x ∈ p1, x.block < W.heap.size := by obtain ⟨m, hm⟩ := k1; exact DataW.trod_lt m _ _ _ hm
  obtain ⟨A0, n0, c0, l0, rfl, b0, kp0, nc0, vl0⟩ := open_kps (hval 0 22 v0 rfl rfl) h0
  obtain ⟨A1, n1, c1, l1, rfl, b1, nc1⟩ := open_byt (hval 1 23 v1 rfl rfl) h1
  clear hA0 hval0
  refine (walk A0 n0 c0 l0 A1 n1 c1 l1 W b0 kp0 nc0 vl0 b1 nc1).mono fun e W' ⟨he, bel⟩ => ?_
  subst he
  exact ⟨_, rfl, _, _, _, [], _, [], hW', trodAll_mk1 (shut_bool Tryz.underlying4 _), (trodAll_cons_mk (Below.trod laidOut (by kernel_rfl) (of_decide_eq_true (by kernel_rfl)) k0 bel lt0) (trodAll_cons_mk (Below.trod laidOut (by kernel_rfl) (of_decide_eq_true (by kernel_rfl)) k1 bel lt1) trodAll_mk0)), rfl, bel.frame _, fun h => by cases h⟩

set_option maxRecDepth 100000 in
theorem proved : Rows.FindStepsSaid :=
  OpenClaim.holds_of_wide 5 Tryz.f5 rfl rfl rfl rfl rfl rfl rfl ⟨rfl, rfl, rfl, rfl, rfl⟩ rfl rfl rfl rfl rfl (by kernel_rfl) Tryz.func5 (by kernel_rfl)
    (of_decide_eq_true (by kernel_rfl)) (by unfold Func.isWrapper; first | (rw [if_pos (by decide +kernel)]; kernel_rfl) | (rw [if_neg (by decide +kernel)]; exact ⟨rfl, rfl⟩))
    (fun os started H enc _ => lifted os started H enc)
end Go.Proofs.YtfmkhafpbfmadaaGreat.findSteps
