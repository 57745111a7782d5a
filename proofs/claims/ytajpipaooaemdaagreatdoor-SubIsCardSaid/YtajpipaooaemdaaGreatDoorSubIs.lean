/-
  Proved here: the part of any tree of any pairs under any bytes, with them and without them, is the canonical one of those pairs, whoever owns it, one node is made at most, the first tree is what it was, and its longest key is the longest; nothing that came in is turned. The one condition is the card's own: the table of the powers of ten lies as the program's library lays it (tied).
-/
import Derived.Test.YtajpipaooaemdaaGreatDoorSubA
import Derived.Test.YtajpipaooaemdaaGreatDoorSubU
import Derived.Test.YtajpipaooaemdaaGreatDoorRow
import Derived.Test.YtajpipaooaemdaaGreatDoorEqs
import Derived.Test.YtajpipaooaemdaaGreatDoorNd
import Derived.Test.YtajpipaooaemdaaGreatDoorTie
import Derived.Test.YtajpipaooaemdaaGreatDoorCards
import Derived.SevenTiedAt
import Derived.Deep.DeepCutAuto
namespace Go.Proofs.YtajpipaooaemdaaGreatDoor.subIs
open Go.ChangeShapes Go.WideShapes Go.ChangeAt Go.RowKit

set_option maxRecDepth 100000 in
set_option maxHeartbeats 4000000 in
theorem walk (A : Option Addr) (n c : Nat) (ps : List PV) (A' : Option Addr) (n' c' : Nat) (key : List UInt8) (ow : Int) (W : World) (htb : Tb W) (ha : Prs W W.heap.size A n ps) (hk : Kps W W.heap.size ps) (_ : n ≤ c) (hv : ∀ p ∈ ps, 0 ≤ p.val ∧ p.val ≤ 18446744073709551615) (hb : Byt W W.heap.size A' n' key) (hnc' : n' ≤ c') (hwf : (Lit.int IntKind.u64 ow).wf = true) :
    Calls Tryz.prog 3 #[.slice A n c, .slice A' n' c', .int .u64 ow] W fun e w' => e = .returned (.bool true) ∧ Below W.heap.size W w' := by
  have hle : 0 < W.heap.size := htb.lt
  have HTB := Lib.hid (fun (V : World) (h : Below W.heap.size W V) => htb.below h hle)
  have HAL := Lib.hid (fun (V : World) (h : Below W.heap.size W V) => salive_any V (htb.below h hle))
  have HZ := Lib.hid (fun (V : World) (h : Below W.heap.size W V) => h)
  have HA := Lib.hid (fun (V : World) (h : Below W.heap.size W V) => ha.below h)
  have HK := Lib.hid (fun (V : World) (h : Below W.heap.size W V) => hk.below h)
  have HB := Lib.hid (fun (V : World) (h : Below W.heap.size W V) => hb.below h)
  have hn9 : n' ≤ 9223372036854775807 := by have := hb.2.1; unfold maxLen at this; omega
  have H1 := pfar_any A n c W.heap.size 200 ps W ha (Nat.le_refl _) (by omega)
  rw [show ((200 : Nat) : Int) = 200 from rfl] at H1
  have H1 := Lib.hid H1
  have HV := Lib.hid hv
  have HC := Lib.hid hnc'
  have HLN := Lib.hid ha.1
  have HKL := Lib.hid hb.1
  have ho1 : 0 ≤ ow := by
    have h1 : 0 ≤ ow ∧ ow ≤ 18446744073709551615 := by simpa [Lit.wf, IntKind.min, IntKind.max, IntKind.signed, IntKind.bits] using hwf
    exact h1.1
  clear htb ha hk hb hnc' hv hle hwf
  go_enter Tryz.func3, Tryz.ntmps3
  go_wp2_with fail
  (with_reducible refine H1.out.mono ?_)
  rintro e w1 ⟨rfl, b1⟩
  have B1 := Lib.hid b1
  obtain ⟨fb, hfb⟩ : ∃ b, farP ps 200 = b := ⟨_, rfl⟩
  rw [hfb]
  have HFB := Lib.hid hfb
  clear b1 hfb H1
  by_cases hfar : fb = true ∨ 600 < n'
  · have H2 := Lib.hid (HAL.out w1 B1.out)
    have hgo : ∀ (e : Ending) (w' : World), (e = .returned (.bool true) ∧ Below w1.heap.size w1 w') → e = .returned (.bool true) ∧ Below W.heap.size W w' := fun e w' h => ⟨h.1, HZ.out w' (B1.out.trans (h.2.mono B1.out.size))⟩
    have HGO := Lib.hid hgo
    clear hgo
    cases fb with
    | true =>
      clear hfar
      go_wp2_with fail
      (with_reducible refine H2.out.mono ?_)
      rintro e w2 ⟨rfl, b2⟩
      have B2 := Lib.hid (HGO.out _ _ ⟨rfl, b2⟩).2
      clear b2
      go_wp2_with fail
      go_ret
      exact ⟨rfl, B2.out⟩
    | false =>
      have hq : 600 < n' := by
        rcases hfar with q | q
        · cases q
        · exact q
      have i1 : decide ((600 : Int) < (n' : Int)) = true := decide_eq_true (by omega)
      clear hfar hq
      go_wp2_with fail
      (with_reducible refine H2.out.mono ?_)
      rintro e w2 ⟨rfl, b2⟩
      have B2 := Lib.hid (HGO.out _ _ ⟨rfl, b2⟩).2
      clear b2
      go_wp2_with fail
      go_ret
      exact ⟨rfl, B2.out⟩
  · have hfb : fb = false := by
      cases fb with
      | false => rfl
      | true => exact absurd (.inl rfl) hfar
    subst hfb
    have hn6 : n' ≤ 600 := by
      rcases Nat.lt_or_ge 600 n' with q | q
      · exact absurd (.inr q) hfar
      · exact q
    have i1 : decide ((600 : Int) < (n' : Int)) = false := decide_eq_false (by omega)
    obtain ⟨f1, f2⟩ := farP_no HFB.out
    have hn200 : n ≤ 200 := by have := HLN.out; omega
    have F2 := Lib.hid f2
    have HS := Lib.hid (rsort_any A n c W.heap.size ps w1 (HA.out w1 B1.out) (HK.out w1 B1.out) B1.out.size (by omega))
    clear hfar f1 f2
    go_wp2_with fail
    (with_reducible refine HS.out.mono ?_)
    rintro e w2 ⟨A2, c2, rfl, hc2, p2, _, b2⟩
    obtain ⟨ps2, hps2⟩ : ∃ l, sortS ps = l := ⟨_, rfl⟩
    obtain ⟨n2, hn2⟩ : ∃ k, (sortS ps).length = k := ⟨_, rfl⟩
    have hn2a : n2 ≤ 200 := by
      have := (sortS_len ps).1
      have := HLN.out
      omega
    have hrs : Rsn ps2 := hps2 ▸ sortS_rise ps
    have hk2 : ∀ p ∈ ps2, p.key.length ≤ 300 := hps2 ▸ sortS_all (P := fun p => p.key.length ≤ 300) (fun _ _ h _ => h) F2.out
    have hv2 : ∀ p ∈ ps2, 0 ≤ p.val ∧ p.val ≤ 18446744073709551615 := hps2 ▸ sortS_all (P := fun p => 0 ≤ p.val ∧ p.val ≤ 18446744073709551615) (fun _ _ _ h => h) HV.out
    rw [hn2] at p2 hc2 ⊢
    rw [hps2] at p2 hn2
    have b2' : Below W.heap.size W w2 := B1.out.trans (b2.mono B1.out.size)
    have hkp : ∀ V, Below W.heap.size W V → Kps V W.heap.size ps2 := fun V hb => hps2 ▸ Kps.sort (HK.out V hb)
    have ZV := Lib.hid (fun V (h : Below w2.heap.size w2 V) => show Prs V w2.heap.size A2 n2 ps2 ∧ Kps V w2.heap.size ps2 ∧ Below W.heap.size W V ∧ Byt V w2.heap.size A' n' key from
      have hW : Below W.heap.size W V := b2'.trans (h.mono b2'.size)
      ⟨p2.below h, (hkp V hW).more b2'.size, hW, (HB.out V hW).more b2'.size⟩)
    have HT := Lib.hid (ptree_any (o := 1) (by omega) A2 n2 c2 w2.heap.size ps2 w2 p2 ((hkp w2 b2').more b2'.size) (Nat.le_refl _) (by omega) hrs hk2)
    have HRS := Lib.hid hrs
    have HK2 := Lib.hid hk2
    have HV2 := Lib.hid hv2
    have HC2 := Lib.hid hc2
    have HN2 := Lib.hid (show ps2.length = n2 from p2.1)
    have HZW := Lib.hid b2'.size
    have HKB := Lib.hid (HB.out w2 b2')
    clear hps2 hrs hk2 hv2 hkp p2 b2 b2' hn2 hc2 HS
    go_wp2_with fail
    (with_reducible refine HT.out.mono ?_)
    rintro e w3 ⟨p, rfl, t3, b3⟩
    obtain ⟨t, ht⟩ : ∃ t, bTr 1 301 (rel 0 ps2) = t := ⟨_, rfl⟩
    have hcn := bTr_ocan 1 HRS.out 301 (fun p hp => by have := HK2.out p hp; omega)
    rw [ht] at t3 hcn
    have HPX := Lib.hid (show oall (fun q => q = 1) t ∧ OCan ps2 t from ⟨hcn.2, hcn.1⟩)
    have TW3 := Lib.hid t3
    obtain ⟨mb, hmb⟩ : ∃ z, w3.heap.size = z := ⟨_, rfl⟩
    obtain ⟨W4, hW4⟩ : ∃ V, w3.alloc (.cells #[.int .i64 0] 36) = V := ⟨_, rfl⟩
    have b4 : Below mb w3 W4 := by rw [← hW4, ← hmb]; exact (Below.refl _ _).alloc (Nat.le_refl _) _
    have s4 : W4.heap.size = mb + 1 := by rw [← hW4, ← hmb]; simp
    have m4 : Lst W4 mb [.int .i64 0] := by rw [← hW4, ← hmb]; exact Blk.new w3 _ _
    have HM4 := Lib.hid m4
    have HS4 := Lib.hid s4
    have hz23 : w2.heap.size ≤ mb := by rw [← hmb]; exact b3.size
    have Z23 := Lib.hid hz23
    have B34 := Lib.hid (fun V (h : Kept (fun i => (some mb : Option Nat) = some i) W4 V) => show Below mb w3 V from b4.trans (h.below (by omega) (fun g q => by injection q with q; omega)))
    have VV := Lib.hid (fun V (h : Kept (fun i => (some mb : Option Nat) = some i) W4 V) => show Prs V w2.heap.size A2 n2 ps2 ∧ Kps V w2.heap.size ps2 ∧ Below W.heap.size W V ∧ Byt V w2.heap.size A' n' key from ZV.out V (b3.trans ((B34.out V h).mono hz23)))
    have T3 := Lib.hid (fun V (h : Kept (fun i => (some mb : Option Nat) = some i) W4 V) => show OTre V (· < mb) t p from by
      have h1 := OTow.hereS t3
      rw [hmb] at h1
      exact OTre.belowS h1 (fun i q => q) (B34.out V h))
    have HA3 := Lib.hid (fun (V : World) (h : Kept (fun i => (some mb : Option Nat) = some i) W4 V) => pas9_any (c := c2) (HTB.out V (VV.out V h).2.2.1) (OTre.mono (T3.out V h) (fun i q => by have := h.size; omega)) (VV.out V h).1 (VV.out V h).2.1 (Nat.le_trans hz23 (by have := h.size; omega)) (by omega) HC2.out HRS.out (fun p hp => by have := HK2.out p hp; omega) HV2.out HPX.out.2)
    have HL3 := Lib.hid (fun (V : World) (h : Kept (fun i => (some mb : Option Nat) = some i) W4 V) => HAL.out V (VV.out V h).2.2.1)
    have HOW := Lib.hid (fun (V : World) (h : Kept (fun i => (some mb : Option Nat) = some i) W4 V) => show OTow V 1 (fun _ => False) t p (fun i => w2.heap.size ≤ i ∧ i < w3.heap.size) from OTow.onB TW3.out (by rw [hmb]; exact B34.out V h))
    have HLL : olng t ≤ 300 := by
      have h1 := HPX.out.2.lng
      obtain ⟨_, _, h3⟩ := lngS_all ps2
      rcases h3 with h3 | ⟨z, hz, h3⟩
      · omega
      · have := HK2.out z hz
        omega
    have HLL := Lib.hid HLL
    have HW4 := Lib.hid hW4
    have HMB := Lib.hid hmb
    clear t3 b3 b4 s4 m4 hz23 hcn ht HT hW4
    go_wp2_with fail
    try rw [HW4.out]
    try rw [HMB.out]
    have K0 : Kept (fun i => (some mb : Option Nat) = some i) W4 W4 := Kept.refl _ _
    by_cases ho0 : ow = 0
    · subst ho0
      have H5 := Lib.hid (sub_zero p A' n' c' (.pointer (some ⟨mb, 0, none⟩)) W4)
      have H6 := Lib.hid (count_any (g := mb) (m := 0) (w := W4) (HM4.out.cell 0))
      have H7 := Lib.hid (strip_zero p A' n' c' (.pointer (some ⟨mb, 0, none⟩)) W4)
      have H8 := Lib.hid (HL3.out W4 K0)
      have Z8 := Lib.hid (VV.out W4 K0).2.2.1
      clear K0
      go_wp2_with fail
      (with_reducible refine H5.out.mono ?_)
      rintro e w5 ⟨rfl, rfl⟩
      go_wp2_with fail
      (with_reducible refine H6.out.mono ?_)
      rintro e w6 ⟨rfl, rfl⟩
      go_wp2_with fail
      (with_reducible refine H7.out.mono ?_)
      rintro e w7 ⟨rfl, rfl⟩
      go_wp2_with fail
      (with_reducible refine H6.out.mono ?_)
      rintro e w8 ⟨rfl, rfl⟩
      go_wp2_with fail
      (with_reducible refine H8.out.mono ?_)
      rintro e w9 ⟨rfl, b9⟩
      have B9 := Lib.hid (Z8.out.trans (b9.mono Z8.out.size))
      clear b9
      go_wp2_with fail
      go_ret
      exact ⟨rfl, B9.out⟩
    · have h0 : (ow == 0) = false := by simpa using ho0
      have ho : 1 ≤ ow := by omega
      have HO := Lib.hid ho
      have hzz := Z23.out
      have hsz4 := HS4.out
      have hmn : ∀ i, (some mb : Option Nat) = some i → ¬ (i < mb) ∧ w2.heap.size ≤ i := fun i hi => by injection hi with hi; omega
      have HMN := Lib.hid hmn
      have HBK := Lib.hid (show ∀ p ∈ ps2, p.key.length ≤ 1000000 from fun p hp => by have := HK2.out p hp; omega)
      have H5 : Calls Tryz.prog 10 #[.pointer p, .slice A' n' c', .int .u64 ow, .pointer (some ⟨mb, 0, none⟩)] W4 (TwPost (· < mb) W4 p (some mb) [] 0 (subS key ps2) (topB t key ∨ t = none)) :=
        sub_any (m := some mb) (cnt := 0) (B := w2.heap.size) ho (T3.out W4 K0) (fun i q => by have q : i < mb := q; omega) HPX.out.2 HRS.out HBK.out (fun g hg => by injection hg with hg; subst hg; exact ⟨HM4.out, by omega, by omega⟩) hmn (VV.out W4 K0).2.2.2 (by omega) HC.out (by omega)
      have H5 := Lib.hid H5
      clear hmn ho ho0 hzz hsz4 K0
      go_wp2_with fail
      (with_reducible refine H5.out.mono ?_)
      rintro e w5 ⟨p5, T5, j5, rfl, t5, c5, q5, j50, j51, k5, l5⟩
      have m5 := l5 mb rfl
      rw [Int.zero_add] at m5
      have hzz := Z23.out
      have hsz4 := HS4.out
      have hsz5 := k5.size
      have H6 : Calls Tryz.prog 12 #[.pointer p, .slice A' n' c', .int .u64 ow, .pointer (some ⟨mb, 0, none⟩)] w5 (TwPost (· < mb) w5 p (some mb) [] j5 ((subS key ps2).map (stp n')) (key = [])) :=
        strip_any (m := some mb) (cnt := j5) (B := w2.heap.size) HO.out (T3.out w5 k5) (fun i q => by have q : i < mb := q; omega) HPX.out.2 HRS.out HBK.out (stp_kv HKB.out.1) (fun g hg => by injection hg with hg; subst hg; exact ⟨m5, by omega, by omega⟩) HMN.out (VV.out w5 k5).2.2.2 (by omega) HC.out (by omega)
      have H6 := Lib.hid H6
      have HC5 := Lib.hid (count_any (g := mb) (m := j5) (w := w5) (m5.cell 0))
      have T5 := Lib.hid t5
      have C5 := Lib.hid c5
      have Q5 := Lib.hid q5
      have K5 := Lib.hid k5
      have J5 := Lib.hid (And.intro j50 j51)
      have S5 := Lib.hid hsz5
      clear t5 c5 q5 k5 l5 m5 hzz hsz4 hsz5 j50 j51 H5
      go_wp2_with fail
      (with_reducible refine HC5.out.mono ?_)
      rintro e w6 ⟨rfl, rfl⟩
      go_wp2_with fail
      (with_reducible refine H6.out.mono ?_)
      rintro e w7 ⟨p7, T7, j7, rfl, t7, c7, q7, j70, j71, k7, l7⟩
      have m7 := l7 mb rfl
      have k07 : Kept (fun i => (some mb : Option Nat) = some i) W4 w7 := K5.out.trans k7
      have hzz := Z23.out
      have hsz4 := HS4.out
      have hsz7 := k07.size
      have U5 := Lib.hid (show OTre w7 (· < w7.heap.size) _ p5 from OTre.mono (OTre.keptS T5.out k7 (fun i q e => by injection e with e; have := HS4.out; omega)) (fun i q => by have := k7.size; omega))
      have U7 := Lib.hid (show OTre w7 (· < w7.heap.size) _ p7 from OTre.mono t7 (fun i q => by have := k7.size; omega))
      have C7 := Lib.hid c7
      have Q7 := Lib.hid q7
      have K7 := Lib.hid k07
      have J7 := Lib.hid (And.intro j70 j71)
      have M7 := Lib.hid m7
      have H8 := Lib.hid (rsub_any A2 A' n2 c2 n' c' w2.heap.size ps2 key w7 (VV.out w7 k07).1 (VV.out w7 k07).2.1 (by omega) (by omega) (VV.out w7 k07).2.2.2)
      clear t7 c7 q7 k7 l7 m7 k07 hzz hsz4 hsz7 j70 j71 H6 HC5
      go_wp2_with fail
      (with_reducible refine H8.out.mono ?_)
      rintro e w8 ⟨A8, n8, c8, rfl, hc8, r8, kp8, b8⟩
      have k08 : Kept (fun i => (some mb : Option Nat) = some i) W4 w8 := K7.out.trans (Kept.of_below b8)
      have H9 := Lib.hid (rstrip_any A2 A' n2 c2 n' c' w2.heap.size ps2 key w8 (VV.out w8 k08).1 (VV.out w8 k08).2.1 (by have := k08.size; have := Z23.out; have := HS4.out; omega) (by omega) (VV.out w8 k08).2.2.2)
      have R8 := Lib.hid (And.intro r8 kp8)
      have HC8 := Lib.hid hc8
      have B8 := Lib.hid b8
      clear r8 kp8 hc8 b8 k08 H8
      go_wp2_with fail
      (with_reducible refine H9.out.mono ?_)
      rintro e w9 ⟨A9, n9, c9, rfl, hc9, r9, kp9, b9⟩
      have B79 := Lib.hid (B8.out.trans (b9.mono B8.out.size))
      have R9 := Lib.hid (And.intro r9 kp9)
      have HC9 := Lib.hid hc9
      have B9 := Lib.hid b9
      have K9 := Lib.hid (show Kept (fun i => (some mb : Option Nat) = some i) W4 w9 from K7.out.trans (Kept.of_below (B8.out.trans (b9.mono B8.out.size))))
      obtain ⟨jj, hjj⟩ : ∃ z, j5 + j7 = z := ⟨_, rfl⟩
      have HCO := Lib.hid (show Calls Tryz.prog 11 #[.pointer (some ⟨mb, 0, none⟩)] w9 fun e w' => e = .returned (.int .i64 jj) ∧ w' = w9 from
        count_any (g := mb) (m := jj) (w := w9) (by
          rw [← hjj]
          exact (Blk.below M7.out (B8.out.trans (b9.mono B8.out.size)) (Blk.lt M7.out)).cell 0))
      obtain ⟨j50, j51⟩ := J5.out
      obtain ⟨j70, j71⟩ := J7.out
      have ewj : IntKind.i64.wrap (jj - j5) = j7 := by rw [IntKind.wrap_i64]; omega
      have d7 : decide ((1 : Int) < j7) = false := decide_eq_false (by omega)
      have d5 : decide ((1 : Int) < j5) = false := decide_eq_false (by omega)
      have HTB5 := Lib.hid (show n8 = n2 → p5 = p ∧ j5 = 0 from fun h => Q5.out (by
        rcases t with _ | T
        · exact .inr rfl
        · refine .inl (topB_of HPX.out.2 (by simp) (fun z hz => ?_))
          have h1 := R8.out.1.1
          have h2 := HN2.out
          have h3 : subS key ps2 = ps2 := (List.filter_sublist (p := fun p : PV => begB p.key key)).eq_of_length (by show (subS key ps2).length = _; omega)
          rw [← h3] at hz
          exact begB_iff.1 (List.mem_filter.1 hz).2))
      have HTB7 := Lib.hid (show n' = 0 → p7 = p from fun h => (Q7.out (List.eq_nil_of_length_eq_zero (by have := HKB.out.1; omega))).1)
      clear r9 kp9 hc9 b9 hjj j50 j51 j70 j71 H9
      go_upto_region 12 with fail
      go_cut [105] (fun v105 wc => v105 = .bool false ∧ Hid (wc = w9))
      case first =>
        have hnn : (n8 = n2 ∧ p5 = p ∧ j5 = 0) ∨ n8 ≠ n2 := by
          by_cases h : n8 = n2
          · exact .inl ⟨h, HTB5.out h⟩
          · exact .inr h
        have hn0 : (n' = 0 ∧ p7 = p) ∨ n' ≠ 0 := by
          by_cases h : n' = 0
          · exact .inl ⟨h, HTB7.out h⟩
          · exact .inr h
        rcases hnn with ⟨h1, h2, h3⟩ | h1
        · have e1 : ((n8 : Int) == (n2 : Int)) = true := by simp [h1]
          have e2 : (j5 != 0) = false := by simp [h3]
          have e3 := fun V => show (binOp .neq 28 (.pointer p5) (.pointer p)).run Tryz.prog V = .ok (.bool false) V from by rw [h2]; exact neq_self p V
          clear h1 h2 h3
          rcases hn0 with ⟨h4, h5⟩ | h4
          · have e4 : ((n' : Int) == 0) = true := by simp [h4]
            have e5 := fun V => show (binOp .neq 28 (.pointer p7) (.pointer p)).run Tryz.prog V = .ok (.bool false) V from by rw [h5]; exact neq_self p V
            clear h4 h5
            go_wp2_with fail
            (with_reducible refine HCO.out.mono ?_)
            rintro e wA ⟨rfl, rfl⟩
            go_wp2_with fail
            go_meet
            exact ⟨rfl, Lib.hid rfl⟩
          · have e4 : ((n' : Int) == 0) = false := by simp [h4]
            clear h4
            go_wp2_with fail
            (with_reducible refine HCO.out.mono ?_)
            rintro e wA ⟨rfl, rfl⟩
            go_wp2_with fail
            go_meet
            exact ⟨rfl, Lib.hid rfl⟩
        · have e1 : ((n8 : Int) == (n2 : Int)) = false := by simp; omega
          clear h1
          rcases hn0 with ⟨h4, h5⟩ | h4
          · have e4 : ((n' : Int) == 0) = true := by simp [h4]
            have e5 := fun V => show (binOp .neq 28 (.pointer p7) (.pointer p)).run Tryz.prog V = .ok (.bool false) V from by rw [h5]; exact neq_self p V
            clear h4 h5
            go_wp2_with fail
            (with_reducible refine HCO.out.mono ?_)
            rintro e wA ⟨rfl, rfl⟩
            go_wp2_with fail
            go_meet
            exact ⟨rfl, Lib.hid rfl⟩
          · have e4 : ((n' : Int) == 0) = false := by simp [h4]
            clear h4
            go_wp2_with fail
            (with_reducible refine HCO.out.mono ?_)
            rintro e wA ⟨rfl, rfl⟩
            go_wp2_with fail
            go_meet
            exact ⟨rfl, Lib.hid rfl⟩
      case rest =>
        obtain ⟨rfl, hw⟩ := hcut
        obtain rfl := hw.out
        have bz := (VV.out wc K9.out).2.2.1
        have hk5 : ∀ p ∈ subS key ps2, p.key.length ≤ 990 := fun p hp => by have := HK2.out p (subS_sub p hp); omega
        have hv5 : ∀ p ∈ subS key ps2, 0 ≤ p.val ∧ p.val ≤ 18446744073709551615 := fun p hp => HV2.out p (subS_sub p hp)
        have hl5 := subS_len key ps2
        have hN2 := HN2.out
        have H10 := Lib.hid (pas9_any (c := c8) (HTB.out wc bz) (OTre.below U5.out B79.out) ((R8.out.1.below B9.out).more B9.out.size) ((R8.out.2.below B9.out).more B9.out.size) (Nat.le_refl _) (by have := R8.out.1.1; omega) HC8.out (subS_rise HRS.out) hk5 hv5 C5.out)
        have hr7 : Rsn ((subS key ps2).map (stp n')) := rsn_kv (stp_kv HKB.out.1) (strip_rise HRS.out)
        have H11 := Lib.hid (fun (V : World) (hV : Below wc.heap.size wc V) => pas9_any (c := c9) (HTB.out V (bz.trans (hV.mono bz.size))) (OTre.below U7.out (B79.out.trans (hV.mono B79.out.size))) ((R9.out.1.below hV).more hV.size) ((R9.out.2.below hV).more hV.size) (Nat.le_refl _) (by have := R9.out.1.1; rw [List.length_map] at this; omega) HC9.out hr7 (fun q hq => by
          obtain ⟨p, hp, rfl⟩ := List.mem_map.1 hq
          have := hk5 p hp
          show (p.key.drop n').length ≤ _
          rw [List.length_drop]
          omega) (fun q hq => by
          obtain ⟨p, hp, rfl⟩ := List.mem_map.1 hq
          exact hv5 p hp) C7.out)
        have HK9 := Lib.hid (fun V (hV : Below wc.heap.size wc V) => show Kept (fun i => (some mb : Option Nat) = some i) W4 V from K9.out.trans (Kept.of_below hV))
        have HLG := HPX.out.2.lng
        have hll := HLL.out
        have hog := OCan.gd HPX.out.2
        have hal := HPX.out.1
        have HX1 := fun V (h : Kept (fun i => (some mb : Option Nat) = some i) W4 V) => longest_any (HOW.out V h) hal hog (show olng t ≤ 1000000 by omega)
        have HX2 := fun V (h : Kept (fun i => (some mb : Option Nat) = some i) W4 V) => rlongest_any A2 n2 c2 w2.heap.size ps2 V (VV.out V h).1 (by have := h.size; have := Z23.out; have := HS4.out; omega) (by omega)
        rw [HLG] at HX2
        obtain ⟨lg, hlg⟩ : ∃ z, olng t = z := ⟨_, rfl⟩
        rw [hlg] at HX1 HX2
        have HX1 := Lib.hid HX1
        have HX2 := Lib.hid HX2
        have hlgb : (lg == lg) = true := beq_self_eq_true _
        clear bz hk5 hv5 hl5 hN2 hr7 HLG hll hog hal hlg ewj d7 d5 hw
        go_wp2_with fail
        (with_reducible refine H10.out.mono ?_)
        rintro e w10 ⟨rfl, b10⟩
        have B10 := Lib.hid b10
        have H11' := Lib.hid (H11.out w10 b10)
        clear b10 H10
        go_wp2_with fail
        (with_reducible refine H11'.out.mono ?_)
        rintro e w11 ⟨rfl, b11⟩
        have B11 := Lib.hid (B10.out.trans (b11.mono B10.out.size))
        have H12 := Lib.hid (HA3.out w11 (HK9.out w11 B11.out))
        clear b11 H11' H11
        go_wp2_with fail
        (with_reducible refine H12.out.mono ?_)
        rintro e w12 ⟨rfl, b12⟩
        have B12 := Lib.hid (B11.out.trans (b12.mono B11.out.size))
        have H13 := Lib.hid (HX1.out w12 (HK9.out w12 B12.out))
        clear b12 H12
        go_wp2_with fail
        (with_reducible refine H13.out.mono ?_)
        rintro e w13 ⟨rfl, b13⟩
        have B13 := Lib.hid (B12.out.trans (b13.mono B12.out.size))
        have H14 := Lib.hid (HX2.out w13 (HK9.out w13 B13.out))
        clear b13 H13
        go_wp2_with fail
        (with_reducible refine H14.out.mono ?_)
        rintro e w14 ⟨rfl, b14⟩
        have B14 := Lib.hid (B13.out.trans (b14.mono B13.out.size))
        have H15 := Lib.hid (HL3.out w14 (HK9.out w14 B14.out))
        have Z14 := Lib.hid (VV.out w14 (HK9.out w14 B14.out)).2.2.1
        clear b14 H14
        go_wp2_with fail
        (with_reducible refine H15.out.mono ?_)
        rintro e w15 ⟨rfl, b15⟩
        have B15 := Lib.hid (Z14.out.trans (b15.mono Z14.out.size))
        clear b15 H15
        go_wp2_with fail
        go_ret
        exact ⟨rfl, B15.out⟩
set_option maxRecDepth 100000 in
theorem lifted (os : Os) (started : os.Started) (H : Type) (enc : TypeId × Value → H) :
    ReturnsInHanded {} Tryz.checked os 3 .any (fun w args => (Rows.subIsSpec.pre enc Tryz.prog Tryz.f3 [] false w args ∧ laidMetH Tryz.prog laid3 w) ∧ sizedMet enc Tryz.prog Tryz.f3 (OpenSpec.ofChange Rows.subIsSpec) false w args) (Rows.subIsSpec.post enc Tryz.prog Tryz.f3 false true false false) := by
  refine returnsInHanded_of_change_and (C := Tryz.checked) (X := fun w _ => laidMetH Tryz.prog laid3 w) (fun _ _ _ hh h => h.of_heap hh) own started (by kernel_rfl) Tryz.func3
    (ChangeSpec.witness_shaped (enc := enc) (C := Tryz.checked) (os := os) (X := fun w _ => laidMetH Tryz.prog laid3 w) false (World.doorLaid Tryz.prog 400 os) #[.slice none 0 0, .slice none 0 0, .int .u64 0] 8 rfl (World.shaped_of_RefB (by kernel_rfl) (by kernel_rfl)) (by kernel_rfl) (by kernel_rfl) (by kernel_rfl) (door_met3 os _)) ?_
  intro W base args ds gs before hval0 hW _ _ hL _
  have hval : ∀ (j : Nat) t v, Tryz.f3.params[j]? = some t → args[j]? = some v → Value.okWide Tryz.prog W .any base t v := hval0
  have hW' := hW
  obtain ⟨p, q, hA0, hV, rfl, hfz, hnd⟩ := hW
  have hA : DataW.TrodAll enc Tryz.prog W 0 (fun _ => true) true Tryz.f3.params.toList args.toList ds p := hA0
  rw [Tryz.params3] at hA hval
  obtain ⟨v0, vs0, d0, ds0, p0, q0, hargs, rfl, rfl, h0, r0⟩ := trodAll_cons hA
  obtain ⟨v1, vs1, d1, ds1, p1, q1, rfl, rfl, rfl, h1, r1⟩ := trodAll_cons r0
  obtain ⟨v2, vs2, d2, ds2, p2, q2, rfl, rfl, rfl, h2, r2⟩ := trodAll_cons r1
  obtain ⟨rfl, rfl, rfl⟩ := trodAll_nil r2
  obtain rfl : args = #[v0, v1, v2] := by cases args; simp_all
  obtain ⟨rfl, rfl⟩ := trodVars_none hV
  have k0 := h0
  have lt0 : ∀ x ∈ p0, x.block < W.heap.size := by obtain ⟨m, hm⟩ := k0; exact DataW.trod_lt m _ _ _ hm
  have k1 := h1
  have lt1 : ∀ x ∈ p1, x.block < W.heap.size := by obtain ⟨m, hm⟩ := k1; exact DataW.trod_lt m _ _ _ hm
  have k2 := h2
  have lt2 : ∀ x ∈ p2, x.block < W.heap.size := by obtain ⟨m, hm⟩ := k2; exact DataW.trod_lt m _ _ _ hm
  obtain ⟨A0, n0, c0, l0, rfl, b0, kp0, nc0, vl0⟩ := open_kps (hval 0 22 v0 rfl rfl) h0
  obtain ⟨A1, n1, c1, l1, rfl, b1, nc1⟩ := open_byt (hval 1 23 v1 rfl rfl) h1
  obtain ⟨x2, rfl, _, _, wx2⟩ := open_int Tryz.underlying24 (hval 2 24 v2 rfl rfl) h2
  clear hA0 hval0
  refine (walk A0 n0 c0 l0 A1 n1 c1 l1 x2 W (of_laid3 hL) b0 kp0 nc0 vl0 b1 nc1 wx2).mono fun e W' ⟨he, bel⟩ => ?_
  subst he
  exact ⟨_, rfl, _, _, _, [], _, [], hW', trodAll_mk1 (shut_bool Tryz.underlying4 _), (trodAll_cons_mk (Below.trod laidOut (by kernel_rfl) (of_decide_eq_true (by kernel_rfl)) k0 bel lt0) (trodAll_cons_mk (Below.trod laidOut (by kernel_rfl) (of_decide_eq_true (by kernel_rfl)) k1 bel lt1) (trodAll_cons_mk (Below.trod laidOut (by kernel_rfl) (of_decide_eq_true (by kernel_rfl)) k2 bel lt2) trodAll_mk0))), rfl, bel.frame _, fun h => by cases h⟩

set_option maxRecDepth 100000 in
theorem proved : Rows.SubIsSaid :=
  OpenClaim.holds_of_wide 3 Tryz.f3 rfl rfl rfl rfl rfl rfl rfl ⟨rfl, rfl, rfl, rfl, rfl⟩ rfl rfl rfl rfl rfl (by kernel_rfl) Tryz.func3 (by kernel_rfl)
    (of_decide_eq_true (by kernel_rfl)) (by unfold Func.isWrapper; first | (rw [if_pos (by decide +kernel)]; kernel_rfl) | (rw [if_neg (by decide +kernel)]; exact ⟨rfl, rfl⟩))
    (fun os started H enc _ => lifted os started H enc)
set_option maxRecDepth 100000 in
theorem card_holds : Rows.SubIsCardSaid :=
  Claim7.holds_tied_plain_at .later [] [.data, .data, .data] true _ false
    proved (fun _ h => by cases h) (by kernel_rfl) (fun _ h => by cases h) subIs_row_tie rfl ⟨rfl, rfl⟩ (by kernel_rfl) rfl
    (fun f fn hf hfn => by
      obtain rfl : f = 3 := Option.some.inj ((show Tryz.prog.funcNamed "spunyarn/spunyarnlaw18.SubIs" = some 3 by kernel_rfl).symm.trans hf) |>.symm
      obtain rfl : fn = Tryz.f3 := (Option.some.inj (Tryz.func3.symm.trans hfn)).symm
      exact ⟨by kernel_rfl, fun j t ht => by
        rw [Tryz.params3] at ht
        have hm : t ∈ [22, 23, 24] := by simpa using Array.mem_of_getElem? ht
        have hall : ([22, 23, 24].all fun u => !Tryz.prog.wantsStandIn u) = true := by kernel_rfl
        exact (show Tryz.prog.wantsStandIn t = false by simpa using List.all_eq_true.1 hall t hm)⟩)
    (by kernel_rfl)
end Go.Proofs.YtajpipaooaemdaaGreatDoor.subIs
