/-
  Proved here: any tree of any pairs under any bytes is the canonical one of them with these bytes ahead, is all its own part under them, and without them the canonical one of the pairs again; one node is made at most, the first tree is what it was; nothing that came in is turned. The one condition is the card's own: the table of the powers of ten lies as the program's library lays it (tied).
-/
import Derived.Test.YtajpipaooaemdaaGreatDoorSubA
import Derived.Test.YtajpipaooaemdaaGreatDoorSubU
import Derived.Test.YtajpipaooaemdaaGreatDoorRow
import Derived.Test.YtajpipaooaemdaaGreatDoorEqs
import Derived.Test.YtajpipaooaemdaaGreatDoorNd
import Derived.Test.YtajpipaooaemdaaGreatDoorTie
import Derived.Test.YtajpipaooaemdaaGreatDoorCards
import Derived.SevenTiedAt
import Derived.Deep.DeepCutAuto
namespace Go.Proofs.YtajpipaooaemdaaGreatDoor.subUnder
open Go.ChangeShapes Go.WideShapes Go.ChangeAt Go.RowKit

set_option maxRecDepth 100000 in
set_option maxHeartbeats 4000000 in
theorem walk (A : Option Addr) (n c : Nat) (ps : List PV) (A' : Option Addr) (n' c' : Nat) (key : List UInt8) (ow : Int) (W : World) (htb : Tb W) (ha : Prs W W.heap.size A n ps) (hk : Kps W W.heap.size ps) (_ : n ≤ c) (hv : ∀ p ∈ ps, 0 ≤ p.val ∧ p.val ≤ 18446744073709551615) (hb : Byt W W.heap.size A' n' key) (hnc' : n' ≤ c') (hwf : (Lit.int IntKind.u64 ow).wf = true) :
    Calls Tryz.prog 4 #[.slice A n c, .slice A' n' c', .int .u64 ow] W fun e w' => e = .returned (.bool true) ∧ Below W.heap.size W w' := by
  have hle : 0 < W.heap.size := htb.lt
  have HTB := Lib.hid (fun (V : World) (h : Below W.heap.size W V) => htb.below h hle)
  have HAL := Lib.hid (fun (V : World) (h : Below W.heap.size W V) => salive_any V (htb.below h hle))
  have HZ := Lib.hid (fun (V : World) (h : Below W.heap.size W V) => h)
  have HA := Lib.hid (fun (V : World) (h : Below W.heap.size W V) => ha.below h)
  have HK := Lib.hid (fun (V : World) (h : Below W.heap.size W V) => hk.below h)
  have HB := Lib.hid (fun (V : World) (h : Below W.heap.size W V) => hb.below h)
  have hn9 : n' ≤ 9223372036854775807 := by have := hb.2.1; unfold maxLen at this; omega
  have H1 := pfar_any A n c W.heap.size 200 ps W ha (Nat.le_refl _) (by omega)
  rw [show ((200 : Nat) : Int) = 200 from rfl] at H1
  have H1 := Lib.hid H1
  have HV := Lib.hid hv
  have HC := Lib.hid hnc'
  have HLN := Lib.hid ha.1
  have HKL := Lib.hid hb.1
  have ho1 : 0 ≤ ow := by
    have h1 : 0 ≤ ow ∧ ow ≤ 18446744073709551615 := by simpa [Lit.wf, IntKind.min, IntKind.max, IntKind.signed, IntKind.bits] using hwf
    exact h1.1
  clear htb ha hk hb hnc' hv hle hwf
  go_enter Tryz.func4, Tryz.ntmps4
  go_wp2_with fail
  (with_reducible refine H1.out.mono ?_)
  rintro e w1 ⟨rfl, b1⟩
  have B1 := Lib.hid b1
  obtain ⟨fb, hfb⟩ : ∃ b, farP ps 200 = b := ⟨_, rfl⟩
  rw [hfb]
  have HFB := Lib.hid hfb
  clear b1 hfb H1
  by_cases hfar : fb = true ∨ 600 < n'
  · have H2 := Lib.hid (HAL.out w1 B1.out)
    have hgo : ∀ (e : Ending) (w' : World), (e = .returned (.bool true) ∧ Below w1.heap.size w1 w') → e = .returned (.bool true) ∧ Below W.heap.size W w' := fun e w' h => ⟨h.1, HZ.out w' (B1.out.trans (h.2.mono B1.out.size))⟩
    have HGO := Lib.hid hgo
    clear hgo
    cases fb with
    | true =>
      clear hfar
      go_wp2_with fail
      (with_reducible refine H2.out.mono ?_)
      rintro e w2 ⟨rfl, b2⟩
      have B2 := Lib.hid (HGO.out _ _ ⟨rfl, b2⟩).2
      clear b2
      go_wp2_with fail
      go_ret
      exact ⟨rfl, B2.out⟩
    | false =>
      have hq : 600 < n' := by
        rcases hfar with q | q
        · cases q
        · exact q
      have i1 : decide ((600 : Int) < (n' : Int)) = true := decide_eq_true (by omega)
      clear hfar hq
      go_wp2_with fail
      (with_reducible refine H2.out.mono ?_)
      rintro e w2 ⟨rfl, b2⟩
      have B2 := Lib.hid (HGO.out _ _ ⟨rfl, b2⟩).2
      clear b2
      go_wp2_with fail
      go_ret
      exact ⟨rfl, B2.out⟩
  · have hfb : fb = false := by
      cases fb with
      | false => rfl
      | true => exact absurd (.inl rfl) hfar
    subst hfb
    have hn6 : n' ≤ 600 := by
      rcases Nat.lt_or_ge 600 n' with q | q
      · exact absurd (.inr q) hfar
      · exact q
    have i1 : decide ((600 : Int) < (n' : Int)) = false := decide_eq_false (by omega)
    obtain ⟨f1, f2⟩ := farP_no HFB.out
    have hn200 : n ≤ 200 := by have := HLN.out; omega
    have F2 := Lib.hid f2
    have HS := Lib.hid (rsort_any A n c W.heap.size ps w1 (HA.out w1 B1.out) (HK.out w1 B1.out) B1.out.size (by omega))
    clear hfar f1 f2
    go_wp2_with fail
    (with_reducible refine HS.out.mono ?_)
    rintro e w2 ⟨A2, c2, rfl, hc2, p2, _, b2⟩
    obtain ⟨ps2, hps2⟩ : ∃ l, sortS ps = l := ⟨_, rfl⟩
    obtain ⟨n2, hn2⟩ : ∃ k, (sortS ps).length = k := ⟨_, rfl⟩
    have hn2a : n2 ≤ 200 := by
      have := (sortS_len ps).1
      have := HLN.out
      omega
    have hrs : Rsn ps2 := hps2 ▸ sortS_rise ps
    have hk2 : ∀ p ∈ ps2, p.key.length ≤ 300 := hps2 ▸ sortS_all (P := fun p => p.key.length ≤ 300) (fun _ _ h _ => h) F2.out
    have hv2 : ∀ p ∈ ps2, 0 ≤ p.val ∧ p.val ≤ 18446744073709551615 := hps2 ▸ sortS_all (P := fun p => 0 ≤ p.val ∧ p.val ≤ 18446744073709551615) (fun _ _ _ h => h) HV.out
    rw [hn2] at p2 hc2 ⊢
    rw [hps2] at p2 hn2
    have b2' : Below W.heap.size W w2 := B1.out.trans (b2.mono B1.out.size)
    have hkp : ∀ V, Below W.heap.size W V → Kps V W.heap.size ps2 := fun V hb => hps2 ▸ Kps.sort (HK.out V hb)
    have ZV := Lib.hid (fun V (h : Below w2.heap.size w2 V) => show Prs V w2.heap.size A2 n2 ps2 ∧ Kps V w2.heap.size ps2 ∧ Below W.heap.size W V ∧ Byt V w2.heap.size A' n' key from
      have hW : Below W.heap.size W V := b2'.trans (h.mono b2'.size)
      ⟨p2.below h, (hkp V hW).more b2'.size, hW, (HB.out V hW).more b2'.size⟩)
    have HT := Lib.hid (ptree_any (o := 1) (by omega) A2 n2 c2 w2.heap.size ps2 w2 p2 ((hkp w2 b2').more b2'.size) (Nat.le_refl _) (by omega) hrs hk2)
    have HRS := Lib.hid hrs
    have HK2 := Lib.hid hk2
    have HV2 := Lib.hid hv2
    have HC2 := Lib.hid hc2
    have HN2 := Lib.hid (show ps2.length = n2 from p2.1)
    have HZW := Lib.hid b2'.size
    have HKB := Lib.hid (HB.out w2 b2')
    clear hps2 hrs hk2 hv2 hkp p2 b2 b2' hn2 hc2 HS
    go_wp2_with fail
    (with_reducible refine HT.out.mono ?_)
    rintro e w3 ⟨p, rfl, t3, b3⟩
    obtain ⟨t, ht⟩ : ∃ t, bTr 1 301 (rel 0 ps2) = t := ⟨_, rfl⟩
    have hcn := bTr_ocan 1 HRS.out 301 (fun p hp => by have := HK2.out p hp; omega)
    rw [ht] at t3 hcn
    have HPX := Lib.hid (show oall (fun q => q = 1) t ∧ OCan ps2 t from ⟨hcn.2, hcn.1⟩)
    have TW3 := Lib.hid t3
    obtain ⟨mb, hmb⟩ : ∃ z, w3.heap.size = z := ⟨_, rfl⟩
    obtain ⟨W4, hW4⟩ : ∃ V, w3.alloc (.cells #[.int .i64 0] 36) = V := ⟨_, rfl⟩
    have b4 : Below mb w3 W4 := by rw [← hW4, ← hmb]; exact (Below.refl _ _).alloc (Nat.le_refl _) _
    have s4 : W4.heap.size = mb + 1 := by rw [← hW4, ← hmb]; simp
    have m4 : Lst W4 mb [.int .i64 0] := by rw [← hW4, ← hmb]; exact Blk.new w3 _ _
    have HM4 := Lib.hid m4
    have HS4 := Lib.hid s4
    have hz23 : w2.heap.size ≤ mb := by rw [← hmb]; exact b3.size
    have Z23 := Lib.hid hz23
    have B34 := Lib.hid (fun V (h : Kept (fun i => (some mb : Option Nat) = some i) W4 V) => show Below mb w3 V from b4.trans (h.below (by omega) (fun g q => by injection q with q; omega)))
    have VV := Lib.hid (fun V (h : Kept (fun i => (some mb : Option Nat) = some i) W4 V) => show Prs V w2.heap.size A2 n2 ps2 ∧ Kps V w2.heap.size ps2 ∧ Below W.heap.size W V ∧ Byt V w2.heap.size A' n' key from ZV.out V (b3.trans ((B34.out V h).mono hz23)))
    have T3 := Lib.hid (fun V (h : Kept (fun i => (some mb : Option Nat) = some i) W4 V) => show OTre V (· < mb) t p from by
      have h1 := OTow.hereS t3
      rw [hmb] at h1
      exact OTre.belowS h1 (fun i q => q) (B34.out V h))
    have HA3 := Lib.hid (fun (V : World) (h : Kept (fun i => (some mb : Option Nat) = some i) W4 V) => pas9_any (c := c2) (HTB.out V (VV.out V h).2.2.1) (OTre.mono (T3.out V h) (fun i q => by have := h.size; omega)) (VV.out V h).1 (VV.out V h).2.1 (Nat.le_trans hz23 (by have := h.size; omega)) (by omega) HC2.out HRS.out (fun p hp => by have := HK2.out p hp; omega) HV2.out HPX.out.2)
    have HL3 := Lib.hid (fun (V : World) (h : Kept (fun i => (some mb : Option Nat) = some i) W4 V) => HAL.out V (VV.out V h).2.2.1)
    have HOW := Lib.hid (fun (V : World) (h : Kept (fun i => (some mb : Option Nat) = some i) W4 V) => show OTow V 1 (fun _ => False) t p (fun i => w2.heap.size ≤ i ∧ i < w3.heap.size) from OTow.onB TW3.out (by rw [hmb]; exact B34.out V h))
    have HLL : olng t ≤ 300 := by
      have h1 := HPX.out.2.lng
      obtain ⟨_, _, h3⟩ := lngS_all ps2
      rcases h3 with h3 | ⟨z, hz, h3⟩
      · omega
      · have := HK2.out z hz
        omega
    have HLL := Lib.hid HLL
    have HW4 := Lib.hid hW4
    have HMB := Lib.hid hmb
    clear t3 b3 b4 s4 m4 hz23 hcn ht HT hW4
    go_wp2_with fail
    try rw [HW4.out]
    try rw [HMB.out]
    have K0 : Kept (fun i => (some mb : Option Nat) = some i) W4 W4 := Kept.refl _ _
    by_cases ho0 : ow = 0
    · subst ho0
      have H5 := Lib.hid (under_zero p A' n' c' (.pointer (some ⟨mb, 0, none⟩)) W4)
      have H6 := Lib.hid (count_any (g := mb) (m := 0) (w := W4) (HM4.out.cell 0))
      have H8 := Lib.hid (HL3.out W4 K0)
      have Z8 := Lib.hid (VV.out W4 K0).2.2.1
      clear K0
      go_wp2_with fail
      (with_reducible refine H5.out.mono ?_)
      rintro e w5 ⟨rfl, rfl⟩
      go_wp2_with fail
      (with_reducible refine H6.out.mono ?_)
      rintro e w6 ⟨rfl, rfl⟩
      go_wp2_with fail
      (with_reducible refine H8.out.mono ?_)
      rintro e w9 ⟨rfl, b9⟩
      have B9 := Lib.hid (Z8.out.trans (b9.mono Z8.out.size))
      clear b9
      go_wp2_with fail
      go_ret
      exact ⟨rfl, B9.out⟩
    · have h0 : (ow == 0) = false := by simpa using ho0
      have ho : 1 ≤ ow := by omega
      have HO := Lib.hid ho
      have hzz := Z23.out
      have hsz4 := HS4.out
      have hll := HLL.out
      have hmn : ∀ i, (some mb : Option Nat) = some i → ¬ (i < mb) ∧ w2.heap.size ≤ i := fun i hi => by injection hi with hi; omega
      have HMN := Lib.hid hmn
      have HBK := Lib.hid (show ∀ p ∈ ps2, p.key.length ≤ 1000000 from fun p hp => by have := HK2.out p hp; omega)
      have H5 : Calls Tryz.prog 18 #[.pointer p, .slice A' n' c', .int .u64 ow, .pointer (some ⟨mb, 0, none⟩)] W4 (TwPost (· < mb) W4 p (some mb) [] 0 (undS key ps2) (key = [] ∨ t = none)) :=
        under_any (m := some mb) (cnt := 0) (B := w2.heap.size) (o1 := 1) ho (T3.out W4 K0) (HOW.out W4 K0) HPX.out.1 (fun i q => by have q : i < mb := q; omega) HPX.out.2 HBK.out (undS_kv key ps2) HRS.out (fun g hg => by injection hg with hg; subst hg; exact ⟨HM4.out, by omega, by omega⟩) hmn (VV.out W4 K0).2.2.2 (by omega) HC.out (by omega) (.inr (.inr (by omega)))
      have H5 := Lib.hid H5
      clear hmn ho ho0 hzz hsz4 K0 hll
      go_wp2_with fail
      (with_reducible refine H5.out.mono ?_)
      rintro e w5 ⟨p5, X5, j5, rfl, t5, c5, q5, j50, j51, k5, l5⟩
      have m5 := l5 mb rfl
      rw [Int.zero_add] at m5
      have hzz := Z23.out
      have hsz4 := HS4.out
      have hsz5 := k5.size
      have H6 := Lib.hid (runder_any A2 A' n2 c2 n' c' w2.heap.size ps2 key w5 (VV.out w5 k5).1 (by omega) (by omega) (VV.out w5 k5).2.2.2 (by omega) (fun p hp => by have := HK2.out p hp; omega))
      have T5 := Lib.hid t5
      have C5 := Lib.hid c5
      have Q5 := Lib.hid q5
      have K5 := Lib.hid k5
      have J5 := Lib.hid (And.intro j50 j51)
      have M5 := Lib.hid m5
      have S5 := Lib.hid (show mb + 1 ≤ w5.heap.size by omega)
      clear t5 c5 q5 k5 l5 m5 hzz hsz4 hsz5 j50 j51 H5
      go_wp2_with fail
      (with_reducible refine H6.out.mono ?_)
      rintro e w6 ⟨A6, n6, c6, qs6, rfl, hc6, u6, hkv, b6⟩
      have HC6 := Lib.hid hc6
      have U6 := Lib.hid u6
      have KV6 := Lib.hid hkv
      have B6 := Lib.hid b6
      have SX := Lib.hid (fun (i : Nat) (q : i < mb ∨ (W4.heap.size ≤ i ∧ i < w5.heap.size)) => show i ≠ mb ∧ i < w5.heap.size from by have := HS4.out; have := S5.out; omega)
      have K6 := Lib.hid (show Kept (fun i => (some mb : Option Nat) = some i) W4 w6 from K5.out.trans (Kept.of_below b6))
      have VM := Lib.hid (fun V (h : Kept (fun i => (some mb : Option Nat) = some i) w6 V) => show OTre V (fun i => i < mb ∨ (W4.heap.size ≤ i ∧ i < w5.heap.size)) _ p5 ∧ UnJ V w5.heap.size A6 n6 c6 qs6 ∧ Kept (fun i => (some mb : Option Nat) = some i) W4 V ∧ w5.heap.size ≤ V.heap.size from
        ⟨OTre.keptS (OTre.keptS T5.out (Kept.of_below (D := fun i => (some mb : Option Nat) = some i) B6.out) (fun i q e => by injection e with e; exact (SX.out i q).1 e.symm)) h (fun i q e => by injection e with e; exact (SX.out i q).1 e.symm),
          U6.out.kept h (fun i q => by injection q with q; have := S5.out; omega), K6.out.trans h, Nat.le_trans B6.out.size h.size⟩)
      have hcn6 := C5.out.kv (hkv.trans (undS_kv key ps2).symm)
      have hr6 : Rsn qs6 := rsn_kv (hkv.trans (undS_kv key ps2).symm) (by
        have := undS_rise (key := key) HRS.out
        unfold Rise
        rw [List.pairwise_map]
        exact this)
      have hk6 : ∀ q ∈ qs6, q.key.length ≤ 990 := fun q hq => by
        obtain ⟨p, hp, e, _⟩ := und_mem hkv q hq
        have h1 := HK2.out p hp
        have h2 := HKB.out.1
        rw [e, List.length_append]
        omega
      have hv6 : ∀ q ∈ qs6, 0 ≤ q.val ∧ q.val ≤ 18446744073709551615 := fun q hq => by
        obtain ⟨p, hp, _, e⟩ := und_mem hkv q hq
        rw [e]
        exact HV2.out p hp
      have hn6b : n6 ≤ 300 := by
        have h1 := u6.prs.1
        have h2 := congrArg List.length hkv
        rw [List.length_map, List.length_map] at h2
        have h3 := HN2.out
        omega
      have HAS := Lib.hid (fun V (h : Kept (fun i => (some mb : Option Nat) = some i) w6 V) => pas9_any (c := c6) (HTB.out V (VV.out V (VM.out V h).2.2.1).2.2.1) (OTre.mono (VM.out V h).1 (fun i q => Nat.lt_of_lt_of_le (SX.out i q).2 (VM.out V h).2.2.2)) (VM.out V h).2.1.prs (VM.out V h).2.1.kps (Nat.le_refl _) hn6b hc6 hr6 hk6 hv6 hcn6)
      have H7 := Lib.hid (HAS.out w6 (Kept.refl _ _))
      have HCO := Lib.hid (fun V (h : Below w6.heap.size w6 V) => count_any (g := mb) (m := j5) (w := V) ((Blk.below (Blk.below M5.out B6.out (Blk.lt M5.out)) h (Nat.lt_of_lt_of_le (Blk.lt M5.out) B6.out.size)).cell 0))
      have hj51 := J5.out.2
      have d5 : decide ((1 : Int) < j5) = false := decide_eq_false (by omega)
      clear hc6 u6 hkv b6 hcn6 hr6 hk6 hv6 hn6b hj51 H6
      go_upto_region 10 with fail
      go_cut [83] (fun v83 wc => v83 = .bool false ∧ Hid (Below w6.heap.size w6 wc))
      case first =>
        by_cases hz : n' = 0
        · obtain ⟨e5, ej⟩ := Q5.out (.inl (List.eq_nil_of_length_eq_zero (by have := HKB.out.1; omega)))
          have e4 : ((n' : Int) == 0) = true := by simp [hz]
          have e2 : (j5 != 0) = false := by simp [ej]
          have e6 := fun V => show (binOp .neq 28 (.pointer p5) (.pointer p)).run Tryz.prog V = .ok (.bool false) V from by rw [e5]; exact neq_self p V
          clear hz e5 ej
          go_wp2_with fail
          (with_reducible refine H7.out.mono ?_)
          rintro e w7 ⟨rfl, b7⟩
          have B7 := Lib.hid b7
          have H8 := Lib.hid (HCO.out w7 b7)
          clear b7
          go_wp2_with fail
          (with_reducible refine H8.out.mono ?_)
          rintro e w8 ⟨rfl, rfl⟩
          go_wp2_with fail
          (with_reducible refine H8.out.mono ?_)
          rintro e w9 ⟨rfl, rfl⟩
          go_wp2_with fail
          go_meet
          exact ⟨rfl, B7⟩
        · have e4 : ((n' : Int) == 0) = false := by simp [hz]
          clear hz
          go_wp2_with fail
          (with_reducible refine H7.out.mono ?_)
          rintro e w7 ⟨rfl, b7⟩
          have B7 := Lib.hid b7
          have H8 := Lib.hid (HCO.out w7 b7)
          clear b7
          go_wp2_with fail
          (with_reducible refine H8.out.mono ?_)
          rintro e w8 ⟨rfl, rfl⟩
          go_wp2_with fail
          go_meet
          exact ⟨rfl, B7⟩
      case rest =>
        obtain ⟨rfl, hbc⟩ := hcut
        generalize wc = wa at hbc ⊢
        have HCA := Lib.hid (HCO.out wa hbc.out)
        have MA := Lib.hid (show Lst wa mb [.int .i64 j5] from Blk.below (Blk.below M5.out B6.out (Blk.lt M5.out)) hbc.out (Nat.lt_of_lt_of_le (Blk.lt M5.out) B6.out.size))
        have KA := Lib.hid (show Kept (fun i => (some mb : Option Nat) = some i) w6 wa from Kept.of_below hbc.out)
        obtain ⟨va1, _, va3, va4⟩ := VM.out wa KA.out
        have hbu : ∀ q ∈ undS key ps2, q.key.length ≤ 1000000 := fun q hq => by
          obtain ⟨p, hp, e, _⟩ := und_mem (undS_kv key ps2) q hq
          have h1 := HK2.out p hp
          have h2 := HKB.out.1
          rw [e, List.length_append]
          omega
        have HBU := Lib.hid hbu
        have hjb := J5.out
        have hsz5 := S5.out
        have hzz := Z23.out
        have HMX := Lib.hid (show ∀ i, (some mb : Option Nat) = some i → ¬ (i < mb ∨ (W4.heap.size ≤ i ∧ i < w5.heap.size)) ∧ w2.heap.size ≤ i from fun i hi => by
          injection hi with hi
          exact ⟨fun q => (SX.out i q).1 hi.symm, by have := Z23.out; omega⟩)
        have HST : Calls Tryz.prog 12 #[.pointer p5, .slice A' n' c', .int .u64 ow, .pointer (some ⟨mb, 0, none⟩)] wa (TwPost (fun i => i < mb ∨ (W4.heap.size ≤ i ∧ i < w5.heap.size)) wa p5 (some mb) [] j5 ps2 (key = [])) :=
          strip_any (m := some mb) (cnt := j5) (B := w2.heap.size) HO.out va1 (fun i q => Nat.lt_of_lt_of_le (SX.out i q).2 va4) C5.out (undS_rise HRS.out) hbu (strip_und key ps2) (fun g hg => by injection hg with hg; subst hg; exact ⟨MA.out, by omega, by omega⟩) HMX.out (VV.out wa va3).2.2.2 (by omega) HC.out (by omega)
        have HST := Lib.hid HST
        clear va1 va3 va4 hbu hjb hsz5 hzz hbc H7
        go_wp2_with fail
        (with_reducible refine HCA.out.mono ?_)
        rintro e w7 ⟨rfl, rfl⟩
        go_wp2_with fail
        (with_reducible refine HST.out.mono ?_)
        rintro e w8 ⟨p8, T8, j8, rfl, t8, c8, q8, j80, j81, k8, l8⟩
        have m8 := l8 mb rfl
        have k68 : Kept (fun i => (some mb : Option Nat) = some i) w6 w8 := KA.out.trans k8
        have T8 := Lib.hid t8
        have C8 := Lib.hid c8
        have K8 := Lib.hid k68
        have K78 := Lib.hid k8
        have J8 := Lib.hid (And.intro j80 j81)
        obtain ⟨jj, hjj⟩ : ∃ z, j5 + j8 = z := ⟨_, rfl⟩
        have HJJ := Lib.hid hjj
        rw [hjj] at m8
        have M8 := Lib.hid m8
        obtain ⟨va1, _, va3, va4⟩ := VM.out w8 k68
        have hjb := J5.out
        have hsz5 := S5.out
        have hzz := Z23.out
        have HSB : Calls Tryz.prog 10 #[.pointer p5, .slice A' n' c', .int .u64 ow, .pointer (some ⟨mb, 0, none⟩)] w8 (TwPost (fun i => i < mb ∨ (W4.heap.size ≤ i ∧ i < w5.heap.size)) w8 p5 (some mb) [] jj (subS key (undS key ps2)) (topB X5 key ∨ X5 = none)) :=
          sub_any (m := some mb) (cnt := jj) (B := w2.heap.size) HO.out va1 (fun i q => Nat.lt_of_lt_of_le (SX.out i q).2 va4) C5.out (undS_rise HRS.out) HBU.out (fun g hg => by injection hg with hg; subst hg; exact ⟨m8, by omega, by omega⟩) HMX.out (VV.out w8 va3).2.2.2 (by omega) HC.out (by omega)
        have HSB := Lib.hid HSB
        clear va1 va3 va4 hjb hsz5 hzz t8 c8 q8 k8 l8 m8 k68 j80 j81 hjj HST
        go_wp2_with fail
        (with_reducible refine HSB.out.mono ?_)
        rintro e w9 ⟨p9, T9, j9, rfl, _, _, q9, _, _, k9, l9⟩
        obtain ⟨e9, ej9⟩ := q9 (by
          by_cases hT : X5 = none
          · exact .inr hT
          · exact .inl (topB_of C5.out hT (fun z hz => by
              obtain ⟨p, _, e, _⟩ := und_mem (undS_kv key ps2) z hz
              rw [e]
              exact List.prefix_append _ _)))
        subst e9
        have m9 := l9 mb rfl
        rw [ej9, Int.add_zero] at m9
        have M9 := Lib.hid m9
        have K9 := Lib.hid (show Kept (fun i => (some mb : Option Nat) = some i) w6 w9 from K8.out.trans k9)
        have heq := fun V => eql_self p9 V
        have hj5 := J5.out
        have hj8 := J8.out
        have hjj := HJJ.out
        have ewj : IntKind.i64.wrap (jj - j5) = j8 := by rw [IntKind.wrap_i64]; omega
        have d8 : decide (j8 ≤ (1 : Int)) = true := decide_eq_true (by omega)
        have t8 := OTre.keptS T8.out k9 (fun i q e => by
          injection e with e
          rcases q with q | q
          · exact (SX.out i q).1 e.symm
          · have := (VM.out w7 KA.out).2.2.2
            have := S5.out
            omega)
        have HW9 := Lib.hid (fun V (hV : Below w9.heap.size w9 V) => show Kept (fun i => (some mb : Option Nat) = some i) w6 V from K9.out.trans (Kept.of_below hV))
        have H10 := Lib.hid (show Calls Tryz.prog 15 #[.pointer p8, .slice A2 n2 c2] w9 fun e w' => e = .returned (.bool true) ∧ Below w9.heap.size w9 w' from
          pas9_any (c := c2) (HTB.out w9 (VV.out w9 (VM.out w9 K9.out).2.2.1).2.2.1) (OTre.mono t8 (fun i q => by
            have h1 := k9.size
            have h2 := K78.out.size
            have h3 := (VM.out w7 KA.out).2.2.2
            rcases q with q | q
            · have := (SX.out i q).2
              omega
            · omega)) (VV.out w9 (VM.out w9 K9.out).2.2.1).1 (VV.out w9 (VM.out w9 K9.out).2.2.1).2.1 (by have := (VM.out w9 K9.out).2.2.2; have := S5.out; have := Z23.out; omega) (by omega) HC2.out HRS.out (fun p hp => by have := HK2.out p hp; omega) HV2.out C8.out)
        clear q9 k9 l9 m9 hj5 hj8 hjj t8 ej9 HSB
        go_wp2_with fail
        (with_reducible refine H10.out.mono ?_)
        rintro e w10 ⟨rfl, b10⟩
        have B10 := Lib.hid b10
        have H11 := Lib.hid (count_any (g := mb) (m := jj) (w := w10) ((Blk.below M9.out b10 (Blk.lt M9.out)).cell 0))
        have H12 := Lib.hid (HAS.out w10 (HW9.out w10 b10))
        clear b10 H10
        go_wp2_with fail
        (with_reducible refine H11.out.mono ?_)
        rintro e w11 ⟨rfl, rfl⟩
        go_wp2_with fail
        (with_reducible refine H12.out.mono ?_)
        rintro e w12 ⟨rfl, b12⟩
        have B12 := Lib.hid (B10.out.trans (b12.mono B10.out.size))
        have H13 := Lib.hid (HA3.out w12 (VM.out w12 (HW9.out w12 B12.out)).2.2.1)
        clear b12 H12
        go_wp2_with fail
        (with_reducible refine H13.out.mono ?_)
        rintro e w13 ⟨rfl, b13⟩
        have B13 := Lib.hid (B12.out.trans (b13.mono B12.out.size))
        have H14 := Lib.hid (HL3.out w13 (VM.out w13 (HW9.out w13 B13.out)).2.2.1)
        have Z13 := Lib.hid (VV.out w13 (VM.out w13 (HW9.out w13 B13.out)).2.2.1).2.2.1
        clear b13 H13
        go_wp2_with fail
        (with_reducible refine H14.out.mono ?_)
        rintro e w14 ⟨rfl, b14⟩
        have B14 := Lib.hid (Z13.out.trans (b14.mono Z13.out.size))
        clear b14 H14
        go_wp2_with fail
        go_ret
        exact ⟨rfl, B14.out⟩
set_option maxRecDepth 100000 in
theorem lifted (os : Os) (started : os.Started) (H : Type) (enc : TypeId × Value → H) :
    ReturnsInHanded {} Tryz.checked os 4 .any (fun w args => (Rows.subUnderSpec.pre enc Tryz.prog Tryz.f4 [] false w args ∧ laidMetH Tryz.prog laid3 w) ∧ sizedMet enc Tryz.prog Tryz.f4 (OpenSpec.ofChange Rows.subUnderSpec) false w args) (Rows.subUnderSpec.post enc Tryz.prog Tryz.f4 false true false false) := by
  refine returnsInHanded_of_change_and (C := Tryz.checked) (X := fun w _ => laidMetH Tryz.prog laid3 w) (fun _ _ _ hh h => h.of_heap hh) own started (by kernel_rfl) Tryz.func4
    (ChangeSpec.witness_shaped (enc := enc) (C := Tryz.checked) (os := os) (X := fun w _ => laidMetH Tryz.prog laid3 w) false (World.doorLaid Tryz.prog 400 os) #[.slice none 0 0, .slice none 0 0, .int .u64 0] 8 rfl (World.shaped_of_RefB (by kernel_rfl) (by kernel_rfl)) (by kernel_rfl) (by kernel_rfl) (by kernel_rfl) (door_met3 os _)) ?_
  intro W base args ds gs before hval0 hW _ _ hL _
  have hval : ∀ (j : Nat) t v, Tryz.f4.params[j]? = some t → args[j]? = some v → Value.okWide Tryz.prog W .any base t v := hval0
  have hW' := hW
  obtain ⟨p, q, hA0, hV, rfl, hfz, hnd⟩ := hW
  have hA : DataW.TrodAll enc Tryz.prog W 0 (fun _ => true) true Tryz.f4.params.toList args.toList ds p := hA0
  rw [Tryz.params4] at hA hval
  obtain ⟨v0, vs0, d0, ds0, p0, q0, hargs, rfl, rfl, h0, r0⟩ := trodAll_cons hA
  obtain ⟨v1, vs1, d1, ds1, p1, q1, rfl, rfl, rfl, h1, r1⟩ := trodAll_cons r0
  obtain ⟨v2, vs2, d2, ds2, p2, q2, rfl, rfl, rfl, h2, r2⟩ := trodAll_cons r1
  obtain ⟨rfl, rfl, rfl⟩ := trodAll_nil r2
  obtain rfl : args = #[v0, v1, v2] := by cases args; simp_all
  obtain ⟨rfl, rfl⟩ := trodVars_none hV
  have k0 := h0
  have lt0 : ∀ x ∈ p0, x.block < W.heap.size := by obtain ⟨m, hm⟩ := k0; exact DataW.trod_lt m _ _ _ hm
  have k1 := h1
  have lt1 : ∀ x ∈ p1, x.block < W.heap.size := by obtain ⟨m, hm⟩ := k1; exact DataW.trod_lt m _ _ _ hm
  have k2 := h2
  have lt2 : ∀ x ∈ p2, x.block < W.heap.size := by obtain ⟨m, hm⟩ := k2; exact DataW.trod_lt m _ _ _ hm
  obtain ⟨A0, n0, c0, l0, rfl, b0, kp0, nc0, vl0⟩ := open_kps (hval 0 22 v0 rfl rfl) h0
  obtain ⟨A1, n1, c1, l1, rfl, b1, nc1⟩ := open_byt (hval 1 23 v1 rfl rfl) h1
  obtain ⟨x2, rfl, _, _, wx2⟩ := open_int Tryz.underlying24 (hval 2 24 v2 rfl rfl) h2
  clear hA0 hval0
  refine (walk A0 n0 c0 l0 A1 n1 c1 l1 x2 W (of_laid3 hL) b0 kp0 nc0 vl0 b1 nc1 wx2).mono fun e W' ⟨he, bel⟩ => ?_
  subst he
  exact ⟨_, rfl, _, _, _, [], _, [], hW', trodAll_mk1 (shut_bool Tryz.underlying4 _), (trodAll_cons_mk (Below.trod laidOut (by kernel_rfl) (of_decide_eq_true (by kernel_rfl)) k0 bel lt0) (trodAll_cons_mk (Below.trod laidOut (by kernel_rfl) (of_decide_eq_true (by kernel_rfl)) k1 bel lt1) (trodAll_cons_mk (Below.trod laidOut (by kernel_rfl) (of_decide_eq_true (by kernel_rfl)) k2 bel lt2) trodAll_mk0))), rfl, bel.frame _, fun h => by cases h⟩

set_option maxRecDepth 100000 in
theorem proved : Rows.SubUnderSaid :=
  OpenClaim.holds_of_wide 4 Tryz.f4 rfl rfl rfl rfl rfl rfl rfl ⟨rfl, rfl, rfl, rfl, rfl⟩ rfl rfl rfl rfl rfl (by kernel_rfl) Tryz.func4 (by kernel_rfl)
    (of_decide_eq_true (by kernel_rfl)) (by unfold Func.isWrapper; first | (rw [if_pos (by decide +kernel)]; kernel_rfl) | (rw [if_neg (by decide +kernel)]; exact ⟨rfl, rfl⟩))
    (fun os started H enc _ => lifted os started H enc)
set_option maxRecDepth 100000 in
theorem card_holds : Rows.SubUnderCardSaid :=
  Claim7.holds_tied_plain_at .later [] [.data, .data, .data] true _ false
    proved (fun _ h => by cases h) (by kernel_rfl) (fun _ h => by cases h) subUnder_row_tie rfl ⟨rfl, rfl⟩ (by kernel_rfl) rfl
    (fun f fn hf hfn => by
      obtain rfl : f = 4 := Option.some.inj ((show Tryz.prog.funcNamed "spunyarn/spunyarnlaw18.SubUnder" = some 4 by kernel_rfl).symm.trans hf) |>.symm
      obtain rfl : fn = Tryz.f4 := (Option.some.inj (Tryz.func4.symm.trans hfn)).symm
      exact ⟨by kernel_rfl, fun j t ht => by
        rw [Tryz.params4] at ht
        have hm : t ∈ [22, 23, 24] := by simpa using Array.mem_of_getElem? ht
        have hall : ([22, 23, 24].all fun u => !Tryz.prog.wantsStandIn u) = true := by kernel_rfl
        exact (show Tryz.prog.wantsStandIn t = false by simpa using List.all_eq_true.1 hall t hm)⟩)
    (by kernel_rfl)
end Go.Proofs.YtajpipaooaemdaaGreatDoor.subUnder
