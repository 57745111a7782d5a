/-
  Proved here: between Lower and Ceil of any key there is no key, nor between Floor and Higher but itself; Floor is Ceil just if the key is there; nothing that came in is turned. No condition.
-/
import Derived.Test.YtidiinededalmaaGreatNrGapP
import Derived.Test.YtidiinededalmaaGreatRow
namespace Go.Proofs.YtidiinededalmaaGreat.nearGap
open Go.ChangeShapes Go.WideShapes Go.ChangeAt Go.RowKit

/-- Four blocks of two cells that hold pairs, and the pairs' bytes. -/
structure G4 (V : World) (ga gb gc gd : Nat) (Aa Ab Ac Ad : Option Addr) (ca cb cc cd : Nat) (pa pb pc pd : PV) : Prop where
  a : Blk V ga #[.slice Aa pa.n ca, .int .u64 pa.val]
  b : Blk V gb #[.slice Ab pb.n cb, .int .u64 pb.val]
  c : Blk V gc #[.slice Ac pc.n cc, .int .u64 pc.val]
  d : Blk V gd #[.slice Ad pd.n cd, .int .u64 pd.val]
  ya : Byt V V.heap.size Aa pa.n pa.key
  yb : Byt V V.heap.size Ab pb.n pb.key
  yc : Byt V V.heap.size Ac pc.n pc.key
  yd : Byt V V.heap.size Ad pd.n pd.key
theorem G4.below {V V' : World} {ga gb gc gd : Nat} {Aa Ab Ac Ad : Option Addr} {ca cb cc cd : Nat} {pa pb pc pd : PV} (h : G4 V ga gb gc gd Aa Ab Ac Ad ca cb cc cd pa pb pc pd) (hb : Below V.heap.size V V') : G4 V' ga gb gc gd Aa Ab Ac Ad ca cb cc cd pa pb pc pd :=
  ⟨h.a.below hb h.a.lt, h.b.below hb h.b.lt, h.c.below hb h.c.lt, h.d.below hb h.d.lt, (h.ya.below hb).more hb.size, (h.yb.below hb).more hb.size, (h.yc.below hb).more hb.size, (h.yd.below hb).more hb.size⟩
/-- Whether one of the first ones has the key. -/
def thB (ps : List PV) (key : List UInt8) (k : Nat) : Bool := (ps.take k).any fun p => decide (p.key = key)
theorem thB_succ {ps : List PV} {key : List UInt8} {k : Nat} {p : PV} (h : ps[k]? = some p) : thB ps key (k + 1) = (thB ps key k || decide (p.key = key)) := by
  unfold thB
  rw [List.take_add_one, h, List.any_append]
  simp
set_option maxRecDepth 100000 in
set_option maxHeartbeats 8000000 in
theorem walk (A : Option Addr) (n c : Nat) (ps : List PV) (A' : Option Addr) (n' c' : Nat) (key : List UInt8) (W : World) (ha : Prs W W.heap.size A n ps) (hk : Kps W W.heap.size ps) (_ : n ≤ c) (_ : ∀ p ∈ ps, 0 ≤ p.val ∧ p.val ≤ 18446744073709551615) (hb : Byt W W.heap.size A' n' key) (hnc' : n' ≤ c') :
    Calls Tryz.prog 5 #[.slice A n c, .slice A' n' c'] W fun e w' => e = .returned (.bool true) ∧ Below W.heap.size W w' := by
  have hn9 : n' ≤ 9223372036854775807 := by have := hb.2.1; unfold maxLen at this; omega
  have H1 := nfar_any A n c W.heap.size 300 ps W ha (Nat.le_refl _) (by omega)
  rw [show ((300 : Nat) : Int) = 300 from rfl] at H1
  have H1 := Lib.hid H1
  have HA := Lib.hid (fun V (h : Below W.heap.size W V) => ha.below h)
  have HK := Lib.hid (fun V (h : Below W.heap.size W V) => hk.below h)
  have HB := Lib.hid (fun V (h : Below W.heap.size W V) => hb.below h)
  have HC := Lib.hid hnc'
  have HLN := Lib.hid ha.1
  clear ha hk hb hnc'
  go_enter Tryz.func5, Tryz.ntmps5
  go_wp2_with fail
  (with_reducible refine H1.out.mono ?_)
  rintro e w1 ⟨rfl, b1⟩
  have B1 := Lib.hid b1
  obtain ⟨fb, hfb⟩ : ∃ b, farP ps 300 = b := ⟨_, rfl⟩
  rw [hfb]
  have HFB := Lib.hid hfb
  clear b1 hfb H1
  by_cases hfar : fb = true ∨ 600 < n'
  · have H2 := Lib.hid (nalive_any w1)
    cases fb with
    | true =>
      clear hfar
      go_wp2_with fail
      (with_reducible refine H2.out.mono ?_)
      rintro e w2 ⟨rfl, b2⟩
      have B2 := Lib.hid (B1.out.trans (b2.mono B1.out.size))
      clear b2
      go_wp2_with fail
      go_ret
      exact ⟨rfl, B2.out⟩
    | false =>
      have i1 : decide ((600 : Int) < (n' : Int)) = true := decide_eq_true (by
        rcases hfar with q | q
        · cases q
        · omega)
      clear hfar
      go_wp2_with fail
      (with_reducible refine H2.out.mono ?_)
      rintro e w2 ⟨rfl, b2⟩
      have B2 := Lib.hid (B1.out.trans (b2.mono B1.out.size))
      clear b2
      go_wp2_with fail
      go_ret
      exact ⟨rfl, B2.out⟩
  · have hfb : fb = false := by
      cases fb with
      | false => rfl
      | true => exact absurd (.inl rfl) hfar
    subst hfb
    have hq : n' ≤ 600 := by
      rcases Nat.lt_or_ge 600 n' with q | q
      · exact absurd (.inr q) hfar
      · exact q
    have HSM := Lib.hid hq
    have i1 : decide ((600 : Int) < (n' : Int)) = false := decide_eq_false (by omega)
    clear hfar hq
    obtain ⟨f1, f2⟩ := nfarP_no HFB.out
    have hn300 : n ≤ 300 := by have := HLN.out; omega
    have F2 := Lib.hid f2
    have HS := Lib.hid (rsort_any A n c W.heap.size ps w1 (HA.out w1 B1.out) (HK.out w1 B1.out) B1.out.size (by omega))
    clear f1 f2
    go_wp2_with fail
    (with_reducible refine HS.out.mono ?_)
    rintro e w2 ⟨A2, c2, rfl, hc2, p2, _, b2⟩
    obtain ⟨ps2, hps2⟩ : ∃ l, sortS ps = l := ⟨_, rfl⟩
    obtain ⟨n2, hn2⟩ : ∃ k, (sortS ps).length = k := ⟨_, rfl⟩
    have hn2a : n2 ≤ 300 := by
      have := (sortS_len ps).1
      have := HLN.out
      omega
    have hrs : Rsn ps2 := hps2 ▸ sortS_rise ps
    have hk2 : ∀ p ∈ ps2, p.key.length ≤ 300 := hps2 ▸ sortS_all (P := fun p => p.key.length ≤ 300) (fun _ _ h _ => h) F2.out
    have hkp : ∀ V, Below W.heap.size W V → Kps V W.heap.size ps2 := fun V hb => hps2 ▸ Kps.sort (HK.out V hb)
    rw [hn2] at p2 hc2 ⊢
    rw [hps2] at p2 hn2
    have b2' : Below W.heap.size W w2 := B1.out.trans (b2.mono B1.out.size)
    have hok := nrT_ok hrs hk2 (by omega)
    have HT := Lib.hid (ntree_any A2 n2 c2 w2.heap.size ps2 w2 p2 ((hkp w2 b2').more b2'.size) (Nat.le_refl _) (by omega) hrs hk2)
    have ZV := Lib.hid (fun V (h : Below w2.heap.size w2 V) => show Prs V w2.heap.size A2 n2 ps2 ∧ Below W.heap.size W V from ⟨p2.below h, b2'.trans (h.mono b2'.size)⟩)
    have HRS := Lib.hid hrs
    have HOK := Lib.hid hok
    have HN2 := Lib.hid (And.intro hn2 hn2a)
    have HK2 := Lib.hid hk2
    clear hps2 hrs hk2 hkp p2 b2 b2' hn2 hc2 hok HS
    go_wp2_with fail
    (with_reducible refine HT.out.mono ?_)
    rintro e w3 ⟨p, rfl, t3, b3⟩
    have T3 := Lib.hid t3
    have B3 := Lib.hid b3
    have HZW := Lib.hid (fun (V : World) (h : Below w3.heap.size w3 V) => (ZV.out V (B3.out.trans (h.mono B3.out.size))).2)
    clear t3 b3 HT
    have HZL := Lib.hid (show ∀ p ∈ ps2, p.n = p.key.length ∧ p.key.length ≤ 300 from fun p hp => by
      obtain ⟨j, hj⟩ := List.mem_iff_getElem?.1 hp
      exact ⟨((ZV.out w2 (Below.refl _ _)).1.2.2.1 j p hj).1.symm, HK2.out p hp⟩)
    have HKV := Lib.hid (fun (V : World) (h : Below w3.heap.size w3 V) => show Byt V V.heap.size A' n' key from (HB.out V (HZW.out V h)).more (HZW.out V h).size)
    have TV := Lib.hid (fun (V : World) (h : Below w3.heap.size w3 V) => T3.out.below h)
    have hn6 : n' ≤ 600 := HSM.out
    obtain ⟨rl, hrl⟩ : ∃ r, atP ps2 ((aheadN (ps2.map kvP) key : Int) - 1) = r := ⟨_, rfl⟩
    obtain ⟨rf, hrf⟩ : ∃ r, atP ps2 ((aheadN (ps2.map kvP) (key ++ [0]) : Int) - 1) = r := ⟨_, rfl⟩
    obtain ⟨rc, hrc⟩ : ∃ r, atP ps2 (aheadN (ps2.map kvP) key : Int) = r := ⟨_, rfl⟩
    obtain ⟨rh, hrh⟩ : ∃ r, atP ps2 (aheadN (ps2.map kvP) (key ++ [0]) : Int) = r := ⟨_, rfl⟩
    have HR := Lib.hid (And.intro hrl (And.intro hrf (And.intro hrc hrh)))
    have hm4 := nlower_any (nrT ps2) p A' n' c' key w3 (TV.out w3 (Below.refl _ _)) HOK.out.wf HOK.out.full HOK.out.len (HKV.out w3 (Below.refl _ _)) HC.out (by omega)
    rw [HOK.out.list, at_lt HRS.out, hrl] at hm4
    have H4 := Lib.hid (hm4.mono fun e w' h => h.in_ rfl (gat_len hrl HZL.out).1)
    clear hm4
    go_wp2_with fail
    (with_reducible refine H4.out.mono ?_)
    rintro e w4 ⟨Aa, ca, rfl, y4, _, _, b4⟩
    obtain ⟨V4, hV4⟩ : ∃ V, w4.alloc (.cells #[.slice Aa (pvO rl).n ca, .int .u64 (pvO rl).val] 31) = V := ⟨_, rfl⟩
    have bv4 : Below w4.heap.size w4 V4 := by rw [← hV4]; exact new_ _ _
    have kv4 : Blk V4 w4.heap.size #[.slice Aa (pvO rl).n ca, .int .u64 (pvO rl).val] := by rw [← hV4]; exact Blk.new _ _ _
    have sv4 : V4.heap.size = w4.heap.size + 1 := by rw [← hV4]; simp
    have bb4 : Below w3.heap.size w3 V4 := b4.trans (bv4.mono (by have := b4.size; omega))
    have hm5 := nfloor_any (nrT ps2) p A' n' c' key V4 (TV.out V4 bb4) HOK.out.wf HOK.out.full HOK.out.len (HKV.out V4 bb4) (by omega)
    rw [HOK.out.list, at_lt HRS.out, hrf] at hm5
    have H5 := Lib.hid (hm5.mono fun e w' h => h.in_ rfl (gat_len hrf HZL.out).1)
    have HV4 := Lib.hid hV4
    have Q4 := Lib.hid (And.intro y4 (And.intro b4 (And.intro bv4 (And.intro kv4 (And.intro sv4 bb4)))))
    clear hm5 y4 b4 bv4 kv4 sv4 bb4 hV4 H4
    go_wp2_with fail
    rw [HV4.out]
    (with_reducible refine H5.out.mono ?_)
    rintro e w5 ⟨Ab, cb, rfl, y5, _, _, b5⟩
    obtain ⟨V5, hV5⟩ : ∃ V, w5.alloc (.cells #[.slice Ab (pvO rf).n cb, .int .u64 (pvO rf).val] 31) = V := ⟨_, rfl⟩
    have bv5 : Below w5.heap.size w5 V5 := by rw [← hV5]; exact new_ _ _
    have kv5 : Blk V5 w5.heap.size #[.slice Ab (pvO rf).n cb, .int .u64 (pvO rf).val] := by rw [← hV5]; exact Blk.new _ _ _
    have sv5 : V5.heap.size = w5.heap.size + 1 := by rw [← hV5]; simp
    have bb5 : Below w3.heap.size w3 V5 := (Q4.out.2.2.2.2.2.trans (b5.mono Q4.out.2.2.2.2.2.size)).trans (bv5.mono (by have := (Q4.out.2.2.2.2.2.trans (b5.mono Q4.out.2.2.2.2.2.size)).size; omega))
    have hm6 := nceil_any (nrT ps2) p A' n' c' key V5 (TV.out V5 bb5) HOK.out.wf HOK.out.full HOK.out.len (HKV.out V5 bb5) HC.out (by omega)
    rw [HOK.out.list, at_ge HRS.out, hrc] at hm6
    have H6 := Lib.hid (hm6.mono fun e w' h => h.in_ rfl (gat_len hrc HZL.out).1)
    have HV5 := Lib.hid hV5
    have Q5 := Lib.hid (And.intro y5 (And.intro b5 (And.intro bv5 (And.intro kv5 (And.intro sv5 bb5)))))
    clear hm6 y5 b5 bv5 kv5 sv5 bb5 hV5 H5
    go_wp2_with fail
    rw [HV5.out]
    (with_reducible refine H6.out.mono ?_)
    rintro e w6 ⟨Ac, cc, rfl, y6, _, _, b6⟩
    obtain ⟨V6, hV6⟩ : ∃ V, w6.alloc (.cells #[.slice Ac (pvO rc).n cc, .int .u64 (pvO rc).val] 31) = V := ⟨_, rfl⟩
    have bv6 : Below w6.heap.size w6 V6 := by rw [← hV6]; exact new_ _ _
    have kv6 : Blk V6 w6.heap.size #[.slice Ac (pvO rc).n cc, .int .u64 (pvO rc).val] := by rw [← hV6]; exact Blk.new _ _ _
    have sv6 : V6.heap.size = w6.heap.size + 1 := by rw [← hV6]; simp
    have bb6 : Below w3.heap.size w3 V6 := (Q5.out.2.2.2.2.2.trans (b6.mono Q5.out.2.2.2.2.2.size)).trans (bv6.mono (by have := (Q5.out.2.2.2.2.2.trans (b6.mono Q5.out.2.2.2.2.2.size)).size; omega))
    have hm7 := nhigher_any (nrT ps2) p A' n' c' key V6 (TV.out V6 bb6) HOK.out.wf HOK.out.full HOK.out.len (HKV.out V6 bb6) (by omega)
    rw [HOK.out.list, at_ge HRS.out, hrh] at hm7
    have H7 := Lib.hid (hm7.mono fun e w' h => h.in_ rfl (gat_len hrh HZL.out).1)
    have HV6 := Lib.hid hV6
    have Q6 := Lib.hid (And.intro y6 (And.intro b6 (And.intro bv6 (And.intro kv6 (And.intro sv6 bb6)))))
    clear hm7 y6 b6 bv6 kv6 sv6 bb6 hV6 H6
    go_wp2_with fail
    rw [HV6.out]
    (with_reducible refine H7.out.mono ?_)
    rintro e w7 ⟨Ad, cd, rfl, y7, _, _, b7⟩
    obtain ⟨V7, hV7⟩ : ∃ V, w7.alloc (.cells #[.slice Ad (pvO rh).n cd, .int .u64 (pvO rh).val] 31) = V := ⟨_, rfl⟩
    have bv7 : Below w7.heap.size w7 V7 := by rw [← hV7]; exact new_ _ _
    have kv7 : Blk V7 w7.heap.size #[.slice Ad (pvO rh).n cd, .int .u64 (pvO rh).val] := by rw [← hV7]; exact Blk.new _ _ _
    have sv7 : V7.heap.size = w7.heap.size + 1 := by rw [← hV7]; simp
    have bb7 : Below w3.heap.size w3 V7 := (Q6.out.2.2.2.2.2.trans (b7.mono Q6.out.2.2.2.2.2.size)).trans (bv7.mono (by have := (Q6.out.2.2.2.2.2.trans (b7.mono Q6.out.2.2.2.2.2.size)).size; omega))
    have hG : G4 V7 w4.heap.size w5.heap.size w6.heap.size w7.heap.size Aa Ab Ac Ad ca cb cc cd (pvO rl) (pvO rf) (pvO rc) (pvO rh) := by
      obtain ⟨p1, p2, p3, p4, p5, _⟩ := Q4.out
      obtain ⟨q1, q2, q3, q4, q5, _⟩ := Q5.out
      obtain ⟨r1, r2, r3, r4, r5, _⟩ := Q6.out
      have m4 := p2.size; have m5 := q2.size; have m6 := r2.size; have m7 := b7.size
      have t6 : Below V6.heap.size V6 V7 := b7.trans (bv7.mono m7)
      have t5 : Below V5.heap.size V5 V7 := (r2.trans (r3.mono m6)).trans (t6.mono (by omega))
      have t4 : Below V4.heap.size V4 V7 := (q2.trans (q3.mono m5)).trans (t5.mono (by omega))
      have s4 : Below w4.heap.size w4 V7 := p3.trans (t4.mono (by omega))
      have s5 : Below w5.heap.size w5 V7 := q3.trans (t5.mono (by omega))
      have s6 : Below w6.heap.size w6 V7 := r3.trans (t6.mono (by omega))
      exact ⟨p4.below t4 p4.lt, q4.below t5 q4.lt, r4.below t6 r4.lt, kv7, (p1.below s4).more s4.size, (q1.below s5).more s5.size, (r1.below s6).more s6.size, (y7.below bv7).more bv7.size⟩
    have HG := Lib.hid (fun (V : World) (h : Below V7.heap.size V7 V) => hG.below h)
    have BB := Lib.hid (fun (V : World) (h : Below V7.heap.size V7 V) => show Below w3.heap.size w3 V from bb7.trans (h.mono bb7.size))
    have HV7 := Lib.hid hV7
    obtain ⟨ba, hba⟩ : ∃ b, rl.isSome = b := ⟨_, rfl⟩
    obtain ⟨bb, hbb⟩ : ∃ b, rf.isSome = b := ⟨_, rfl⟩
    obtain ⟨bc, hbc⟩ : ∃ b, rc.isSome = b := ⟨_, rfl⟩
    obtain ⟨bd, hbd⟩ : ∃ b, rh.isSome = b := ⟨_, rfl⟩
    have HBS := Lib.hid (And.intro hba (And.intro hbb (And.intro hbc hbd)))
    obtain ⟨va, hva⟩ : ∃ z, cmpL (pvO rl).key key = z := ⟨_, rfl⟩
    obtain ⟨vb, hvb⟩ : ∃ z, cmpL (pvO rf).key key = z := ⟨_, rfl⟩
    obtain ⟨vc, hvc⟩ : ∃ z, cmpL (pvO rc).key key = z := ⟨_, rfl⟩
    obtain ⟨vd, hvd⟩ : ∃ z, cmpL (pvO rh).key key = z := ⟨_, rfl⟩
    have DA := Lib.hid (show ba = true → decide (0 ≤ va) = false from fun h => by
      rw [← hba] at h
      obtain ⟨q, hq⟩ := Option.isSome_iff_exists.1 h
      rw [hq] at hrl hva
      have := gap_lo HRS.out key hrl
      exact decide_eq_false (by rw [← hva]; show ¬ 0 ≤ cmpL q.key key; omega))
    have DB := Lib.hid (show bb = true → decide (0 < vb) = false from fun h => by
      rw [← hbb] at h
      obtain ⟨q, hq⟩ := Option.isSome_iff_exists.1 h
      rw [hq] at hrf hvb
      have := gap_fl HRS.out key hrf
      exact decide_eq_false (by rw [← hvb]; show ¬ 0 < cmpL q.key key; omega))
    have DC := Lib.hid (show bc = true → decide (vc < 0) = false from fun h => by
      rw [← hbc] at h
      obtain ⟨q, hq⟩ := Option.isSome_iff_exists.1 h
      rw [hq] at hrc hvc
      have := gap_ce HRS.out key hrc
      exact decide_eq_false (by rw [← hvc]; show ¬ cmpL q.key key < 0; omega))
    have DD := Lib.hid (show bd = true → decide (vd ≤ 0) = false from fun h => by
      rw [← hbd] at h
      obtain ⟨q, hq⟩ := Option.isSome_iff_exists.1 h
      rw [hq] at hrh hvd
      have := gap_hi HRS.out key hrh
      exact decide_eq_false (by rw [← hvd]; show ¬ cmpL q.key key ≤ 0; omega))
    have HCa := Lib.hid (fun (V : World) (h : Below V7.heap.size V7 V) => show Calls Tryz.prog 25 #[.slice Aa (pvO rl).n ca, .slice A' n' c'] V (fun e w' => e = .returned (.int .i64 va) ∧ Still V w') from by rw [← hva]; exact rcmp_any _ _ _ _ _ _ V.heap.size _ _ V (HG.out V h).ya (HKV.out V (BB.out V h)))
    have HCb := Lib.hid (fun (V : World) (h : Below V7.heap.size V7 V) => show Calls Tryz.prog 25 #[.slice Ab (pvO rf).n cb, .slice A' n' c'] V (fun e w' => e = .returned (.int .i64 vb) ∧ Still V w') from by rw [← hvb]; exact rcmp_any _ _ _ _ _ _ V.heap.size _ _ V (HG.out V h).yb (HKV.out V (BB.out V h)))
    have HCc := Lib.hid (fun (V : World) (h : Below V7.heap.size V7 V) => show Calls Tryz.prog 25 #[.slice Ac (pvO rc).n cc, .slice A' n' c'] V (fun e w' => e = .returned (.int .i64 vc) ∧ Still V w') from by rw [← hvc]; exact rcmp_any _ _ _ _ _ _ V.heap.size _ _ V (HG.out V h).yc (HKV.out V (BB.out V h)))
    have HCd := Lib.hid (fun (V : World) (h : Below V7.heap.size V7 V) => show Calls Tryz.prog 25 #[.slice Ad (pvO rh).n cd, .slice A' n' c'] V (fun e w' => e = .returned (.int .i64 vd) ∧ Still V w') from by rw [← hvd]; exact rcmp_any _ _ _ _ _ _ V.heap.size _ _ V (HG.out V h).yd (HKV.out V (BB.out V h)))
    clear hrl hrf hrc hrh hva hvb hvc hvd y7 b7 bv7 kv7 sv7 bb7 hV7 hG H7 Q4 Q5 Q6
    go_upto_region 8 with fail
    rw [HV7.out]
    go_cut [90] (fun v90 wc => v90 = .bool false ∧ Hid (Below V7.heap.size V7 wc))
    case first =>
      cases ba with
      | true =>
        cases bb with
        | true =>
          cases bc with
          | true =>
            cases bd with
            | true =>
              have dda := DA.out rfl
              have ddb := DB.out rfl
              have ddc := DC.out rfl
              have ddd := DD.out rfl
              have e0 := (HG.out V7 (Below.refl _ _)).a.cell 0
              have HQ0 := Lib.hid (HCa.out V7 (Below.refl _ _))
              go_wp2_with fail
              (with_reducible refine HQ0.out.mono ?_)
              rintro e U0 ⟨rfl, s0⟩
              have BU0 : Below V7.heap.size V7 U0 := s0.below _
              clear e0 HQ0 s0
              have e0 := (HG.out U0 BU0).b.cell 0
              have HQ1 := Lib.hid (HCb.out U0 BU0)
              go_wp2_with fail
              (with_reducible refine HQ1.out.mono ?_)
              rintro e U1 ⟨rfl, s1⟩
              have BU1 : Below V7.heap.size V7 U1 := BU0.trans (s1.below _)
              clear e0 HQ1 s1
              have e0 := (HG.out U1 BU1).c.cell 0
              have HQ2 := Lib.hid (HCc.out U1 BU1)
              go_wp2_with fail
              (with_reducible refine HQ2.out.mono ?_)
              rintro e U2 ⟨rfl, s2⟩
              have BU2 : Below V7.heap.size V7 U2 := BU1.trans (s2.below _)
              clear e0 HQ2 s2
              have e0 := (HG.out U2 BU2).d.cell 0
              have HQ3 := Lib.hid (HCd.out U2 BU2)
              go_wp2_with fail
              (with_reducible refine HQ3.out.mono ?_)
              rintro e U3 ⟨rfl, s3⟩
              have BU3 : Below V7.heap.size V7 U3 := BU2.trans (s3.below _)
              clear e0 HQ3 s3
              have FB := Lib.hid BU3
              clear BU0 BU1 BU2 BU3
              go_wp2_with fail
              go_meet
              exact ⟨rfl, FB⟩
            | false =>
              have dda := DA.out rfl
              have ddb := DB.out rfl
              have ddc := DC.out rfl
              have e0 := (HG.out V7 (Below.refl _ _)).a.cell 0
              have HQ0 := Lib.hid (HCa.out V7 (Below.refl _ _))
              go_wp2_with fail
              (with_reducible refine HQ0.out.mono ?_)
              rintro e U0 ⟨rfl, s0⟩
              have BU0 : Below V7.heap.size V7 U0 := s0.below _
              clear e0 HQ0 s0
              have e0 := (HG.out U0 BU0).b.cell 0
              have HQ1 := Lib.hid (HCb.out U0 BU0)
              go_wp2_with fail
              (with_reducible refine HQ1.out.mono ?_)
              rintro e U1 ⟨rfl, s1⟩
              have BU1 : Below V7.heap.size V7 U1 := BU0.trans (s1.below _)
              clear e0 HQ1 s1
              have e0 := (HG.out U1 BU1).c.cell 0
              have HQ2 := Lib.hid (HCc.out U1 BU1)
              go_wp2_with fail
              (with_reducible refine HQ2.out.mono ?_)
              rintro e U2 ⟨rfl, s2⟩
              have BU2 : Below V7.heap.size V7 U2 := BU1.trans (s2.below _)
              clear e0 HQ2 s2
              have FB := Lib.hid BU2
              clear BU0 BU1 BU2
              go_wp2_with fail
              go_meet
              exact ⟨rfl, FB⟩
          | false =>
            cases bd with
            | true =>
              have dda := DA.out rfl
              have ddb := DB.out rfl
              have ddd := DD.out rfl
              have e0 := (HG.out V7 (Below.refl _ _)).a.cell 0
              have HQ0 := Lib.hid (HCa.out V7 (Below.refl _ _))
              go_wp2_with fail
              (with_reducible refine HQ0.out.mono ?_)
              rintro e U0 ⟨rfl, s0⟩
              have BU0 : Below V7.heap.size V7 U0 := s0.below _
              clear e0 HQ0 s0
              have e0 := (HG.out U0 BU0).b.cell 0
              have HQ1 := Lib.hid (HCb.out U0 BU0)
              go_wp2_with fail
              (with_reducible refine HQ1.out.mono ?_)
              rintro e U1 ⟨rfl, s1⟩
              have BU1 : Below V7.heap.size V7 U1 := BU0.trans (s1.below _)
              clear e0 HQ1 s1
              have e0 := (HG.out U1 BU1).d.cell 0
              have HQ2 := Lib.hid (HCd.out U1 BU1)
              go_wp2_with fail
              (with_reducible refine HQ2.out.mono ?_)
              rintro e U2 ⟨rfl, s2⟩
              have BU2 : Below V7.heap.size V7 U2 := BU1.trans (s2.below _)
              clear e0 HQ2 s2
              have FB := Lib.hid BU2
              clear BU0 BU1 BU2
              go_wp2_with fail
              go_meet
              exact ⟨rfl, FB⟩
            | false =>
              have dda := DA.out rfl
              have ddb := DB.out rfl
              have e0 := (HG.out V7 (Below.refl _ _)).a.cell 0
              have HQ0 := Lib.hid (HCa.out V7 (Below.refl _ _))
              go_wp2_with fail
              (with_reducible refine HQ0.out.mono ?_)
              rintro e U0 ⟨rfl, s0⟩
              have BU0 : Below V7.heap.size V7 U0 := s0.below _
              clear e0 HQ0 s0
              have e0 := (HG.out U0 BU0).b.cell 0
              have HQ1 := Lib.hid (HCb.out U0 BU0)
              go_wp2_with fail
              (with_reducible refine HQ1.out.mono ?_)
              rintro e U1 ⟨rfl, s1⟩
              have BU1 : Below V7.heap.size V7 U1 := BU0.trans (s1.below _)
              clear e0 HQ1 s1
              have FB := Lib.hid BU1
              clear BU0 BU1
              go_wp2_with fail
              go_meet
              exact ⟨rfl, FB⟩
        | false =>
          cases bc with
          | true =>
            cases bd with
            | true =>
              have dda := DA.out rfl
              have ddc := DC.out rfl
              have ddd := DD.out rfl
              have e0 := (HG.out V7 (Below.refl _ _)).a.cell 0
              have HQ0 := Lib.hid (HCa.out V7 (Below.refl _ _))
              go_wp2_with fail
              (with_reducible refine HQ0.out.mono ?_)
              rintro e U0 ⟨rfl, s0⟩
              have BU0 : Below V7.heap.size V7 U0 := s0.below _
              clear e0 HQ0 s0
              have e0 := (HG.out U0 BU0).c.cell 0
              have HQ1 := Lib.hid (HCc.out U0 BU0)
              go_wp2_with fail
              (with_reducible refine HQ1.out.mono ?_)
              rintro e U1 ⟨rfl, s1⟩
              have BU1 : Below V7.heap.size V7 U1 := BU0.trans (s1.below _)
              clear e0 HQ1 s1
              have e0 := (HG.out U1 BU1).d.cell 0
              have HQ2 := Lib.hid (HCd.out U1 BU1)
              go_wp2_with fail
              (with_reducible refine HQ2.out.mono ?_)
              rintro e U2 ⟨rfl, s2⟩
              have BU2 : Below V7.heap.size V7 U2 := BU1.trans (s2.below _)
              clear e0 HQ2 s2
              have FB := Lib.hid BU2
              clear BU0 BU1 BU2
              go_wp2_with fail
              go_meet
              exact ⟨rfl, FB⟩
            | false =>
              have dda := DA.out rfl
              have ddc := DC.out rfl
              have e0 := (HG.out V7 (Below.refl _ _)).a.cell 0
              have HQ0 := Lib.hid (HCa.out V7 (Below.refl _ _))
              go_wp2_with fail
              (with_reducible refine HQ0.out.mono ?_)
              rintro e U0 ⟨rfl, s0⟩
              have BU0 : Below V7.heap.size V7 U0 := s0.below _
              clear e0 HQ0 s0
              have e0 := (HG.out U0 BU0).c.cell 0
              have HQ1 := Lib.hid (HCc.out U0 BU0)
              go_wp2_with fail
              (with_reducible refine HQ1.out.mono ?_)
              rintro e U1 ⟨rfl, s1⟩
              have BU1 : Below V7.heap.size V7 U1 := BU0.trans (s1.below _)
              clear e0 HQ1 s1
              have FB := Lib.hid BU1
              clear BU0 BU1
              go_wp2_with fail
              go_meet
              exact ⟨rfl, FB⟩
          | false =>
            cases bd with
            | true =>
              have dda := DA.out rfl
              have ddd := DD.out rfl
              have e0 := (HG.out V7 (Below.refl _ _)).a.cell 0
              have HQ0 := Lib.hid (HCa.out V7 (Below.refl _ _))
              go_wp2_with fail
              (with_reducible refine HQ0.out.mono ?_)
              rintro e U0 ⟨rfl, s0⟩
              have BU0 : Below V7.heap.size V7 U0 := s0.below _
              clear e0 HQ0 s0
              have e0 := (HG.out U0 BU0).d.cell 0
              have HQ1 := Lib.hid (HCd.out U0 BU0)
              go_wp2_with fail
              (with_reducible refine HQ1.out.mono ?_)
              rintro e U1 ⟨rfl, s1⟩
              have BU1 : Below V7.heap.size V7 U1 := BU0.trans (s1.below _)
              clear e0 HQ1 s1
              have FB := Lib.hid BU1
              clear BU0 BU1
              go_wp2_with fail
              go_meet
              exact ⟨rfl, FB⟩
            | false =>
              have dda := DA.out rfl
              have e0 := (HG.out V7 (Below.refl _ _)).a.cell 0
              have HQ0 := Lib.hid (HCa.out V7 (Below.refl _ _))
              go_wp2_with fail
              (with_reducible refine HQ0.out.mono ?_)
              rintro e U0 ⟨rfl, s0⟩
              have BU0 : Below V7.heap.size V7 U0 := s0.below _
              clear e0 HQ0 s0
              have FB := Lib.hid BU0
              clear BU0
              go_wp2_with fail
              go_meet
              exact ⟨rfl, FB⟩
      | false =>
        cases bb with
        | true =>
          cases bc with
          | true =>
            cases bd with
            | true =>
              have ddb := DB.out rfl
              have ddc := DC.out rfl
              have ddd := DD.out rfl
              have e0 := (HG.out V7 (Below.refl _ _)).b.cell 0
              have HQ0 := Lib.hid (HCb.out V7 (Below.refl _ _))
              go_wp2_with fail
              (with_reducible refine HQ0.out.mono ?_)
              rintro e U0 ⟨rfl, s0⟩
              have BU0 : Below V7.heap.size V7 U0 := s0.below _
              clear e0 HQ0 s0
              have e0 := (HG.out U0 BU0).c.cell 0
              have HQ1 := Lib.hid (HCc.out U0 BU0)
              go_wp2_with fail
              (with_reducible refine HQ1.out.mono ?_)
              rintro e U1 ⟨rfl, s1⟩
              have BU1 : Below V7.heap.size V7 U1 := BU0.trans (s1.below _)
              clear e0 HQ1 s1
              have e0 := (HG.out U1 BU1).d.cell 0
              have HQ2 := Lib.hid (HCd.out U1 BU1)
              go_wp2_with fail
              (with_reducible refine HQ2.out.mono ?_)
              rintro e U2 ⟨rfl, s2⟩
              have BU2 : Below V7.heap.size V7 U2 := BU1.trans (s2.below _)
              clear e0 HQ2 s2
              have FB := Lib.hid BU2
              clear BU0 BU1 BU2
              go_wp2_with fail
              go_meet
              exact ⟨rfl, FB⟩
            | false =>
              have ddb := DB.out rfl
              have ddc := DC.out rfl
              have e0 := (HG.out V7 (Below.refl _ _)).b.cell 0
              have HQ0 := Lib.hid (HCb.out V7 (Below.refl _ _))
              go_wp2_with fail
              (with_reducible refine HQ0.out.mono ?_)
              rintro e U0 ⟨rfl, s0⟩
              have BU0 : Below V7.heap.size V7 U0 := s0.below _
              clear e0 HQ0 s0
              have e0 := (HG.out U0 BU0).c.cell 0
              have HQ1 := Lib.hid (HCc.out U0 BU0)
              go_wp2_with fail
              (with_reducible refine HQ1.out.mono ?_)
              rintro e U1 ⟨rfl, s1⟩
              have BU1 : Below V7.heap.size V7 U1 := BU0.trans (s1.below _)
              clear e0 HQ1 s1
              have FB := Lib.hid BU1
              clear BU0 BU1
              go_wp2_with fail
              go_meet
              exact ⟨rfl, FB⟩
          | false =>
            cases bd with
            | true =>
              have ddb := DB.out rfl
              have ddd := DD.out rfl
              have e0 := (HG.out V7 (Below.refl _ _)).b.cell 0
              have HQ0 := Lib.hid (HCb.out V7 (Below.refl _ _))
              go_wp2_with fail
              (with_reducible refine HQ0.out.mono ?_)
              rintro e U0 ⟨rfl, s0⟩
              have BU0 : Below V7.heap.size V7 U0 := s0.below _
              clear e0 HQ0 s0
              have e0 := (HG.out U0 BU0).d.cell 0
              have HQ1 := Lib.hid (HCd.out U0 BU0)
              go_wp2_with fail
              (with_reducible refine HQ1.out.mono ?_)
              rintro e U1 ⟨rfl, s1⟩
              have BU1 : Below V7.heap.size V7 U1 := BU0.trans (s1.below _)
              clear e0 HQ1 s1
              have FB := Lib.hid BU1
              clear BU0 BU1
              go_wp2_with fail
              go_meet
              exact ⟨rfl, FB⟩
            | false =>
              have ddb := DB.out rfl
              have e0 := (HG.out V7 (Below.refl _ _)).b.cell 0
              have HQ0 := Lib.hid (HCb.out V7 (Below.refl _ _))
              go_wp2_with fail
              (with_reducible refine HQ0.out.mono ?_)
              rintro e U0 ⟨rfl, s0⟩
              have BU0 : Below V7.heap.size V7 U0 := s0.below _
              clear e0 HQ0 s0
              have FB := Lib.hid BU0
              clear BU0
              go_wp2_with fail
              go_meet
              exact ⟨rfl, FB⟩
        | false =>
          cases bc with
          | true =>
            cases bd with
            | true =>
              have ddc := DC.out rfl
              have ddd := DD.out rfl
              have e0 := (HG.out V7 (Below.refl _ _)).c.cell 0
              have HQ0 := Lib.hid (HCc.out V7 (Below.refl _ _))
              go_wp2_with fail
              (with_reducible refine HQ0.out.mono ?_)
              rintro e U0 ⟨rfl, s0⟩
              have BU0 : Below V7.heap.size V7 U0 := s0.below _
              clear e0 HQ0 s0
              have e0 := (HG.out U0 BU0).d.cell 0
              have HQ1 := Lib.hid (HCd.out U0 BU0)
              go_wp2_with fail
              (with_reducible refine HQ1.out.mono ?_)
              rintro e U1 ⟨rfl, s1⟩
              have BU1 : Below V7.heap.size V7 U1 := BU0.trans (s1.below _)
              clear e0 HQ1 s1
              have FB := Lib.hid BU1
              clear BU0 BU1
              go_wp2_with fail
              go_meet
              exact ⟨rfl, FB⟩
            | false =>
              have ddc := DC.out rfl
              have e0 := (HG.out V7 (Below.refl _ _)).c.cell 0
              have HQ0 := Lib.hid (HCc.out V7 (Below.refl _ _))
              go_wp2_with fail
              (with_reducible refine HQ0.out.mono ?_)
              rintro e U0 ⟨rfl, s0⟩
              have BU0 : Below V7.heap.size V7 U0 := s0.below _
              clear e0 HQ0 s0
              have FB := Lib.hid BU0
              clear BU0
              go_wp2_with fail
              go_meet
              exact ⟨rfl, FB⟩
          | false =>
            cases bd with
            | true =>
              have ddd := DD.out rfl
              have e0 := (HG.out V7 (Below.refl _ _)).d.cell 0
              have HQ0 := Lib.hid (HCd.out V7 (Below.refl _ _))
              go_wp2_with fail
              (with_reducible refine HQ0.out.mono ?_)
              rintro e U0 ⟨rfl, s0⟩
              have BU0 : Below V7.heap.size V7 U0 := s0.below _
              clear e0 HQ0 s0
              have FB := Lib.hid BU0
              clear BU0
              go_wp2_with fail
              go_meet
              exact ⟨rfl, FB⟩
            | false =>
              have FB := Lib.hid (Below.refl V7.heap.size V7)
              go_wp2_with fail
              go_meet
              exact ⟨rfl, FB⟩
    case rest =>
      obtain ⟨rfl, HCB⟩ := hcut
      obtain ⟨V8, hV8⟩ : ∃ V, V = wc := ⟨_, rfl⟩
      rw [← hV8] at HCB ⊢
      clear hV8 wc
      have H9 := Lib.hid (nlist_any HOK.out (TV.out V8 (BB.out V8 HCB.out)) HN2.out.1)
      have hn9 : n2 ≤ 300 := HN2.out.2
      go_wp2_with fail
      (with_reducible refine H9.out.mono ?_)
      rintro e w9 ⟨Al, cl, qs, rfl, pl9, hqs, b9⟩
      have B9 := Lib.hid (HCB.out.trans (b9.mono HCB.out.size))
      have HQS := Lib.hid hqs
      have PL := Lib.hid (fun (V : World) (h : Below w9.heap.size w9 V) => pl9.below h)
      have B7V := Lib.hid (fun (V : World) (h : Below w9.heap.size w9 V) => show Below V7.heap.size V7 V from B9.out.trans (h.mono B9.out.size))
      have hth0 : thB ps2 key 0 = false := rfl
      have HT0 := Lib.hid hth0
      clear pl9 hqs b9 H9 hth0
      go_wp2_with fail
      go_loopw [14, 94] (fun v14 v94 wr => ∃ k : Nat, k ≤ n2 ∧ v94 = .int .i64 (k : Int) ∧ v14 = .bool (thB ps2 key k) ∧ Hid (Below w9.heap.size w9 wr)) (fun _ v94 _ => n2 - (intOf v94).toNat)
      case atStart => exact ⟨0, Nat.zero_le _, rfl, by rw [HT0.out], Lib.hid (Below.refl _ _)⟩
      case round =>
        obtain ⟨k, hk, rfl, rfl, HS⟩ := hrel
        by_cases h1 : k < n2
        · have hl2 := HN2.out.1
          obtain ⟨pk, hpk⟩ : ∃ x, ps2[k]? = some x := ⟨_, List.getElem?_eq_getElem (by omega)⟩
          obtain ⟨ad, u, rfl, hlt, e1, c1, c2, y1⟩ := (PL.out wr HS.out).at_ h1
          have hq1 : u.key = pk.key := by
            have h2 : (qs.map kvP)[k]? = (ps2.map kvP)[k]? := by rw [HQS.out]
            rw [List.getElem?_map, List.getElem?_map, e1, hpk] at h2
            exact (by simpa using h2 : u.key = pk.key ∧ u.val = pk.val).1
          have c2' : wr.cell? ⟨(ad.add (k * 2)).block, (ad.add (k * 2)).off + 1, none⟩ = some (.int .u64 u.val) := by rw [← add_of_add] at c2; exact c2
          obtain ⟨V1, hV1⟩ : ∃ V, wr.alloc (.cells #[.slice u.A u.n u.c, .int .u64 u.val] 31) = V := ⟨_, rfl⟩
          have bv1 : Below wr.heap.size wr V1 := by rw [← hV1]; exact new_ _ _
          have kv1 : Blk V1 wr.heap.size #[.slice u.A u.n u.c, .int .u64 u.val] := by rw [← hV1]; exact Blk.new _ _ _
          have bw1 : Below w9.heap.size w9 V1 := HS.out.trans (bv1.mono HS.out.size)
          have y2 := ((y1.more HS.out.size).below bv1).more bv1.size
          rw [hq1] at y2
          obtain ⟨cv, hcv⟩ : ∃ z, cmpL pk.key key = z := ⟨_, rfl⟩
          have HQ1 := Lib.hid (show Calls Tryz.prog 25 #[.slice u.A u.n u.c, .slice A' n' c'] V1 (fun e w' => e = .returned (.int .i64 cv) ∧ Still V1 w') from by rw [← hcv]; exact rcmp_any _ _ _ _ _ _ V1.heap.size _ _ V1 y2 (HKV.out V1 (BB.out V1 (B7V.out V1 bw1))))
          have HTH := Lib.hid (show thB ps2 key (k + 1) = (thB ps2 key k || (cv == 0)) from by
            rw [thB_succ hpk]
            congr 1
            rw [← hcv]
            by_cases h : pk.key = key
            · rw [decide_eq_true h, cmpL_zero.2 h]; rfl
            · rw [decide_eq_false h]
              exact (beq_eq_false_iff_ne.2 (fun q => h (cmpL_zero.1 q))).symm)
          have HCV := Lib.hid hcv
          have HPK := Lib.hid hpk
          have HV1 := Lib.hid hV1
          have BW1 := Lib.hid bw1
          have KV1 := Lib.hid (fun (V : World) (h : Below V1.heap.size V1 V) => show V.cell? ⟨wr.heap.size, 0, none⟩ = some (.slice u.A u.n u.c) from (kv1.below h kv1.lt).cell 0)
          have Y2 := Lib.hid (fun (V : World) (h : Below V1.heap.size V1 V) => show Byt V V.heap.size u.A u.n pk.key from (y2.below h).more h.size)
          have ewK : IntKind.i64.wrap ((k : Int) + 1) = ((k + 1 : Nat) : Int) := by rw [IntKind.wrap_i64]; omega
          have HK1 := Lib.hid h1
          obtain ⟨th, hth⟩ : ∃ b, thB ps2 key k = b := ⟨_, rfl⟩
          rw [hth] at HTH ⊢
          clear hV1 bv1 kv1 bw1 e1 c2 y1 y2 hq1 hpk hl2 hcv hth HS
          go_wp2_with fail
          rw [HV1.out]
          (with_reducible refine HQ1.out.mono ?_)
          rintro e V2 ⟨rfl, s2⟩
          have S2 := Lib.hid (s2.below V1.heap.size)
          have BW2 := Lib.hid (BW1.out.trans (s2.below _))
          have e0 := KV1.out V2 S2.out
          have G := HG.out V2 (B7V.out V2 BW2.out)
          have g0 := G.a.cell 0
          have g3 := G.d.cell 0
          clear s2 c1 c2' HQ1
          rcases Int.lt_trichotomy cv 0 with hc | hc | hc
          · obtain ⟨q, hq1, hq2⟩ := gap_below HRS.out key HPK.out (by rw [HCV.out]; exact hc)
            rw [HR.out.1] at hq1
            have hbt : ba = true := by rw [← HBS.out.1, hq1]; rfl
            subst hbt
            obtain ⟨cw, hcw⟩ : ∃ z, cmpL pk.key (pvO rl).key = z := ⟨_, rfl⟩
            have HQ2 := Lib.hid (show Calls Tryz.prog 25 #[.slice u.A u.n u.c, .slice Aa (pvO rl).n ca] V2 (fun e w' => e = .returned (.int .i64 cw) ∧ Still V2 w') from by rw [← hcw]; exact rcmp_any _ _ _ _ _ _ V2.heap.size _ _ V2 (Y2.out V2 S2.out) G.ya)
            have d1 : decide (0 < cw) = false := decide_eq_false (by rw [← hcw, hq1]; exact hq2)
            have d2 : decide (cv < 0) = true := decide_eq_true hc
            have d3 : decide (0 < cv) = false := decide_eq_false (by omega)
            have d4 : (cv == 0) = false := beq_eq_false_iff_ne.2 (by omega)
            rw [d4, Bool.or_false] at HTH
            clear hq1 hq2 hcw hc G
            cases th with
            | true =>
              go_wp2_with fail
              (with_reducible refine HQ2.out.mono ?_)
              rintro e V3 ⟨rfl, s3⟩
              have BW3 := Lib.hid (BW2.out.trans (s3.below _))
              clear s3 HQ2 e0 g0 g3
              go_wp2_with fail
              exact ⟨⟨k + 1, HK1.out, rfl, by rw [HTH.out], BW3⟩, by have := HK1.out; simp [intOf]; omega⟩
            | false =>
              go_wp2_with fail
              (with_reducible refine HQ2.out.mono ?_)
              rintro e V3 ⟨rfl, s3⟩
              have BW3 := Lib.hid (BW2.out.trans (s3.below _))
              clear s3 HQ2 e0 g0 g3
              go_wp2_with fail
              exact ⟨⟨k + 1, HK1.out, rfl, by rw [HTH.out], BW3⟩, by have := HK1.out; simp [intOf]; omega⟩
          · subst hc
            have d4 : ((0 : Int) == 0) = true := rfl
            rw [d4, Bool.or_true] at HTH
            clear G
            cases th with
            | true =>
              clear e0 g0 g3
              go_wp2_with fail
              exact ⟨⟨k + 1, HK1.out, rfl, by rw [HTH.out], BW2⟩, by have := HK1.out; simp [intOf]; omega⟩
            | false =>
              clear e0 g0 g3
              go_wp2_with fail
              exact ⟨⟨k + 1, HK1.out, rfl, by rw [HTH.out], BW2⟩, by have := HK1.out; simp [intOf]; omega⟩
          · obtain ⟨q, hq1, hq2⟩ := gap_above HRS.out key HPK.out (by rw [HCV.out]; exact hc)
            rw [HR.out.2.2.2] at hq1
            have hbt : bd = true := by rw [← HBS.out.2.2.2, hq1]; rfl
            subst hbt
            obtain ⟨cw, hcw⟩ : ∃ z, cmpL pk.key (pvO rh).key = z := ⟨_, rfl⟩
            have HQ2 := Lib.hid (show Calls Tryz.prog 25 #[.slice u.A u.n u.c, .slice Ad (pvO rh).n cd] V2 (fun e w' => e = .returned (.int .i64 cw) ∧ Still V2 w') from by rw [← hcw]; exact rcmp_any _ _ _ _ _ _ V2.heap.size _ _ V2 (Y2.out V2 S2.out) G.yd)
            have d1 : decide (cw < 0) = false := decide_eq_false (by rw [← hcw, hq1]; exact hq2)
            have d2 : decide (cv < 0) = false := decide_eq_false (by omega)
            have d3 : decide (0 < cv) = true := decide_eq_true hc
            have d4 : (cv == 0) = false := beq_eq_false_iff_ne.2 (by omega)
            rw [d4, Bool.or_false] at HTH
            clear hq1 hq2 hcw hc G
            cases th with
            | true =>
              go_wp2_with fail
              (with_reducible refine HQ2.out.mono ?_)
              rintro e V3 ⟨rfl, s3⟩
              have BW3 := Lib.hid (BW2.out.trans (s3.below _))
              clear s3 HQ2 e0 g0 g3
              go_wp2_with fail
              exact ⟨⟨k + 1, HK1.out, rfl, by rw [HTH.out], BW3⟩, by have := HK1.out; simp [intOf]; omega⟩
            | false =>
              go_wp2_with fail
              (with_reducible refine HQ2.out.mono ?_)
              rintro e V3 ⟨rfl, s3⟩
              have BW3 := Lib.hid (BW2.out.trans (s3.below _))
              clear s3 HQ2 e0 g0 g3
              go_wp2_with fail
              exact ⟨⟨k + 1, HK1.out, rfl, by rw [HTH.out], BW3⟩, by have := HK1.out; simp [intOf]; omega⟩
        · obtain rfl : k = n2 := by omega
          have hl2 := HN2.out.1
          have G := HG.out wr (B7V.out wr HS.out)
          have BWR := Lib.hid (BB.out wr (B7V.out wr HS.out))
          have SAM := Lib.hid (fun (V : World) (h : Below wr.heap.size wr V) => G.below h)
          have HKW := Lib.hid (fun (V : World) (h : Below wr.heap.size wr V) => HKV.out V (BWR.out.trans (h.mono BWR.out.size)))
          obtain ⟨th, hth⟩ : ∃ b, thB ps2 key k = b := ⟨_, rfl⟩
          rw [hth]
          have HTH := Lib.hid hth
          cases th with
          | true =>
            have h9 : ∃ (j : Nat) (q : PV), ps2[j]? = some q ∧ q.key = key := by
              have h := HTH.out
              unfold thB at h
              obtain ⟨q, hq1, hq2⟩ := List.any_eq_true.1 h
              obtain ⟨j, hj⟩ := List.mem_iff_getElem?.1 (List.mem_of_mem_take hq1)
              exact ⟨j, q, hj, of_decide_eq_true hq2⟩
            obtain ⟨j, q, hj, hqk⟩ := h9
            obtain ⟨t1, t2⟩ := gap_there HRS.out key hj hqk
            rw [HR.out.2.1] at t1
            rw [HR.out.2.2.1] at t2
            have hb1 : bb = true := by rw [← HBS.out.2.1, t1]; rfl
            have hb2 : bc = true := by rw [← HBS.out.2.2.1, t2]; rfl
            subst hb1 hb2 t1 t2
            have yb : Byt wr wr.heap.size Ab q.n q.key := G.yb
            have yc : Byt wr wr.heap.size Ac q.n q.key := G.yc
            have kb : Blk wr w5.heap.size #[.slice Ab q.n cb, .int .u64 q.val] := G.b
            have kc : Blk wr w6.heap.size #[.slice Ac q.n cc, .int .u64 q.val] := G.c
            rw [hqk] at yb yc
            have HS1 := Lib.hid (rsame_me Ab A' q.n n' cb c' wr.heap.size key wr yb (HKW.out wr (Below.refl _ _)))
            have KB := Lib.hid kb
            have KC := Lib.hid kc
            have YC := Lib.hid yc
            have e0 := kb.cell 0
            have u1 : (q.val == q.val) = true := beq_self_eq_true _
            clear yb yc kb kc hqk hj hth hl2 G
            go_wp2_with fail
            (with_reducible refine HS1.out.mono ?_)
            rintro e X1 ⟨rfl, s1⟩
            have bx1 : Below wr.heap.size wr X1 := s1.below _
            have HS2 := Lib.hid (rsame_me Ac A' q.n n' cc c' X1.heap.size key X1 ((YC.out.below bx1).more bx1.size) (HKW.out X1 bx1))
            have BX1 := Lib.hid bx1
            have e1 := (KC.out.below bx1 KC.out.lt).cell 0
            clear s1 bx1 HS1 e0
            go_wp2_with fail
            (with_reducible refine HS2.out.mono ?_)
            rintro e X2 ⟨rfl, s2⟩
            have bx2 : Below wr.heap.size wr X2 := BX1.out.trans (s2.below _)
            have e2 := (KB.out.below bx2 KB.out.lt).cell 1
            have e3 := (KC.out.below bx2 KC.out.lt).cell 1
            have HE := Lib.hid (nalive_any X2)
            have BX2 := Lib.hid bx2
            clear s2 bx2 HS2 e1
            go_wp2_with fail
            (with_reducible refine HE.out.mono ?_)
            rintro e f ⟨rfl, uf⟩
            have FB := Lib.hid (HZW.out f ((BWR.out.trans (BX2.out.mono BWR.out.size)).trans (uf.mono (Nat.le_trans BWR.out.size BX2.out.size))))
            clear uf HE e2 e3
            go_wp2_with fail
            go_ret
            exact ⟨rfl, FB.out⟩
          | false =>
            have h9 : ∀ q ∈ ps2, q.key ≠ key := fun q hq e => by
              have h := HTH.out
              unfold thB at h
              rw [List.take_of_length_le (by omega)] at h
              have := List.any_eq_false.1 h q hq
              rw [decide_eq_true e] at this
              exact this rfl
            have h10 := gap_not HRS.out key h9
            obtain ⟨z1, z2, z3, z4⟩ := HR.out
            have hf : rf = rl := by rw [← z2, ← z1, h10]
            have hh : rh = rc := by rw [← z4, ← z3, h10]
            have hb1 : bb = ba := by rw [← HBS.out.1, ← HBS.out.2.1, hf]
            have hb2 : bd = bc := by rw [← HBS.out.2.2.1, ← HBS.out.2.2.2, hh]
            subst hb1 hb2 hf hh
            have HS1 := Lib.hid (rsame_me Ab Aa (pvO rf).n (pvO rf).n cb ca wr.heap.size (pvO rf).key wr G.yb G.ya)
            have e0 := G.b.cell 0
            have e1 := G.a.cell 0
            have u1 : (bb == bb) = true := beq_self_eq_true _
            have u2 : (bd == bd) = true := beq_self_eq_true _
            clear h9 h10 z1 z2 z3 z4 hth hl2 G
            go_wp2_with fail
            (with_reducible refine HS1.out.mono ?_)
            rintro e X1 ⟨rfl, s1⟩
            have bx1 : Below wr.heap.size wr X1 := s1.below _
            have G1 := SAM.out X1 bx1
            have HS2 := Lib.hid (rsame_me Ac Ad (pvO rh).n (pvO rh).n cc cd X1.heap.size (pvO rh).key X1 G1.yc G1.yd)
            have BX1 := Lib.hid bx1
            have e2 := G1.c.cell 0
            have e3 := G1.d.cell 0
            clear s1 bx1 HS1 e0 e1 G1
            go_wp2_with fail
            (with_reducible refine HS2.out.mono ?_)
            rintro e X2 ⟨rfl, s2⟩
            have bx2 : Below wr.heap.size wr X2 := BX1.out.trans (s2.below _)
            have HE := Lib.hid (nalive_any X2)
            have BX2 := Lib.hid bx2
            clear s2 bx2 HS2 e2 e3
            go_wp2_with fail
            (with_reducible refine HE.out.mono ?_)
            rintro e f ⟨rfl, uf⟩
            have FB := Lib.hid (HZW.out f ((BWR.out.trans (BX2.out.mono BWR.out.size)).trans (uf.mono (Nat.le_trans BWR.out.size BX2.out.size))))
            clear uf HE
            go_wp2_with fail
            go_ret
            exact ⟨rfl, FB.out⟩
set_option maxRecDepth 100000 in
theorem lifted (os : Os) (started : os.Started) (H : Type) (enc : TypeId × Value → H) :
    ReturnsInHanded {} Tryz.checked os 5 .any (Rows.nearGapSpec.pre6 enc Tryz.prog Tryz.f5 Rows.nearGapRow.domain false) (Rows.nearGapSpec.post enc Tryz.prog Tryz.f5 false true false false) := by
  refine returnsInHanded_of_change (C := Tryz.checked) own started (by kernel_rfl) Tryz.func5
    (ChangeSpec.witness6 (enc := enc) (C := Tryz.checked) false ⟨#[], #[.slice none 0 0, .slice none 0 0], []⟩ 8 (by kernel_rfl) (by kernel_rfl) (by kernel_rfl) (by kernel_rfl)) ?_
  intro W base args ds gs before hval0 hW hcnd _
  have hval : ∀ (j : Nat) t v, Tryz.f5.params[j]? = some t → args[j]? = some v → Value.okWide Tryz.prog W .any base t v := hval0
  have hW' := hW
  obtain ⟨p, q, hA0, hV, rfl, hfz, hnd⟩ := hW
  have hA : DataW.TrodAll enc Tryz.prog W 0 (fun _ => true) true Tryz.f5.params.toList args.toList ds p := hA0
  rw [Tryz.params5] at hA hval
  obtain ⟨v0, vs0, d0, ds0, p0, q0, hargs, rfl, rfl, h0, r0⟩ := trodAll_cons hA
  obtain ⟨v1, vs1, d1, ds1, p1, q1, rfl, rfl, rfl, h1, r1⟩ := trodAll_cons r0
  obtain ⟨rfl, rfl, rfl⟩ := trodAll_nil r1
  obtain rfl : args = #[v0, v1] := by cases args; simp_all
  obtain ⟨rfl, rfl⟩ := trodVars_none hV
  have k0 := h0
  have lt0 : ∀ x ∈ p0, x.block < W.heap.size := by obtain ⟨m, hm⟩ := k0; exact DataW.trod_lt m _ _ _ hm
  have k1 := h1
  have lt1 : ∀ x ∈ p1, x.block < W.heap.size := by obtain ⟨m, hm⟩ := k1; exact DataW.trod_lt m _ _ _ hm
  obtain ⟨A0, n0, c0, l0, rfl, b0, kp0, nc0, vl0⟩ := open_kps (hval 0 22 v0 rfl rfl) h0
  obtain ⟨A1, n1, c1, l1, rfl, b1, nc1⟩ := open_byt (hval 1 23 v1 rfl rfl) h1
  clear hA0 hval0
  refine (walk A0 n0 c0 l0 A1 n1 c1 l1 W b0 kp0 nc0 vl0 b1 nc1).mono fun e W' ⟨he, bel⟩ => ?_
  subst he
  exact ⟨_, rfl, _, _, _, [], _, [], hW', trodAll_mk1 (shut_bool Tryz.underlying4 _), (trodAll_cons_mk (Below.trod laidOut (by kernel_rfl) (of_decide_eq_true (by kernel_rfl)) k0 bel lt0) (trodAll_cons_mk (Below.trod laidOut (by kernel_rfl) (of_decide_eq_true (by kernel_rfl)) k1 bel lt1) trodAll_mk0)), rfl, bel.frame _, fun h => by cases h⟩

set_option maxRecDepth 100000 in
theorem proved : Rows.NearGapSaid :=
  OpenClaim.holds_of_wide 5 Tryz.f5 rfl rfl rfl rfl rfl rfl rfl ⟨rfl, rfl, rfl, rfl, rfl⟩ rfl rfl rfl rfl rfl (by kernel_rfl) Tryz.func5 (by kernel_rfl)
    (of_decide_eq_true (by kernel_rfl)) (by unfold Func.isWrapper; first | (rw [if_pos (by decide +kernel)]; kernel_rfl) | (rw [if_neg (by decide +kernel)]; exact ⟨rfl, rfl⟩))
    (fun os started H enc _ => lifted os started H enc)
end Go.Proofs.YtidiinededalmaaGreat.nearGap
