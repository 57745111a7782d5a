/-
  Proved here: from the first one on by Higher, and from the last one on by Lower, all pairs of a tree come, in order, each once, and then none; nothing that came in is turned. No condition.
-/
import Derived.Test.YtidiinededalmaaGreatNrWk
import Derived.Test.YtidiinededalmaaGreatRow
namespace Go.Proofs.YtidiinededalmaaGreat.nearWalk
open Go.ChangeShapes Go.WideShapes Go.ChangeAt Go.RowKit

/-- Two blocks of two cells that hold pairs, whose bytes lie elsewhere. -/
structure Two2 (V : World) (gp gq : Nat) (Ap : Option Addr) (cp : Nat) (p : PV) (Aq : Option Addr) (cq : Nat) (q : PV) : Prop where
  a : Blk V gp #[.slice Ap p.n cp, .int .u64 p.val]
  b : Blk V gq #[.slice Aq q.n cq, .int .u64 q.val]
  ya : Byt V V.heap.size Ap p.key.length p.key
  yb : Byt V V.heap.size Aq q.key.length q.key
  fa : ∀ i, Pb Ap p.key i → i ≠ gp ∧ i ≠ gq
  fb : ∀ i, Pb Aq q.key i → i ≠ gp ∧ i ≠ gq
  la : p.n = p.key.length
  lb : q.n = q.key.length
  ra : p.n ≤ cp
  rb : q.n ≤ cq
  ne : gp ≠ gq
section
variable {V V' : World} {gp gq cp cq : Nat} {Ap Aq : Option Addr} {p q : PV}
theorem Two2.below (h : Two2 V gp gq Ap cp p Aq cq q) (hb : Below V.heap.size V V') : Two2 V' gp gq Ap cp p Aq cq q :=
  ⟨h.a.below hb h.a.lt, h.b.below hb h.b.lt, (h.ya.below hb).more hb.size, (h.yb.below hb).more hb.size, h.fa, h.fb, h.la, h.lb, h.ra, h.rb, h.ne⟩
theorem Two2.yn (h : Two2 V gp gq Ap cp p Aq cq q) : Byt V V.heap.size Ap p.n p.key ∧ Byt V V.heap.size Aq q.n q.key := by
  rw [h.la, h.lb]
  exact ⟨h.ya, h.yb⟩
theorem Two2.seta (h : Two2 V gp gq Ap cp p Aq cq q) {A2 : Option Addr} {c2 : Nat} {p2 : PV} (hy : Byt V V.heap.size A2 p2.key.length p2.key) (hf : ∀ i, Pb A2 p2.key i → i ≠ gp ∧ i ≠ gq) (hl : p2.n = p2.key.length) (hr : p2.n ≤ c2) (hV : (V.setCell ⟨gp, 0, none⟩ (.slice A2 p2.n c2)).setCell ⟨gp, 1, none⟩ (.int .u64 p2.val) = V') : Two2 V' gp gq A2 c2 p2 Aq cq q ∧ Kept (· = gp) V V' := by
  subst hV
  obtain ⟨t1, t2⟩ := two_set h.a (.slice A2 p2.n c2) (.int .u64 p2.val)
  exact ⟨⟨t1, t2.blk h.b (fun e => h.ne e.symm), (hy.keepPb fun x hx => t2.cell (hy.ltPb hx) (hf _ hx).1).more t2.size, (h.yb.keepPb fun x hx => t2.cell (h.yb.ltPb hx) (h.fb _ hx).1).more t2.size, hf, h.fb, hl, h.lb, hr, h.rb, h.ne⟩, t2⟩
theorem Two2.setb (h : Two2 V gp gq Ap cp p Aq cq q) {A2 : Option Addr} {c2 : Nat} {q2 : PV} (hy : Byt V V.heap.size A2 q2.key.length q2.key) (hf : ∀ i, Pb A2 q2.key i → i ≠ gp ∧ i ≠ gq) (hl : q2.n = q2.key.length) (hr : q2.n ≤ c2) (hV : (V.setCell ⟨gq, 0, none⟩ (.slice A2 q2.n c2)).setCell ⟨gq, 1, none⟩ (.int .u64 q2.val) = V') : Two2 V' gp gq Ap cp p A2 c2 q2 ∧ Kept (· = gq) V V' := by
  subst hV
  obtain ⟨t1, t2⟩ := two_set h.b (.slice A2 q2.n c2) (.int .u64 q2.val)
  exact ⟨⟨t2.blk h.a h.ne, t1, (h.ya.keepPb fun x hx => t2.cell (h.ya.ltPb hx) (h.fa _ hx).2).more t2.size, (hy.keepPb fun x hx => t2.cell (hy.ltPb hx) (hf _ hx).2).more t2.size, h.fa, hf, h.la, hl, h.ra, hr, h.ne⟩, t2⟩
end
theorem at_some {ps : List PV} {k : Nat} {p : PV} (h : ps[k]? = some p) : atP ps (k : Int) = some p := by
  unfold atP
  rw [if_neg (by omega)]
  exact h
theorem at_len {ps : List PV} {r : Option PV} {i : Int} (h : atP ps i = r) (hl : ∀ p ∈ ps, p.n = p.key.length ∧ p.key.length ≤ 300) : (pvO r).n = (pvO r).key.length ∧ (pvO r).key.length ≤ 300 := by
  subst h
  unfold atP
  split
  · exact ⟨rfl, Nat.zero_le _⟩
  · rcases hp : ps[i.toNat]? with _ | p
    · exact ⟨rfl, Nat.zero_le _⟩
    · exact hl p (List.mem_of_getElem? hp)
set_option maxRecDepth 100000 in
set_option maxHeartbeats 8000000 in
theorem walk (A : Option Addr) (n c : Nat) (ps : List PV) (W : World) (ha : Prs W W.heap.size A n ps) (hk : Kps W W.heap.size ps) (_ : n ≤ c) (_ : ∀ p ∈ ps, 0 ≤ p.val ∧ p.val ≤ 18446744073709551615) :
    Calls Tryz.prog 4 #[.slice A n c] W fun e w' => e = .returned (.bool true) ∧ Below W.heap.size W w' := by
  have H1 := nfar_any A n c W.heap.size 150 ps W ha (Nat.le_refl _) (by omega)
  rw [show ((150 : Nat) : Int) = 150 from rfl] at H1
  have H1 := Lib.hid H1
  have HA := Lib.hid (fun V (h : Below W.heap.size W V) => ha.below h)
  have HK := Lib.hid (fun V (h : Below W.heap.size W V) => hk.below h)
  have HLN := Lib.hid ha.1
  clear ha hk
  go_enter Tryz.func4, Tryz.ntmps4
  go_wp2_with fail
  (with_reducible refine H1.out.mono ?_)
  rintro e w1 ⟨rfl, b1⟩
  have B1 := Lib.hid b1
  obtain ⟨fb, hfb⟩ : ∃ b, farP ps 150 = b := ⟨_, rfl⟩
  rw [hfb]
  have HFB := Lib.hid hfb
  clear b1 hfb H1
  cases fb with
  | true =>
    have H2 := Lib.hid (nalive_any w1)
    go_wp2_with fail
    (with_reducible refine H2.out.mono ?_)
    rintro e w2 ⟨rfl, b2⟩
    have B2 := Lib.hid (B1.out.trans (b2.mono B1.out.size))
    clear b2
    go_wp2_with fail
    go_ret
    exact ⟨rfl, B2.out⟩
  | false =>
    obtain ⟨f1, f2⟩ := nfarP_no HFB.out
    have hn300 : n ≤ 150 := by have := HLN.out; omega
    have F2 := Lib.hid f2
    have HS := Lib.hid (rsort_any A n c W.heap.size ps w1 (HA.out w1 B1.out) (HK.out w1 B1.out) B1.out.size (by omega))
    clear f1 f2
    go_wp2_with fail
    (with_reducible refine HS.out.mono ?_)
    rintro e w2 ⟨A2, c2, rfl, hc2, p2, _, b2⟩
    obtain ⟨ps2, hps2⟩ : ∃ l, sortS ps = l := ⟨_, rfl⟩
    obtain ⟨n2, hn2⟩ : ∃ k, (sortS ps).length = k := ⟨_, rfl⟩
    have hn2a : n2 ≤ 150 := by
      have := (sortS_len ps).1
      have := HLN.out
      omega
    have hrs : Rsn ps2 := hps2 ▸ sortS_rise ps
    have hk2 : ∀ p ∈ ps2, p.key.length ≤ 300 := hps2 ▸ sortS_all (P := fun p => p.key.length ≤ 300) (fun _ _ h _ => h) F2.out
    have hkp : ∀ V, Below W.heap.size W V → Kps V W.heap.size ps2 := fun V hb => hps2 ▸ Kps.sort (HK.out V hb)
    rw [hn2] at p2 hc2 ⊢
    rw [hps2] at p2 hn2
    have b2' : Below W.heap.size W w2 := B1.out.trans (b2.mono B1.out.size)
    have hok := nrT_ok hrs hk2 (by omega)
    have HT := Lib.hid (ntree_any A2 n2 c2 w2.heap.size ps2 w2 p2 ((hkp w2 b2').more b2'.size) (Nat.le_refl _) (by omega) hrs hk2)
    have ZV := Lib.hid (fun V (h : Below w2.heap.size w2 V) => show Prs V w2.heap.size A2 n2 ps2 ∧ Below W.heap.size W V from ⟨p2.below h, b2'.trans (h.mono b2'.size)⟩)
    have HRS := Lib.hid hrs
    have HOK := Lib.hid hok
    have HN2 := Lib.hid (And.intro hn2 hn2a)
    have HK2 := Lib.hid hk2
    clear hps2 hrs hk2 hkp p2 b2 b2' hn2 hc2 hok HS
    go_wp2_with fail
    (with_reducible refine HT.out.mono ?_)
    rintro e w3 ⟨p, rfl, t3, b3⟩
    have T3 := Lib.hid t3
    have B3 := Lib.hid b3
    have HZW := Lib.hid (fun (V : World) (h : Below w3.heap.size w3 V) => (ZV.out V (B3.out.trans (h.mono B3.out.size))).2)
    clear t3 b3 HT
    have HZL := Lib.hid (show ∀ p ∈ ps2, p.n = p.key.length ∧ p.key.length ≤ 300 from fun p hp => by
      obtain ⟨j, hj⟩ := List.mem_iff_getElem?.1 hp
      exact ⟨((ZV.out w2 (Below.refl _ _)).1.2.2.1 j p hj).1.symm, HK2.out p hp⟩)
    -- the list
    have H4 := Lib.hid (nlist_any HOK.out T3.out HN2.out.1)
    go_wp2_with fail
    (with_reducible refine H4.out.mono ?_)
    rintro e w4 ⟨Al, cl, qs, rfl, pl4, hqs, b4⟩
    have B4 := Lib.hid b4
    have HQS := Lib.hid hqs
    have PL := Lib.hid (fun (V : World) (h : Below w4.heap.size w4 V) => pl4.below h)
    have TV := Lib.hid (fun (V : World) (h : Below w4.heap.size w4 V) => T3.out.below (B4.out.trans (h.mono B4.out.size)))
    have FV := Lib.hid (fun (V : World) (h : Below w4.heap.size w4 V) => HZW.out V (B4.out.trans (h.mono B4.out.size)))
    -- Min
    obtain ⟨r0, hr0⟩ : ∃ r, atP ps2 0 = r := ⟨_, rfl⟩
    have hm0 := nmin_any (nrT ps2) p w4 (TV.out w4 (Below.refl _ _)) HOK.out.full HOK.out.len
    rw [HOK.out.list, at_head, hr0] at hm0
    have H5 := Lib.hid (hm0.mono fun e w' h => h.in_ rfl (at_len hr0 HZL.out).1)
    have HR0 := Lib.hid hr0
    clear pl4 hqs b4 H4 hr0 hm0
    go_wp2_with fail
    (with_reducible refine H5.out.mono ?_)
    rintro e w5 ⟨Ap, cp, rfl, yp, ncp, pbp, b5⟩
    obtain ⟨V5, hV5⟩ : ∃ V, w5.alloc (.cells #[.slice Ap (pvO r0).n cp, .int .u64 (pvO r0).val] 31) = V := ⟨_, rfl⟩
    have bv5 : Below w5.heap.size w5 V5 := by rw [← hV5]; exact new_ _ _
    have kv5 : Blk V5 w5.heap.size #[.slice Ap (pvO r0).n cp, .int .u64 (pvO r0).val] := by rw [← hV5]; exact Blk.new _ _ _
    have sv5 : V5.heap.size = w5.heap.size + 1 := by rw [← hV5]; simp
    have b45 : Below w4.heap.size w4 V5 := b5.trans (bv5.mono b5.size)
    -- Max
    obtain ⟨r1, hr1⟩ : ∃ r, atP ps2 ((n2 : Int) - 1) = r := ⟨_, rfl⟩
    have hm1 := nmax_any (nrT ps2) p V5 (TV.out V5 b45) HOK.out.full HOK.out.len
    rw [HOK.out.list, at_last HN2.out.1, hr1] at hm1
    have H6 := Lib.hid (hm1.mono fun e w' h => h.in_ rfl (at_len hr1 HZL.out).1)
    have HR1 := Lib.hid hr1
    have HV5 := Lib.hid hV5
    have Q5 := Lib.hid (And.intro yp (And.intro ncp (And.intro pbp (And.intro b5 (And.intro bv5 (And.intro kv5 (And.intro sv5 b45)))))))
    clear yp ncp pbp b5 bv5 kv5 sv5 b45 hV5 hr1 hm1 H5
    go_wp2_with fail
    rw [HV5.out]
    (with_reducible refine H6.out.mono ?_)
    rintro e w6 ⟨Aq, cq, rfl, yq, ncq, pbq, b6⟩
    obtain ⟨V6, hV6⟩ : ∃ V, w6.alloc (.cells #[.slice Aq (pvO r1).n cq, .int .u64 (pvO r1).val] 31) = V := ⟨_, rfl⟩
    have bv6 : Below w6.heap.size w6 V6 := by rw [← hV6]; exact new_ _ _
    have kv6 : Blk V6 w6.heap.size #[.slice Aq (pvO r1).n cq, .int .u64 (pvO r1).val] := by rw [← hV6]; exact Blk.new _ _ _
    have hst : Two2 V6 w5.heap.size w6.heap.size Ap cp (pvO r0) Aq cq (pvO r1) ∧ Below w4.heap.size w4 V6 := by
      obtain ⟨g1, g2, g3, g4, g5, g6, g7, g8⟩ := Q5.out
      have m5 := g4.size; have m6 := b6.size
      have l0 := (at_len HR0.out HZL.out).1
      have l1 := (at_len HR1.out HZL.out).1
      have t5 : Below V5.heap.size V5 V6 := b6.trans (bv6.mono m6)
      have t4 : Below w5.heap.size w5 V6 := g5.trans (t5.mono (by omega))
      rw [l0] at g1
      rw [l1] at yq
      refine ⟨⟨g6.below t5 g6.lt, kv6, (g1.below t4).more t4.size, (yq.below bv6).more bv6.size, fun i hi => ?_, fun i hi => ?_, l0, l1, g2, ncq, by omega⟩, g8.trans (t5.mono (by omega))⟩
      · have := g1.ltPb hi; omega
      · have := yq.ltPb hi; have := pbq i hi; omega
    have Q5g := Lib.hid (show w4.heap.size ≤ w5.heap.size ∧ w4.heap.size ≤ w6.heap.size from by
      have h1 := Q5.out.2.2.2.1.size
      have h2 := Q5.out.2.2.2.2.1.size
      have h3 := b6.size
      omega)
    have HST := Lib.hid hst
    have HV6 := Lib.hid hV6
    clear yq ncq pbq b6 bv6 kv6 hst hV6 H6 Q5
    obtain ⟨gp, hgp⟩ : ∃ g, w5.heap.size = g := ⟨_, rfl⟩
    obtain ⟨gq, hgq⟩ : ∃ g, w6.heap.size = g := ⟨_, rfl⟩
    have HG := Lib.hid (show w4.heap.size ≤ gp ∧ w4.heap.size ≤ gq from by
      have h1 := Q5g.out
      omega)
    rw [hgp, hgq] at HST
    have hn9 : n2 ≤ 150 := HN2.out.2
    have ewA : IntKind.i64.wrap ((n2 : Int) - 1) = (n2 : Int) - 1 := by rw [IntKind.wrap_i64]; omega
    have S0 := Lib.hid (show ∃ (Ap : Option Addr) (cp : Nat) (Aq : Option Addr) (cq : Nat), Two2 V6 gp gq Ap cp (pvO (atP ps2 ((0 : Nat) : Int))) Aq cq (pvO (atP ps2 ((n2 : Int) - 1 - ((0 : Nat) : Int)))) ∧ Below w4.heap.size w4 V6 from
      ⟨Ap, cp, Aq, cq, by rw [show ((0 : Nat) : Int) = 0 from rfl, HR0.out, Int.sub_zero, HR1.out]; exact HST.out.1, HST.out.2⟩)
    have I0 := Lib.hid (And.intro (show (atP ps2 ((0 : Nat) : Int)).isSome = r0.isSome from by rw [show ((0 : Nat) : Int) = 0 from rfl, HR0.out]) (show (atP ps2 ((n2 : Int) - 1 - ((0 : Nat) : Int))).isSome = r1.isSome from by rw [show ((0 : Nat) : Int) = 0 from rfl, Int.sub_zero, HR1.out]))
    go_wp2_with fail
    rw [HV6.out]
    clear HST hgp hgq
    go_loopw [6, 8, 31] (fun v6 v8 v31 wr => ∃ k : Nat, k ≤ n2 ∧ v31 = .int .i64 (k : Int) ∧ v6 = .bool (atP ps2 (k : Int)).isSome ∧ v8 = .bool (atP ps2 ((n2 : Int) - 1 - (k : Int))).isSome ∧ Hid (∃ (Ap : Option Addr) (cp : Nat) (Aq : Option Addr) (cq : Nat), Two2 wr gp gq Ap cp (pvO (atP ps2 (k : Int))) Aq cq (pvO (atP ps2 ((n2 : Int) - 1 - (k : Int)))) ∧ Below w4.heap.size w4 wr)) (fun _ _ v31 _ => n2 - (intOf v31).toNat)
    case atStart => exact ⟨0, Nat.zero_le _, rfl, by rw [I0.out.1], by rw [I0.out.2], S0⟩
    case round =>
      obtain ⟨k, hk, rfl, rfl, rfl, HS⟩ := hrel
      clear S0
      by_cases h1 : k < n2
      · obtain ⟨j, hj⟩ : ∃ j, j + k + 1 = n2 := ⟨n2 - 1 - k, by omega⟩
        have ej : (n2 : Int) - 1 - (k : Int) = (j : Int) := by omega
        have hl2 := HN2.out.1
        obtain ⟨pk, hpk⟩ : ∃ x, ps2[k]? = some x := ⟨_, List.getElem?_eq_getElem (by omega)⟩
        obtain ⟨pj, hpj⟩ : ∃ x, ps2[j]? = some x := ⟨_, List.getElem?_eq_getElem (by omega)⟩
        obtain ⟨Ap, cp, Aq, cq, t2, bw⟩ := HS.out
        rw [ej, at_some hpk, at_some hpj] at t2
        rw [ej, at_some hpk, at_some hpj]
        dsimp only [pvO] at t2
        simp only [Option.isSome_some]
        obtain ⟨ad, u, rfl, hlt, e1, c1, c2, y1⟩ := (PL.out wr bw).at_ h1
        obtain ⟨ad2, u2, had2, _, e2, c3, c4, y2⟩ := (PL.out wr bw).at_ (show j < n2 by omega)
        injection had2 with had2
        subst had2
        have hq1 : u.key = pk.key ∧ u.val = pk.val := by
          have h2 : (qs.map kvP)[k]? = (ps2.map kvP)[k]? := by rw [HQS.out]
          rw [List.getElem?_map, List.getElem?_map, e1, hpk] at h2
          simpa using h2
        have hq2 : u2.key = pj.key ∧ u2.val = pj.val := by
          have h2 : (qs.map kvP)[j]? = (ps2.map kvP)[j]? := by rw [HQS.out]
          rw [List.getElem?_map, List.getElem?_map, e2, hpj] at h2
          simpa using h2
        obtain ⟨V1, hV1⟩ : ∃ V, wr.alloc (.cells #[.slice u2.A u2.n u2.c, .int .u64 pj.val] 31) = V := ⟨_, rfl⟩
        have bv1 : Below wr.heap.size wr V1 := by rw [← hV1]; exact new_ _ _
        have kv1 : Blk V1 wr.heap.size #[.slice u2.A u2.n u2.c, .int .u64 pj.val] := by rw [← hV1]; exact Blk.new _ _ _
        have bw1 : Below w4.heap.size w4 V1 := bw.trans (bv1.mono bw.size)
        obtain ⟨_, _, hz1, _, f1, c5, c6, y3⟩ := (PL.out V1 bw1).at_ h1
        injection hz1 with hz1
        subst hz1
        rw [e1] at f1
        cases f1
        have t3 := t2.below bv1
        have c4' : wr.cell? ⟨(ad.add (j * 2)).block, (ad.add (j * 2)).off + 1, none⟩ = some (.int .u64 pj.val) := by rw [← add_of_add, hq2.2] at c4; exact c4
        have c6' : V1.cell? ⟨(ad.add (k * 2)).block, (ad.add (k * 2)).off + 1, none⟩ = some (.int .u64 pk.val) := by rw [← add_of_add, hq1.2] at c6; exact c6
        have ewB : IntKind.i64.wrap ((n2 : Int) - 1 - (k : Int)) = (j : Int) := by rw [IntKind.wrap_i64]; omega
        have ewK : IntKind.i64.wrap ((k : Int) + 1) = ((k + 1 : Nat) : Int) := by rw [IntKind.wrap_i64]; omega
        have hy2 := (y2.more bw.size).below bv1
        rw [hq1.1] at y3
        rw [hq2.1] at hy2
        have HS1 := Lib.hid (fun q => rsame_me Ap u.A pk.n u.n cp u.c V1.heap.size pk.key (V1.drewN q) (t3.yn.1.drewN q) ((y3.more bw1.size).drewN q))
        have HS2 := Lib.hid (fun q => rsame_me Aq u2.A pj.n u2.n cq u2.c V1.heap.size pj.key (V1.drewN q) (t3.yn.2.drewN q) ((hy2.more bv1.size).drewN q))
        have HV1 := Lib.hid hV1
        have T3_ := Lib.hid t3
        have BW1 := Lib.hid bw1
        have HPK := Lib.hid hpk
        have HPJ := Lib.hid hpj
        have HJ := Lib.hid (And.intro hj (And.intro ej h1))
        have d0 := t3.a.cell 0
        have d1 := t3.a.cell 1
        have d2 := t3.b.cell 0
        have d3 := t3.b.cell 1
        have d4 := kv1.cell 0
        have d5 := kv1.cell 1
        have u1 : (pk.val != pk.val) = false := bne_self_eq_false _
        have u2' : (pj.val != pj.val) = false := bne_self_eq_false _
        have i3 : (0 : Int) ≤ (j : Int) := by omega
        have i4 : (j : Int) < (n2 : Int) := by omega
        clear hV1 bv1 kv1 bw1 t2 t3 bw HS e1 e2 c1 c2 c4 c6 y1 y2 y3 hy2 hq1 hq2 hpk hpj hl2 ej
        go_upto_region 11 with fail
        rw [HV1.out]
        go_quiet ((go_at_call 24; first | (with_reducible exact quiet_st1 (HS1.out _)) | (with_reducible exact quiet_st1 (HS2.out _)) | (with_reducible exact quiet_st2 (HS1.out _)) | (with_reducible exact quiet_st2 (HS2.out _))))
        obtain ⟨V2, hV2⟩ : ∃ V, V1.drewN nq = V := ⟨_, rfl⟩
        rw [hV2]
        have s12 : Still V1 V2 := ⟨nq, hV2.symm⟩
        have t4 := T3_.out.below (s12.below _)
        have bw2 : Below w4.heap.size w4 V2 := BW1.out.trans (s12.below _)
        obtain ⟨ru, hru⟩ : ∃ r, atP ps2 ((k : Int) + 1) = r := ⟨_, rfl⟩
        obtain ⟨rd, hrd⟩ : ∃ r, atP ps2 ((j : Int) - 1) = r := ⟨_, rfl⟩
        have H7 := Lib.hid (nwalk_up (c := cp) HRS.out HOK.out HPK.out (TV.out V2 bw2) t4.yn.1 (by have := (HZL.out pk (List.mem_of_getElem? HPK.out)); omega) hru (at_len hru HZL.out).1)
        have T4 := Lib.hid t4
        have BW2 := Lib.hid bw2
        have HRU := Lib.hid hru
        have HRD := Lib.hid hrd
        clear d0 d1 d2 d3 d4 d5 c3 c4' c5 c6' HV1
        have e0 := t4.a.cell 0
        clear hV2 s12 t4 bw2 hru hrd HS1 HS2
        go_wp2_with fail
        (with_reducible refine H7.out.mono ?_)
        rintro e w7 ⟨A7, c7, rfl, y7, nc7, pb7, b7⟩
        have t5 := T4.out.below b7
        have d0 := t5.a.cell 0
        have d1 := t5.a.cell 1
        have z0 := t5.a.fz 0
        have z1 := t5.a.fz 1
        obtain ⟨V8, hV8⟩ : ∃ V, (w7.setCell ⟨gp, 0, none⟩ (.slice A7 (pvO ru).n c7)).setCell ⟨gp, 1, none⟩ (.int .u64 (pvO ru).val) = V := ⟨_, rfl⟩
        have lu := at_len HRU.out HZL.out
        rw [lu.1] at y7
        obtain ⟨t6, k6⟩ := t5.seta y7 (fun i hi => by have := pb7 i hi; have h8 := T4.out.a.lt; have h9 := T4.out.b.lt; omega) lu.1 nc7 hV8
        have bw8 : Below w4.heap.size w4 V8 := (BW2.out.trans (b7.mono BW2.out.size)).trans (k6.below (Nat.le_trans BW2.out.size b7.size) (fun i e => by have := HG.out; omega))
        have H8 := Lib.hid (nwalk_dn HRS.out HOK.out HPJ.out (TV.out V8 bw8) t6.yn.2 t6.rb (by have := (HZL.out pj (List.mem_of_getElem? HPJ.out)); omega) HRD.out (at_len HRD.out HZL.out).1)
        have e1 := t6.b.cell 0
        rw [← hV8] at e1
        have T6 := Lib.hid t6
        have BW8 := Lib.hid bw8
        have HV8 := Lib.hid hV8
        clear e0 t5 y7 nc7 pb7 b7 hV8 lu t6 k6 bw8 H7
        go_wp2_with fail
        rw [HV8.out]
        (with_reducible refine H8.out.mono ?_)
        rintro e w9 ⟨A9, c9, rfl, y9, nc9, pb9, b9⟩
        clear d0 d1 z0 z1 e1
        have t7 := T6.out.below b9
        have d0 := t7.b.cell 0
        have d1 := t7.b.cell 1
        have z0 := t7.b.fz 0
        have z1 := t7.b.fz 1
        obtain ⟨Va, hVa⟩ : ∃ V, (w9.setCell ⟨gq, 0, none⟩ (.slice A9 (pvO rd).n c9)).setCell ⟨gq, 1, none⟩ (.int .u64 (pvO rd).val) = V := ⟨_, rfl⟩
        have ld := at_len HRD.out HZL.out
        rw [ld.1] at y9
        obtain ⟨t8, k8⟩ := t7.setb y9 (fun i hi => by have := pb9 i hi; have h8 := T6.out.a.lt; have h9 := T6.out.b.lt; omega) ld.1 nc9 hVa
        have FIN := Lib.hid (show ∃ (Ap : Option Addr) (cp : Nat) (Aq : Option Addr) (cq : Nat), Two2 Va gp gq Ap cp (pvO (atP ps2 ((k + 1 : Nat) : Int))) Aq cq (pvO (atP ps2 ((n2 : Int) - 1 - ((k + 1 : Nat) : Int)))) ∧ Below w4.heap.size w4 Va from
          ⟨A7, c7, A9, c9, by
            rw [show ((k + 1 : Nat) : Int) = (k : Int) + 1 by omega, show (n2 : Int) - 1 - ((k : Int) + 1) = (j : Int) - 1 by have := HJ.out.1; omega, HRU.out, HRD.out]
            exact t8, (BW8.out.trans (b9.mono BW8.out.size)).trans (k8.below (Nat.le_trans BW8.out.size b9.size) (fun i e => by have := HG.out; omega))⟩)
        have HI := Lib.hid (And.intro (show ru.isSome = (atP ps2 ((k + 1 : Nat) : Int)).isSome from by rw [show ((k + 1 : Nat) : Int) = (k : Int) + 1 by omega, HRU.out]) (show rd.isSome = (atP ps2 ((n2 : Int) - 1 - ((k + 1 : Nat) : Int))).isSome from by rw [show ((k + 1 : Nat) : Int) = (k : Int) + 1 by omega, show (n2 : Int) - 1 - ((k : Int) + 1) = (j : Int) - 1 by have := HJ.out.1; omega, HRD.out]))
        have HVa := Lib.hid hVa
        clear t7 y9 nc9 pb9 b9 hVa ld t8 k8 H8
        go_wp2_with fail
        rw [HVa.out]
        exact ⟨⟨k + 1, HJ.out.2.2, rfl, by rw [HI.out.1], by rw [HI.out.2], FIN⟩, by have := HJ.out.2.2; simp [intOf]; omega⟩
      · obtain rfl : k = n2 := by omega
        have hl2 := HN2.out.1
        have r0' : atP ps2 (k : Int) = none := by unfold atP; rw [if_neg (by omega)]; exact List.getElem?_eq_none (by omega)
        have r1' : atP ps2 ((k : Int) - 1 - (k : Int)) = none := by unfold atP; rw [if_pos (by omega)]
        obtain ⟨Ap, cp, Aq, cq, t2, bw⟩ := HS.out
        rw [r0', r1'] at t2
        rw [r0', r1']
        dsimp only [pvO] at t2
        simp only [Option.isSome_none]
        have d0 := t2.a.cell 0
        have d1 := t2.b.cell 0
        have HE := Lib.hid (nalive_any wr)
        have BWR := Lib.hid bw
        clear t2 bw HS r0' r1' hl2
        go_wp2_with fail
        (with_reducible refine HE.out.mono ?_)
        rintro e f ⟨rfl, uf⟩
        have FB := Lib.hid (FV.out f (BWR.out.trans (uf.mono BWR.out.size)))
        clear uf HE
        go_wp2_with fail
        go_ret
        exact ⟨rfl, FB.out⟩
set_option maxRecDepth 100000 in
theorem lifted (os : Os) (started : os.Started) (H : Type) (enc : TypeId × Value → H) :
    ReturnsInHanded {} Tryz.checked os 4 .any (Rows.nearWalkSpec.pre6 enc Tryz.prog Tryz.f4 Rows.nearWalkRow.domain false) (Rows.nearWalkSpec.post enc Tryz.prog Tryz.f4 false true false false) := by
  refine returnsInHanded_of_change (C := Tryz.checked) own started (by kernel_rfl) Tryz.func4
    (ChangeSpec.witness6 (enc := enc) (C := Tryz.checked) false ⟨#[], #[.slice none 0 0], []⟩ 8 (by kernel_rfl) (by kernel_rfl) (by kernel_rfl) (by kernel_rfl)) ?_
  intro W base args ds gs before hval0 hW hcnd _
  have hval : ∀ (j : Nat) t v, Tryz.f4.params[j]? = some t → args[j]? = some v → Value.okWide Tryz.prog W .any base t v := hval0
  have hW' := hW
  obtain ⟨p, q, hA0, hV, rfl, hfz, hnd⟩ := hW
  have hA : DataW.TrodAll enc Tryz.prog W 0 (fun _ => true) true Tryz.f4.params.toList args.toList ds p := hA0
  rw [Tryz.params4] at hA hval
  obtain ⟨v0, vs0, d0, ds0, p0, q0, hargs, rfl, rfl, h0, r0⟩ := trodAll_cons hA
  obtain ⟨rfl, rfl, rfl⟩ := trodAll_nil r0
  obtain rfl : args = #[v0] := by cases args; simp_all
  obtain ⟨rfl, rfl⟩ := trodVars_none hV
  have k0 := h0
  have lt0 : ∀ x ∈ p0, x.block < W.heap.size := by obtain ⟨m, hm⟩ := k0; exact DataW.trod_lt m _ _ _ hm
  obtain ⟨A0, n0, c0, l0, rfl, b0, kp0, nc0, vl0⟩ := open_kps (hval 0 22 v0 rfl rfl) h0
  clear hA0 hval0
  refine (walk A0 n0 c0 l0 W b0 kp0 nc0 vl0).mono fun e W' ⟨he, bel⟩ => ?_
  subst he
  exact ⟨_, rfl, _, _, _, [], _, [], hW', trodAll_mk1 (shut_bool Tryz.underlying4 _), (trodAll_cons_mk (Below.trod laidOut (by kernel_rfl) (of_decide_eq_true (by kernel_rfl)) k0 bel lt0) trodAll_mk0), rfl, bel.frame _, fun h => by cases h⟩

set_option maxRecDepth 100000 in
theorem proved : Rows.NearWalkSaid :=
  OpenClaim.holds_of_wide 4 Tryz.f4 rfl rfl rfl rfl rfl rfl rfl ⟨rfl, rfl, rfl, rfl, rfl⟩ rfl rfl rfl rfl rfl (by kernel_rfl) Tryz.func4 (by kernel_rfl)
    (of_decide_eq_true (by kernel_rfl)) (by unfold Func.isWrapper; first | (rw [if_pos (by decide +kernel)]; kernel_rfl) | (rw [if_neg (by decide +kernel)]; exact ⟨rfl, rfl⟩))
    (fun os started H enc _ => lifted os started H enc)
end Go.Proofs.YtidiinededalmaaGreat.nearWalk
