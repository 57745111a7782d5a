/-
  Proved here: who owns all nodes of a tree takes its keys out of it, one behind the other, in any order, and makes at most one node for each; all that is left on the way is canonical; in the end nothing is left; nothing that came in is turned. The one condition is the card's own: the table of the powers of ten lies as the program's library lays it (tied).
-/
import Derived.Test.YtcbgieoiefbeiaaGreatDoorDelW
import Derived.Test.YtcbgieoiefbeiaaGreatDoorRowU16
import Derived.Test.YtcbgieoiefbeiaaGreatDoorRow
import Derived.Test.YtcbgieoiefbeiaaGreatDoorTie
import Derived.Test.YtcbgieoiefbeiaaGreatDoorCards
import Derived.SevenTiedAt
namespace Go.Proofs.YtcbgieoiefbeiaaGreatDoor.delOwn
open Go.ChangeShapes Go.WideShapes Go.ChangeAt Go.RowKit

def lnOf : Value → Nat
  | .slice _ n _ => n
  | _ => 0
theorem tmod_nat (k m : Nat) : Int.tmod (k : Int) (m : Int) = ((k % m : Nat) : Int) := by
  rw [Int.tmod_eq_emod_of_nonneg (by omega)]
  exact (Int.natCast_emod k m).symm
theorem delS_lt {ps : List PV} {p : PV} (h : p ∈ ps) : (delS p.key ps).length < ps.length := by
  unfold delS
  rw [List.length_filter_lt_length_iff_exists]
  exact ⟨p, h, by simp⟩
theorem none_left {t : Option (Nn × Fo)} (h : OCan [] t) : t = none := by
  cases t with
  | none => rfl
  | some T =>
    obtain ⟨p, hp, _⟩ := good_has (Can.good h)
    have h2 : tlist T.1 T.2 [] = [] := Can.list h
    rw [h2] at hp
    cases hp
theorem rws_kept {w w' : World} {B n k : Nat} {A : Option Addr} {css : List (List Value)} {N : Nat → Prop} (h : Rws w B A n k css) (hk : Kept N w w') (hB : B ≤ w.heap.size) (hN : ∀ ad, A = some ad → 0 < n → ¬ N ad.block) : Rws w' B A n k css :=
  ⟨h.1, h.2.1, h.2.2.1, fun hn => by
    obtain ⟨ad, e, hb, hc⟩ := h.2.2.2 hn
    exact ⟨ad, e, hb, fun j i c u hj hi => (hk.cell (by rw [block_of_add]; omega) (by rw [block_of_add]; exact hN ad e hn)).trans (hc j i c u hj hi)⟩⟩
/-- What holds between two rounds: M is the meter's block, ps2 the pairs at first, qs those that are left. -/
structure Inv (W2 wr : World) (M : Nat) (ps2 qs : List PV) (AL : Option Addr) (nl cl : Nat) (q : Option Addr) (t : Option (Nn × Fo)) (D : Nat → Prop) (cnt k : Nat) : Prop where
  sub : ∀ p ∈ qs, p ∈ ps2
  rise : Rsn qs
  room : nl ≤ cl
  row : Rws wr wr.heap.size AL nl 2 (qs.map pvc)
  apart : ∀ ad, AL = some ad → 0 < nl → ¬ (D ad.block ∨ (some M : Option Nat) = some ad.block)
  tow : OTow wr 7 (fun _ => False) t q D
  can : OCan qs t
  own : oall (fun o => o = 7) t
  num : Lst wr M [.int .i64 (cnt : Int)]
  few : cnt + nl ≤ 60
  rnd : k + nl ≤ 60
  dD : ∀ i, D i → W2.heap.size ≤ i ∧ i ≠ M ∧ i < wr.heap.size
  below : Below W2.heap.size W2 wr
theorem Inv.len {W2 wr : World} {M : Nat} {ps2 qs : List PV} {AL : Option Addr} {nl cl : Nat} {q : Option Addr} {t : Option (Nn × Fo)} {D : Nat → Prop} {cnt k : Nat} (h : Inv W2 wr M ps2 qs AL nl cl q t D cnt k) : qs.length = nl := by
  have := h.row.1
  simpa using this
set_option maxRecDepth 100000 in
set_option maxHeartbeats 4000000 in
theorem walk (A : Option Addr) (n c : Nat) (ps : List PV) (A' : Option Addr) (n' c' : Nat) (ord : List Int) (W : World) (htb : Tb W) (ha : Prs W W.heap.size A n ps) (hk : Kps W W.heap.size ps) (_ : n ≤ c) (hv : ∀ p ∈ ps, 0 ≤ p.val ∧ p.val ≤ 18446744073709551615) (hb : U16 W W.heap.size A' n' ord) (hnc' : n' ≤ c') :
    Calls Tryz.prog 5 #[.slice A n c, .slice A' n' c'] W fun e w' => e = .returned (.bool true) ∧ Below W.heap.size W w' := by
  have hle : 0 < W.heap.size := htb.lt
  have HTB := Lib.hid (fun (V : World) (h : Below W.heap.size W V) => htb.below h hle)
  have HAL := Lib.hid (fun (V : World) (h : Below W.heap.size W V) => dalive_any V (htb.below h hle))
  have HA := Lib.hid (fun (V : World) (h : Below W.heap.size W V) => ha.below h)
  have HK := Lib.hid (fun (V : World) (h : Below W.heap.size W V) => hk.below h)
  have HB := Lib.hid (fun (V : World) (h : Below W.heap.size W V) => hb.below h)
  have hn9 : n' ≤ 9223372036854775807 := by have := hb.2.1; unfold maxLen at this; omega
  have H1 := pfar_any A n c W.heap.size 60 ps W ha (Nat.le_refl _) (by omega)
  rw [show ((60 : Nat) : Int) = 60 from rfl] at H1
  have H1 := Lib.hid H1
  have HV := Lib.hid hv
  have HC := Lib.hid hnc'
  have HLN := Lib.hid ha.1
  clear htb ha hk hb hnc' hv hle
  go_enter Tryz.func5, Tryz.ntmps5
  go_wp2_with fail
  (with_reducible refine H1.out.mono ?_)
  rintro e w1 ⟨rfl, b1⟩
  have B1 := Lib.hid b1
  obtain ⟨fb, hfb⟩ : ∃ b, farP ps 60 = b := ⟨_, rfl⟩
  rw [hfb]
  have HFB := Lib.hid hfb
  clear b1 hfb H1
  by_cases hfar : fb = true ∨ 100 < n'
  · have H2 := Lib.hid (HAL.out w1 B1.out)
    cases fb with
    | true =>
      clear hfar
      go_wp2_with fail
      (with_reducible refine H2.out.mono ?_)
      rintro e w2 ⟨rfl, b2⟩
      have B2 := Lib.hid (B1.out.trans (b2.mono B1.out.size))
      clear b2
      go_wp2_with fail
      go_ret
      exact ⟨rfl, B2.out⟩
    | false =>
      have i1 : decide ((100 : Int) < (n' : Int)) = true := decide_eq_true (by
        rcases hfar with q | q
        · cases q
        · omega)
      clear hfar
      go_wp2_with fail
      (with_reducible refine H2.out.mono ?_)
      rintro e w2 ⟨rfl, b2⟩
      have B2 := Lib.hid (B1.out.trans (b2.mono B1.out.size))
      clear b2
      go_wp2_with fail
      go_ret
      exact ⟨rfl, B2.out⟩
  · have hfb : fb = false := by
      cases fb with
      | false => rfl
      | true => exact absurd (.inl rfl) hfar
    subst hfb
    have hq : n' ≤ 100 := by
      rcases Nat.lt_or_ge 100 n' with q | q
      · exact absurd (.inr q) hfar
      · exact q
    obtain ⟨f1, f2⟩ := farP_no HFB.out
    have hn200 : n ≤ 60 := by have := HLN.out; omega
    have F2 := Lib.hid f2
    have HS := Lib.hid (rsort_any A n c W.heap.size ps w1 (HA.out w1 B1.out) (HK.out w1 B1.out) B1.out.size (by omega))
    have i1 : decide ((100 : Int) < (n' : Int)) = false := decide_eq_false (by omega)
    clear hfar f1 f2 hq
    go_wp2_with fail
    (with_reducible refine HS.out.mono ?_)
    rintro e w2 ⟨A2, c2, rfl, hc2, p2, _, b2⟩
    obtain ⟨ps2, hps2⟩ : ∃ l, sortS ps = l := ⟨_, rfl⟩
    obtain ⟨n2, hn2⟩ : ∃ k, (sortS ps).length = k := ⟨_, rfl⟩
    have hn2a : n2 ≤ 60 := by
      have := (sortS_len ps).1
      have := HLN.out
      omega
    have hrs : Rsn ps2 := hps2 ▸ sortS_rise ps
    have hk2 : ∀ p ∈ ps2, p.key.length ≤ 300 := hps2 ▸ sortS_all (P := fun p => p.key.length ≤ 300) (fun _ _ h _ => h) F2.out
    have hv2 : ∀ p ∈ ps2, 0 ≤ p.val ∧ p.val ≤ 18446744073709551615 := hps2 ▸ sortS_all (P := fun p => 0 ≤ p.val ∧ p.val ≤ 18446744073709551615) (fun _ _ _ h => h) HV.out
    rw [hn2] at p2 hc2 ⊢
    rw [hps2] at p2 hn2
    have b2' : Below W.heap.size W w2 := B1.out.trans (b2.mono B1.out.size)
    have hkp : ∀ V, Below W.heap.size W V → Kps V W.heap.size ps2 := fun V hb => hps2 ▸ Kps.sort (HK.out V hb)
    have HZ2 := Lib.hid (fun V (h : Below w2.heap.size w2 V) => show Below W.heap.size W V from b2'.trans (h.mono b2'.size))
    have HKP := Lib.hid (fun V (h : Below w2.heap.size w2 V) => (hkp V (b2'.trans (h.mono b2'.size))).more b2'.size)
    have HT := Lib.hid (ptree_any (o := 7) (by omega) A2 n2 c2 w2.heap.size ps2 w2 p2 ((hkp w2 b2').more b2'.size) (Nat.le_refl _) (by omega) hrs hk2)
    have HRS := Lib.hid hrs
    have HK2 := Lib.hid hk2
    have HV2 := Lib.hid hv2
    have HC2 := Lib.hid hc2
    have HP2 := Lib.hid p2
    clear hps2 hrs hk2 hv2 hkp p2 b2 b2' hn2 hc2 HS
    go_wp2_with fail
    (with_reducible refine HT.out.mono ?_)
    rintro e w3 ⟨p, rfl, t3, b3⟩
    obtain ⟨W4, hW4⟩ : ∃ V, w3.alloc (.cells #[.int .i64 0] 43) = V := ⟨_, rfl⟩
    have b4 : Below w3.heap.size w3 W4 := by rw [← hW4]; exact (Below.refl _ _).alloc (Nat.le_refl _) _
    have s4 : W4.heap.size = w3.heap.size + 1 := by rw [← hW4]; simp
    have m4 : Lst W4 w3.heap.size [.int .i64 0] := by rw [← hW4]; exact Blk.new w3 _ _
    have hz32 := b3.size
    have bw4 : Below w2.heap.size w2 W4 := b3.trans (b4.mono hz32)
    have HI0 := Lib.hid (show Inv w2 W4 w3.heap.size ps2 ps2 A2 n2 c2 p (bTr 7 301 (rel 0 ps2)) (fun i => w2.heap.size ≤ i ∧ i < w3.heap.size) 0 0 from by
      have h1 := bTr_ocan 7 HRS.out 301 (fun p hp => by have := HK2.out p hp; omega)
      have hr := (HP2.out.below bw4).rws
      refine ⟨fun _ h => h, HRS.out, HC2.out, hr.more bw4.size, fun ad e hn => ?_, OTow.below t3 (fun i q => q.elim) b4, h1.1, h1.2, m4, by omega, by omega, fun i q => ⟨q.1, by omega, by omega⟩, bw4⟩
      obtain ⟨ad', e', hlt, _⟩ := hr.2.2.2 hn
      rw [e] at e'
      injection e' with e'
      subst e'
      rintro (q | q)
      · omega
      · injection q with q
        omega)
    have HM3 := Lib.hid (show w2.heap.size ≤ w3.heap.size from hz32)
    have HW4 := Lib.hid hW4
    clear t3 b3 b4 s4 m4 hz32 bw4 HT hW4
    go_wp2_with fail
    rw [HW4.out]
    go_loopw [5, 6, 8] (fun l q i wr => ∃ (k nl cl : Nat) (AL qq : Option Addr), i = .int .i64 (k : Int) ∧ l = .slice AL nl cl ∧ q = .pointer qq ∧ nl ≤ 60 ∧ k ≤ 60 ∧ Hid (∃ qs t D cnt, Inv w2 wr w3.heap.size ps2 qs AL nl cl qq t D cnt k)) (fun l _ _ _ => lnOf l)
    case atStart => exact ⟨0, n2, c2, A2, p, rfl, rfl, rfl, by omega, by omega, Lib.hid ⟨_, _, _, _, HI0.out⟩⟩
    case round =>
      obtain ⟨k, nl, cl, AL, qq, rfl, rfl, rfl, hnl, hk60, HI⟩ := hrel
      obtain ⟨qs, t, D, cnt, hI⟩ := HI.out
      have hq9 : n' ≤ 9223372036854775807 := hn9
      by_cases h0 : nl = 0
      · subst h0
        have hqs : qs = [] := List.eq_nil_of_length_eq_zero hI.len
        have hcan := hI.can
        rw [hqs] at hcan
        have ht : t = none := none_left hcan
        have htow := hI.tow
        rw [ht] at htow
        obtain rfl : qq = none := htow
        have HE := Lib.hid (HAL.out wr (HZ2.out wr hI.below))
        have HBW := Lib.hid (HZ2.out wr hI.below)
        clear hI hqs hcan ht HI
        go_wp2_with fail
        (with_reducible refine HE.out.mono ?_)
        rintro e w5 ⟨rfl, b5⟩
        have B5 := Lib.hid (HBW.out.trans (b5.mono HBW.out.size))
        clear b5 HE
        go_wp2_with fail
        go_ret
        exact ⟨rfl, B5.out⟩
      · have h0' : 0 < nl := by omega
        have hM3 := HM3.out
        have hlq := hI.len
        have hbw := hI.below
        have hKS : ∀ V, Below w2.heap.size w2 V → ∀ B, w2.heap.size ≤ B → Kps V B qs := fun V hV B hB p hp => ((HKP.out V hV).more hB) p (hI.sub p hp)
        have hprs : Prs wr wr.heap.size AL nl qs := Prs.of_rws hI.row (hKS wr hbw _ hbw.size)
        have HRD := Lib.hid hI
        have hBV : ∀ V, Kept (fun i => D i ∨ (some w3.heap.size : Option Nat) = some i) wr V → Below w2.heap.size w2 V := fun V hk => hbw.trans (hk.below hbw.size (fun g q => q.elim (fun z => (hI.dD g z).1) (fun z => by injection z with z; omega)))
        -- the round, whichever pair it is
        have hmain : ∀ jn, jn < nl → ∃ (adl : Addr) (p : PV), AL = some adl ∧ Hid (qs[jn]? = some p) ∧ wr.cell? (adl.add (jn * 2)) = some (.slice p.A p.n p.c) ∧ p.n ≤ 9223372036854775807 := fun jn hj => by
          obtain ⟨ad, p, e, hlt, e1, c1, c2, b1⟩ := hprs.at_ hj
          exact ⟨ad, p, e, Lib.hid e1, c1, by have := b1.2.1; unfold maxLen at this; omega⟩
        have HMN := Lib.hid hmain
        have HBV := Lib.hid hBV
        have HKS := Lib.hid hKS
        have HLQ := Lib.hid hlq
        have HB16 := Lib.hid (HB.out wr (HZ2.out wr hbw))
        have HCN := Lib.hid (count_any (g := w3.heap.size) (m := (cnt : Int)) (w := wr) (hI.num.cell 0))
        have hnz : ((nl : Int) == 0) = false := by rw [beq_eq_false_iff_ne]; omega
        clear hmain hI hprs hKS hBV hbw hlq HI h0 hM3
        by_cases hkn : k < n'
        case' pos =>
          obtain ⟨ad2, u, rfl, _, _, hu, hcu⟩ := HB16.out.at_ hkn
          obtain ⟨un, rfl⟩ : ∃ un : Nat, u = (un : Int) := ⟨u.toNat, by omega⟩
          have ew1 : IntKind.i64.wrap (un : Int) = (un : Int) := by rw [IntKind.wrap_i64]; omega
          obtain ⟨jn, hjn⟩ : ∃ j, un % nl = j := ⟨_, rfl⟩
          have em : Int.tmod (un : Int) (nl : Int) = (jn : Int) := by rw [tmod_nat, hjn]
          have hjl : jn < nl := by rw [← hjn]; exact Nat.mod_lt _ h0'
          obtain ⟨adl, p, rfl, HPJ, c1, hpn9⟩ := HMN.out jn hjl
          clear hjn
        case' neg =>
          obtain ⟨adl, p, rfl, HPJ, c1, hpn9⟩ := HMN.out 0 h0'
          have c1 : wr.cell? adl = some (.slice p.A p.n p.c) := by simpa [Addr.add] using c1
          have HPJ : ∃ jn : Nat, Hid (qs[jn]? = some p) := ⟨0, HPJ⟩
          obtain ⟨jn, HPJ⟩ := HPJ
        all_goals
          go_wp2_with fail
          (with_reducible refine HCN.out.mono ?_)
          rintro e w4 ⟨rfl, hw⟩
          obtain rfl : wr = w4 := hw.symm
          have hI := HRD.out
          have hpq : p ∈ qs := List.mem_of_getElem? HPJ.out
          have hp2 : p ∈ ps2 := hI.sub p hpq
          have hky : ∀ V, Kept (fun i => D i ∨ (some w3.heap.size : Option Nat) = some i) wr V → Byt V wr.heap.size p.A p.n p.key ∧ p.n ≤ p.c := fun V hk => HKS.out V (HBV.out V hk) _ hI.below.size p hpq
          have hkl : p.n ≤ 300 := by
            have h1 := (hky wr (Kept.refl _ _)).1.1
            have h2 := HK2.out p hp2
            omega
          have how : oway 7 t p.key = 0 := by
            have h1 := hI.own
            cases t with
            | none => rfl
            | some T => exact tway_all h1 p.key
          have hp5 : Pre wr 7 (fun _ => False) D (some w3.heap.size) [] (cnt : Int) (oway 7 t p.key + 1) := ⟨by decide, fun i hi => hi.elim, fun g hg => by
            injection hg with hg
            subst hg
            have := hI.few
            exact ⟨hI.num, by omega, by omega⟩, fun i hi => ⟨fun q => q, fun q => by injection hi with hi; exact (hI.dD i q).2.1 hi.symm⟩, by rw [how]; have := hI.few; omega⟩
          have hMq : ∀ q ∈ olist t, q.1.length ≤ 1000000 := fun q hq => by
            rw [hI.can.list] at hq
            obtain ⟨x, hx, rfl⟩ := List.mem_map.1 hq
            have := HK2.out x (hI.sub x hx)
            show x.key.length ≤ _
            omega
          have hyes : (firstK (olist t) p.key).2 = true := by
            have h1 := (firstK_yes (l := p.key) (v := p.val) hI.can.owf.rise).2 (by rw [hI.can.list]; exact List.mem_map.2 ⟨p, hpq, rfl⟩)
            rw [h1]
          have H5 := del_any (o := 7) (c := p.c) hI.tow hI.can.srt hI.can.owf hI.can.good hMq hp5 (fun V hk => (hky V hk).1) (hky wr (Kept.refl _ _)).2 (by omega)
          rw [show mtr (some w3.heap.size) = .pointer (some ⟨w3.heap.size, 0, none⟩) from rfl] at H5
          have H5 := Lib.hid H5
          have HY := Lib.hid hyes
          have HW := Lib.hid how
          have HKY := Lib.hid hky
          have HPQ := Lib.hid (And.intro hpq hp2)
          have HPN := Lib.hid hkl
          clear hI hpq hp2 hky hkl how hp5 hMq hyes
          go_wp2_with fail
          (with_reducible refine H5.out.mono ?_)
          rintro e w5 ⟨p5, D5, j5, rfl, s5, b5, _⟩
          rw [HY.out]
          rw [HW.out] at b5
          have hb5 : j5 ≤ 1 := by omega
          have hI := HRD.out
          have hz5 := s5.kept.size
          have H6 := rdelm_any (some adl) p.A nl cl p.n p.c wr.heap.size qs p.key w5 (Prs.of_rws (rws_kept hI.row s5.kept (Nat.le_refl _) hI.apart) (HKS.out w5 (HBV.out w5 s5.kept) _ hI.below.size)) hz5 (by omega) (HKY.out w5 s5.kept).1
          obtain ⟨gz, hgz⟩ : ∃ g, (firstK (qs.map kvP) p.key).2 = g := ⟨_, rfl⟩
          rw [hgz] at H6
          have H6 := Lib.hid H6
          have S5 := Lib.hid s5
          have HB5 := Lib.hid hb5
          clear s5 b5 hI hgz H5
          go_wp2_with fail
          (with_reducible refine H6.out.mono ?_)
          rintro e w6 ⟨A6, n6, c6, rfl, h6, m6, b6⟩
          have hI := HRD.out
          have s5 := S5.out
          obtain ⟨ct, hct⟩ : ∃ ct : Nat, cnt + j5 = ct := ⟨_, rfl⟩
          have hm5 : Lst w5 w3.heap.size [.int .i64 (ct : Int)] := by
            have h1 := s5.num _ rfl
            rw [show (ct : Int) = (cnt : Int) + (j5 : Int) by omega]
            exact h1
          have hlt5 : w3.heap.size < w5.heap.size := Blk.lt hm5
          have hm6 : Lst w6 w3.heap.size [.int .i64 (ct : Int)] := Blk.below hm5 b6 hlt5
          have ew3 : IntKind.i64.wrap ((ct : Int) - (cnt : Int)) = (j5 : Int) := by rw [IntKind.wrap_i64]; have := hI.few; omega
          have id3 : decide ((1 : Int) < (j5 : Int)) = false := decide_eq_false (by omega)
          have hbw6 : Below w2.heap.size w2 w6 := (HBV.out w5 s5.kept).trans (b6.mono (HBV.out w5 s5.kept).size)
          have hn6 : n6 < nl := by
            have h1 := m6.2.1
            have h2 := delS_lt HPQ.out.1
            have h3 := hI.len
            simp only [List.length_map] at h1
            omega
          have hcan : OCan (delS p.key qs) (odels 7 t p.key) := hI.can.dels hI.rise 7 p.key
          have HC7 := Lib.hid (count_any (g := w3.heap.size) (m := (ct : Int)) (w := w6) (hm6.cell 0))
          have HA7 := Lib.hid (pas_any (c := c6) (HTB.out w6 (HZ2.out w6 hbw6)) (OTre.below (OTre.here s5.tre) b6) (PRow.prs m6 (fun x hx => HKS.out w6 hbw6 _ hbw6.size x (delS_sub x hx))) (fun x hx => HKS.out w6 hbw6 _ hbw6.size x (delS_sub x hx)) (Nat.le_refl _) (by omega) h6 (delS_rise hI.rise) (fun x hx => by have := HK2.out x (hI.sub x (delS_sub x hx)); omega) (fun x hx => HV2.out x (hI.sub x (delS_sub x hx))) hcan)
          have HI7 := Lib.hid (fun (w7 : World) (b7 : Below w6.heap.size w6 w7) => show Inv w2 w7 w3.heap.size ps2 (delS p.key qs) A6 n6 c6 p5 (odels 7 t p.key) (fun i => D5 i ∧ i < w5.heap.size) ct (k + 1) from by
            have b57 : Below w5.heap.size w5 w7 := b6.trans (b7.mono b6.size)
            have hz7 := b57.size
            refine ⟨fun x hx => hI.sub x (delS_sub x hx), delS_rise hI.rise, h6, (m6.rws.below b7).more b7.size, fun ad e hn => ?_, OTow.below s5.tow (fun i q => q.elim) b57, hcan, odels_all (P := fun o => o = 7) rfl hI.own p.key, Blk.below hm5 b57 hlt5, ?_, ?_, fun i q => ?_, hbw6.trans (b7.mono hbw6.size)⟩
            · have h1 := MineR.far m6 ad e hn
              rintro (q | q)
              · have := q.2
                omega
              · injection q with q
                omega
            · have := hI.few
              omega
            · have := hI.rnd
              omega
            · have hlr : w3.heap.size < wr.heap.size := Blk.lt hI.num
              have h2 := hI.below.size
              rcases s5.sub i q.1 with z | z
              · have := hI.dD i z
                exact ⟨this.1, this.2.1, by omega⟩
              · exact ⟨by omega, by omega, by have := q.2; omega⟩)
          have hk1 : k + 1 ≤ 60 := by have := hI.rnd; omega
          clear hI s5 hct hm5 hlt5 hm6 hbw6 hcan h6 m6 b6 H6
          go_wp2_with fail
          (with_reducible refine HC7.out.mono ?_)
          rintro e w7 ⟨rfl, hw⟩
          obtain rfl : w6 = w7 := hw.symm
          go_wp2_with fail
          (with_reducible refine HA7.out.mono ?_)
          rintro e w7 ⟨rfl, b7⟩
          have HX := Lib.hid (HI7.out w7 b7)
          clear b7 HI7 HA7 HC7 ew3 id3
          go_wp2_with fail
          exact ⟨⟨k + 1, n6, c6, A6, p5, by go_num, rfl, rfl, by omega, hk1, Lib.hid ⟨_, _, _, _, HX.out⟩⟩, hn6⟩
set_option maxRecDepth 100000 in
theorem lifted (os : Os) (started : os.Started) (H : Type) (enc : TypeId × Value → H) :
    ReturnsInHanded {} Tryz.checked os 5 .any (fun w args => (Rows.delOwnSpec.pre enc Tryz.prog Tryz.f5 [] false w args ∧ laidMetH Tryz.prog laid3 w) ∧ sizedMet enc Tryz.prog Tryz.f5 (OpenSpec.ofChange Rows.delOwnSpec) false w args) (Rows.delOwnSpec.post enc Tryz.prog Tryz.f5 false true false false) := by
  refine returnsInHanded_of_change_and (C := Tryz.checked) (X := fun w _ => laidMetH Tryz.prog laid3 w) (fun _ _ _ hh h => h.of_heap hh) own started (by kernel_rfl) Tryz.func5
    (ChangeSpec.witness_shaped (enc := enc) (C := Tryz.checked) (os := os) (X := fun w _ => laidMetH Tryz.prog laid3 w) false (World.doorLaid Tryz.prog 400 os) #[.slice none 0 0, .slice none 0 0] 8 rfl (World.shaped_of_RefB (by kernel_rfl) (by kernel_rfl)) (by kernel_rfl) (by kernel_rfl) (by kernel_rfl) (door_met3 os _)) ?_
  intro W base args ds gs before hval0 hW _ _ hL _
  have hval : ∀ (j : Nat) t v, Tryz.f5.params[j]? = some t → args[j]? = some v → Value.okWide Tryz.prog W .any base t v := hval0
  have hW' := hW
  obtain ⟨p, q, hA0, hV, rfl, hfz, hnd⟩ := hW
  have hA : DataW.TrodAll enc Tryz.prog W 0 (fun _ => true) true Tryz.f5.params.toList args.toList ds p := hA0
  rw [Tryz.params5] at hA hval
  obtain ⟨v0, vs0, d0, ds0, p0, q0, hargs, rfl, rfl, h0, r0⟩ := trodAll_cons hA
  obtain ⟨v1, vs1, d1, ds1, p1, q1, rfl, rfl, rfl, h1, r1⟩ := trodAll_cons r0
  obtain ⟨rfl, rfl, rfl⟩ := trodAll_nil r1
  obtain rfl : args = #[v0, v1] := by cases args; simp_all
  obtain ⟨rfl, rfl⟩ := trodVars_none hV
  have k0 := h0
  have lt0 : ∀ x ∈ p0, x.block < W.heap.size := by obtain ⟨m, hm⟩ := k0; exact DataW.trod_lt m _ _ _ hm
  have k1 := h1
  have lt1 : ∀ x ∈ p1, x.block < W.heap.size := by obtain ⟨m, hm⟩ := k1; exact DataW.trod_lt m _ _ _ hm
  obtain ⟨A0, n0, c0, l0, rfl, b0, kp0, nc0, vl0⟩ := open_kps (hval 0 22 v0 rfl rfl) h0
  obtain ⟨A1, n1, c1, l1, rfl, b1, nc1⟩ := open_u16 (hval 1 50 v1 rfl rfl) h1
  clear hA0 hval0
  refine (walk A0 n0 c0 l0 A1 n1 c1 l1 W (of_laid3 hL) b0 kp0 nc0 vl0 b1 nc1).mono fun e W' ⟨he, bel⟩ => ?_
  subst he
  exact ⟨_, rfl, _, _, _, [], _, [], hW', trodAll_mk1 (shut_bool Tryz.underlying4 _), (trodAll_cons_mk (Below.trod laidOut (by kernel_rfl) (of_decide_eq_true (by kernel_rfl)) k0 bel lt0) (trodAll_cons_mk (Below.trod laidOut (by kernel_rfl) (of_decide_eq_true (by kernel_rfl)) k1 bel lt1) trodAll_mk0)), rfl, bel.frame _, fun h => by cases h⟩

set_option maxRecDepth 100000 in
theorem proved : Rows.DelOwnSaid :=
  OpenClaim.holds_of_wide 5 Tryz.f5 rfl rfl rfl rfl rfl rfl rfl ⟨rfl, rfl, rfl, rfl, rfl⟩ rfl rfl rfl rfl rfl (by kernel_rfl) Tryz.func5 (by kernel_rfl)
    (of_decide_eq_true (by kernel_rfl)) (by unfold Func.isWrapper; first | (rw [if_pos (by decide +kernel)]; kernel_rfl) | (rw [if_neg (by decide +kernel)]; exact ⟨rfl, rfl⟩))
    (fun os started H enc _ => lifted os started H enc)
set_option maxRecDepth 100000 in
theorem card_holds : Rows.DelOwnCardSaid :=
  Claim7.holds_tied_plain_at .later [] [.data, .data, .data] true _ false
    proved (fun _ h => by cases h) (by kernel_rfl) (fun _ h => by cases h) delOwn_row_tie rfl ⟨rfl, rfl⟩ (by kernel_rfl) rfl
    (fun f fn hf hfn => by
      obtain rfl : f = 5 := Option.some.inj ((show Tryz.prog.funcNamed "spunyarn/spunyarnlaw16.DelOwn" = some 5 by kernel_rfl).symm.trans hf) |>.symm
      obtain rfl : fn = Tryz.f5 := (Option.some.inj (Tryz.func5.symm.trans hfn)).symm
      exact ⟨by kernel_rfl, fun j t ht => by
        rw [Tryz.params5] at ht
        have hm : t ∈ [22, 50] := by simpa using Array.mem_of_getElem? ht
        have hall : ([22, 50].all fun u => !Tryz.prog.wantsStandIn u) = true := by kernel_rfl
        exact (show Tryz.prog.wantsStandIn t = false by simpa using List.all_eq_true.1 hall t hm)⟩)
    (by kernel_rfl)
end Go.Proofs.YtcbgieoiefbeiaaGreatDoor.delOwn
