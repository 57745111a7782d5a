/-
  Layer 17's own far, tree, same; what is told of the canonical tree of pairs.
-/
import Derived.Test.YtidiinededalmaaGreatNrAll
import Derived.Test.YtidiinededalmaaGreatNrRef
import Derived.Test.YtidiinededalmaaGreatCnLaw
import Derived.Test.YtidiinededalmaaGreatCanonPt
import Derived.Test.YtidiinededalmaaGreatCanonQ
import Derived.Test.YtidiinededalmaaGreatBuild
import Derived.Test.YtidiinededalmaaGreatSort
namespace Go.Proofs.YtidiinededalmaaGreat
open Go.RowKit Go.Shelf

set_option maxRecDepth 100000 in
set_option maxHeartbeats 1000000 in
theorem nfar_any (A : Option Addr) (n c B many : Nat) (ps : List PV) (w : World) (ha : Prs w B A n ps) (hB : B ≤ w.heap.size) (hm : many ≤ 1000) :
    Calls Tryz.prog 6 #[.slice A n c, .int .i64 (many : Int)] w fun e w' => e = .returned (.bool (farP ps many)) ∧ Below w.heap.size w w' := by
  have HA := Lib.hid (fun V (h : Below w.heap.size w V) => (ha.more hB).below h)
  have HL := Lib.hid ha.1
  have hn : n ≤ maxLen := ha.2.1
  have hn' : n ≤ 9223372036854775807 := by unfold maxLen at hn; omega
  clear ha hn
  go_enter Tryz.func6, Tryz.ntmps6
  by_cases hmn : many < n
  · have HF := Lib.hid (show farP ps many = true from by unfold farP; rw [HL.out, decide_eq_true hmn]; rfl)
    go_wp2
    go_ret
    exact ⟨ret_bool HF.out.symm, Below.refl _ _⟩
  · go_wp2
    go_loopw [13] (fun i wr => ∃ k : Nat, k ≤ n ∧ i = .int .i64 k ∧ Hid (∀ j p, j < k → ps[j]? = some p → p.key.length ≤ 300) ∧ Hid (Below w.heap.size w wr)) (fun i _ => n - (intOf i).toNat)
    case atStart => exact ⟨0, Nat.zero_le _, rfl, Lib.hid (fun j p hj => by omega), Lib.hid (Below.refl _ _)⟩
    case round =>
      obtain ⟨k, hk, rfl, HS, HB⟩ := hrel
      by_cases h1 : k < n
      · obtain ⟨ad, p, rfl, hlt, e1, c1, c2, b1⟩ := (HA.out _ HB.out).at_ h1
        have hpn : p.n = p.key.length := b1.1.symm
        have hpm : p.n ≤ 9223372036854775807 := by have := b1.2.1; unfold maxLen at this; omega
        have HE1 := Lib.hid e1
        have HPN := Lib.hid hpn
        rw [← add_of_add] at c2
        have c2' : wr.cell? ⟨(ad.add (k * 2)).block, (ad.add (k * 2)).off + 1, none⟩ = some (.int .u64 p.val) := c2
        have HB2 := Lib.hid (HB.out.alloc HB.out.size (.cells #[.slice p.A p.n p.c, .int .u64 p.val] 34))
        clear b1 e1 hpn
        by_cases hb : 300 < p.n
        · have HF := Lib.hid (show farP ps many = true from by
            unfold farP
            rw [Bool.or_eq_true, List.any_eq_true]
            exact .inr ⟨p, List.mem_of_getElem? HE1.out, decide_eq_true (by have := HPN.out; omega)⟩)
          go_wp2
          go_ret
          exact ⟨ret_bool HF.out.symm, HB2.out⟩
        · have HS1 := Lib.hid (show ∀ j p', j < k + 1 → ps[j]? = some p' → p'.key.length ≤ 300 from fun j p' hj hp' => by
            rcases Nat.lt_or_ge j k with h | h
            · exact HS.out j p' h hp'
            · have : j = k := by omega
              subst this
              rw [HE1.out] at hp'
              injection hp' with hp'
              subst hp'
              have := HPN.out
              omega)
          go_wp2
          exact ⟨⟨k + 1, by omega, by go_num, HS1, HB2⟩, by simp [intOf]; omega⟩
      · have HF := Lib.hid (show farP ps many = false from by
          unfold farP
          rw [HL.out, decide_eq_false hmn, Bool.false_or, Bool.eq_false_iff]
          intro h
          obtain ⟨p, hp, h2⟩ := List.any_eq_true.1 h
          obtain ⟨j, hj⟩ := List.mem_iff_getElem?.1 hp
          have h3 := HS.out j p (by have := (List.getElem?_eq_some_iff.1 hj).1; have := HL.out; omega) hj
          simp only [decide_eq_true_eq] at h2
          omega)
        go_wp2
        go_ret
        exact ⟨ret_bool HF.out.symm, HB.out⟩

theorem nfarP_no {ps : List PV} {many : Nat} (h : farP ps many = false) : ps.length ≤ many ∧ ∀ p ∈ ps, p.key.length ≤ 300 := by
  unfold farP at h
  rw [Bool.or_eq_false_iff] at h
  obtain ⟨h1, h2⟩ := h
  refine ⟨by have := of_decide_eq_false h1; omega, fun p hp => ?_⟩
  have := List.any_eq_false.1 h2 p hp
  simp at this
  omega
/-- The canonical tree of pairs that rise. -/
def nrT (ps : List PV) : Option (Nn × Fo) := bTr 1 301 (rel 0 ps)
def NtPost (w : World) (t : Option (Nn × Fo)) (e : Ending) (w' : World) : Prop :=
  ∃ p, e = .returned (.pointer p) ∧ OTre w' (· < w'.heap.size) t p ∧ Below w.heap.size w w'
theorem nrsn_chk {ps : List PV} (h : Rsn ps) (hk : ∀ p ∈ ps, p.key.length ≤ 300) : chkV (ps.map PV.key) = 0 := by
  unfold chkV
  rw [if_neg, if_pos (rsn_keys h)]
  intro hb
  unfold bigB at hb
  obtain ⟨k, hk1, hk2⟩ := List.any_eq_true.1 hb
  obtain ⟨p, hp, rfl⟩ := List.mem_map.1 hk1
  have := hk p hp
  simp at hk2
  omega
set_option maxRecDepth 100000 in
set_option maxHeartbeats 1000000 in
theorem ntree_any (A : Option Addr) (n c B : Nat) (ps : List PV) (w : World) (ha : Prs w B A n ps) (hk : Kps w B ps) (hB : B ≤ w.heap.size) (hn : n ≤ 300) (hr : Rsn ps) (hl : ∀ p ∈ ps, p.key.length ≤ 300) :
    Calls Tryz.prog 9 #[.slice A n c, .int .u64 1] w (NtPost w (nrT ps)) := by
  have htn : (otn (nrT ps) : Int) ≤ 9223372036854775807 := by
    have h1 := bTr_tn 1 301 (rel 0 ps)
    rw [rel_len] at h1
    have h2 := ha.1
    have h3 : 301 * ps.length ≤ 301 * 300 := Nat.mul_le_mul_left _ (by omega)
    unfold nrT
    omega
  have HCB := Lib.hid (fun (V : World) (A1 : Option Addr) (cp : Nat) (hcp : n ≤ cp) (hV : Below w.heap.size w V) (hp : Prs V V.heap.size A1 n ps) =>
    have hkv := (hk.more hB).below hV
    show Calls Tryz.prog 26 #[.pointer none, .int .u64 1, .slice A1 n cp] V (CbPost V none [] 0 (nrT ps)) from
    (cbuild_any (o := 1) (by omega) 301 n cp V.heap.size A1 ps none [] 0 V
      ⟨fun W hW => hp.below (hW.below (Nat.le_refl _) (fun i q => by cases q)), fun p hp i hi => by simp, fun p hp => (hkv p hp).2⟩ (Nat.le_refl _) (by omega) hcp (fun p hp => by have := hl p hp; omega) (fun g q => by cases q) (by rw [Int.zero_add]; exact htn)).mono fun e w' h => h.1 (nrsn_chk hr hl))
  have HA := Lib.hid (fun V (h : Below w.heap.size w V) => (ha.more hB).below h)
  have HK := Lib.hid (fun V (h : Below w.heap.size w V) => ((hk.more hB).below h).more h.size)
  have HN := Lib.hid ha.1
  clear ha hk hr hl htn
  go_enter Tryz.func9, Tryz.ntmps9
  go_wp2
  go_loopw [5, 12] (fun v i wr => ∃ k : Nat, k ≤ n ∧ i = .int .i64 k ∧ Hid (PRow wr w.heap.size 31 v k (ps.take k)) ∧ Hid (Below w.heap.size w wr)) (fun _ i _ => n - (intOf i).toNat)
  case atStart => exact ⟨0, Nat.zero_le _, rfl, Lib.hid (MineR.nil _ _ _ _), Lib.hid (Below.refl _ _)⟩
  case round =>
    obtain ⟨k, hk, rfl, HR, HB⟩ := hrel
    by_cases h1 : k < n
    · obtain ⟨ad, p, rfl, hlt, e1, c1, c2, _⟩ := (HA.out _ HB.out).at_ h1
      have HV := Lib.hid e1
      have hsz := HB.out.size
      rw [← add_of_add] at c2
      have c2' : wr.cell? ⟨(ad.add (k * 2)).block, (ad.add (k * 2)).off + 1, none⟩ = some (.int .u64 p.val) := c2
      obtain ⟨A1, cp1, rfl, _⟩ := MineR.slice HR.out
      have HM := Lib.hid (fun (o1 o2 : Obj) => (MineR.alloc HR.out o1).alloc o2)
      have HS := Lib.hid (fun (o1 o2 : Obj) => show Below w.heap.size w ((wr.alloc o1).alloc o2) from (HB.out.alloc HB.out.size _).alloc (by have := HB.out.size; simp; omega) _)
      have HY := Lib.hid (show ∀ (j : Nat) (u : Value), (pvc p)[j]? = some u → ((wr.alloc (.cells #[.slice p.A p.n p.c, .int .u64 p.val] 34)).alloc (.cells #[.slice p.A p.n p.c, .int .u64 p.val] 31)).cell? ((⟨wr.heap.size + 1, 0, none⟩ : Addr).add j) = some u from by
        have := Blk.new (wr.alloc (.cells #[.slice p.A p.n p.c, .int .u64 p.val] 34)) 31 #[.slice p.A p.n p.c, .int .u64 p.val]
        rw [World.size_alloc] at this
        exact pair_cells this)
      clear c2 e1
      go_wp2_with (at_builtin
                   refine wpList_append_rws ((wr.alloc (.cells #[.slice p.A p.n p.c, .int .u64 p.val] 34)).alloc (.cells #[.slice p.A p.n p.c, .int .u64 p.val] 31)) rfl (.tmp 16) (.tmp 18) _ rfl Tryz.underlying41 info_pair (by rfl) (by decide) w.heap.size (.slice A1 k cp1) k ((ps.take k).map pvc) rfl (HM.out _ _) ⟨wr.heap.size + 1, 0, none⟩ 1 (pvc p) rfl rfl HY.out (pair_one p) (by omega) (by unfold maxLen; omega) (by simp; omega) ?_
                   intro v2 w2 hm2 hg2 _
                   have M2 := Lib.hid hm2
                   have C2 := Lib.hid (below_grown (HS.out _ _) (HM.out _ _) hg2 (Nat.le_refl _) (by simp; omega))
                   clear hm2 hg2)
      go_wp2
      exact ⟨⟨k + 1, by omega, by go_num, Lib.hid (show MineR _ _ _ 2 _ _ ((ps.take (k + 1)).map pvc) from by rw [← take_pv HV.out]; exact M2.out), C2⟩, by simp [intOf]; omega⟩
    · obtain rfl : k = n := by omega
      obtain ⟨A1, cp1, rfl, hc1⟩ := MineR.slice HR.out
      have hps : ps.take k = ps := List.take_of_length_le (by rw [HN.out]; exact Nat.le_refl _)
      have HP := Lib.hid (show Prs wr wr.heap.size A1 k ps from by
        have h2 := HR.out
        rw [hps] at h2
        exact PRow.prs h2 (HK.out _ HB.out))
      have HC := Lib.hid (HCB.out wr A1 cp1 hc1 HB.out HP.out)
      clear hps HCB
      go_wp2_with fail
      (with_reducible refine HC.out.mono ?_)
      rintro e w5 ⟨p, rfl, t5, k5, _⟩
      have T5 := Lib.hid t5.here
      have B5 := Lib.hid (HB.out.trans (k5.below HB.out.size (fun i q => by cases q)))
      clear t5 k5 HC
      go_wp2_with fail
      go_ret
      exact ⟨p, rfl, T5.out, B5.out⟩
set_option maxRecDepth 100000 in
theorem nsame_any (A A' : Option Addr) (n c c' : Nat) (l : List UInt8) (v : Int) (b : Bool) (w : World) (h1 : Byt w w.heap.size A n l) (h2 : Byt w w.heap.size A' n l) :
    Calls Tryz.prog 14 #[.agg #[.slice A n c, .int .u64 v], .bool b, .agg #[.slice A' n c', .int .u64 v], .bool b] w fun e w' => e = .returned (.bool true) ∧ Below w.heap.size w w' := by
  obtain ⟨W, hW⟩ : ∃ W, (w.alloc (.cells #[.slice A n c, .int .u64 v] 31)).alloc (.cells #[.slice A' n c', .int .u64 v] 34) = W := ⟨_, rfl⟩
  have hb : Below w.heap.size w W := by rw [← hW]; exact ((Below.refl _ _).alloc (Nat.le_refl _) _).alloc (by simp) _
  have H := rsame_any A A' n n c c' w.heap.size l l W (h1.below hb) (h2.below hb)
  have hs : sameB l l = true := by unfold sameB; exact decide_eq_true rfl
  rw [hs] at H
  have H := Lib.hid H
  have HB := Lib.hid hb
  have HW := Lib.hid hW
  have hbb : (b == b) = true := beq_self_eq_true b
  have hvv : (v == v) = true := beq_self_eq_true v
  clear h1 h2 hs hb hW
  go_enter Tryz.func14, Tryz.ntmps14
  go_wp2_with fail
  rw [HW.out]
  (with_reducible refine H.out.mono ?_)
  rintro e w2 ⟨rfl, s2⟩
  have HB2 := Lib.hid (HB.out.trans ((s2.below W.heap.size).mono HB.out.size))
  clear s2 H
  go_wp2_with fail
  go_ret
  exact ⟨rfl, HB2.out⟩
/-- What is known of the canonical tree of pairs. -/
structure NT (ps : List PV) : Prop where
  wf : owf (nrT ps)
  full : ofull (nrT ps)
  list : olist (nrT ps) = ps.map kvP
  len : ∀ q ∈ olist (nrT ps), q.1.length ≤ 60000
  fits : Fits (nrT ps)
theorem nrT_ok {ps : List PV} (hr : Rsn ps) (hk : ∀ p ∈ ps, p.key.length ≤ 300) (hn : ps.length ≤ 300) : NT ps := by
  by_cases hne : ps = []
  · subst hne
    exact ⟨trivial, trivial, rfl, fun q hq => (by cases hq), ⟨fun v hv => (by cases hv), (by show (0 : Nat) ≤ _; omega)⟩⟩
  have hL : rel 0 ps = ps.map kvP := rel_zero ps
  have hne2 : rel 0 ps ≠ [] := by rw [hL]; simpa using hne
  have hc := can_of 1 hr hne (f := 301) (fun p hp => by have := hk p hp; omega)
  have hlen : ∀ p ∈ rel 0 ps, p.1.length < 301 := fun p hp => by
    rw [hL] at hp
    obtain ⟨q, hq, rfl⟩ := List.mem_map.1 hp
    have := hk q hq
    show q.key.length < 301
    omega
  obtain ⟨_, w2⟩ := cT_wf 1 301 (rel 0 ps) hne2 (rsn_rel hr) hlen
  have e : nrT ps = some (cT 1 301 (rel 0 ps)) := by unfold nrT bTr; rw [if_neg hne2]
  refine ⟨by rw [e]; exact w2, by rw [e]; exact ⟨tgood_ne hc.good, Fo.good_full hc.good.2⟩, by rw [e]; exact hc.list, fun q hq => ?_, by rw [e]; exact hc.fits (fun p hp => by obtain ⟨q, hq, rfl⟩ := List.mem_map.1 hp; have := hk q hq; show q.key.length ≤ _; omega) (by rw [List.length_map]; omega)⟩
  rw [e, show olist (some (cT 1 301 (rel 0 ps))) = _ from hc.list] at hq
  obtain ⟨p, hp, rfl⟩ := List.mem_map.1 hq
  have := hk p hp
  show p.key.length ≤ _
  omega
end Go.Proofs.YtidiinededalmaaGreat
