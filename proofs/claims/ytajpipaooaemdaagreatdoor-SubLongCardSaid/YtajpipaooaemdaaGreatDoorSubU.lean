/-
  The document's own Sub, Strip and Longest, of pairs that rise.
  The document's own Under: a prefix ahead of all keys.
-/
import Derived.Test.YtajpipaooaemdaaGreatDoorSubM
import Derived.Test.YtajpipaooaemdaaGreatDoorCnLaw
import Derived.Test.YtajpipaooaemdaaGreatDoorSort
import Derived.Test.YtajpipaooaemdaaGreatDoorCmp
import Derived.Test.YtajpipaooaemdaaGreatDoorRaws
import Derived.Deep.RegionHeld3
namespace Go.Proofs.YtajpipaooaemdaaGreatDoor
open Go.RowKit

theorem subS_take {ps : List PV} {key : List UInt8} {k : Nat} {p : PV} (h : ps[k]? = some p) : subS key (ps.take (k + 1)) = if begB p.key key = true then subS key (ps.take k) ++ [p] else subS key (ps.take k) := by
  rw [List.take_add_one, h]
  unfold subS
  rw [List.filter_append]
  cases hb : begB p.key key <;> simp [hb]
theorem subS_lek (key : List UInt8) (ps : List PV) (k : Nat) : (subS key (ps.take k)).length ≤ k :=
  Nat.le_trans (List.length_filter_le _ _) (by rw [List.length_take]; exact Nat.min_le_left _ _)
theorem subS_len (key : List UInt8) (ps : List PV) : (subS key ps).length ≤ ps.length := List.length_filter_le _ _
theorem subS_sub {key : List UInt8} {ps : List PV} : ∀ p ∈ subS key ps, p ∈ ps := fun _ hp => (List.mem_filter.1 hp).1
set_option maxRecDepth 100000 in
set_option maxHeartbeats 1000000 in
theorem rsubm_any (A A' : Option Addr) (n c n' c' B : Nat) (ps : List PV) (key : List UInt8) (w : World) (ha : Prs w B A n ps) (hB : B ≤ w.heap.size) (hn : n ≤ 1000000) (hb : Byt w B A' n' key) :
    Calls Tryz.prog 13 #[.slice A n c, .slice A' n' c'] w fun e w' => ∃ A2 n2 c2, e = .returned (.slice A2 n2 c2) ∧ n2 ≤ c2 ∧ MineR w' w.heap.size 53 2 (.slice A2 n2 c2) n2 ((subS key ps).map pvc) ∧ Below w.heap.size w w' := by
  have HA := Lib.hid (fun V (h : Below w.heap.size w V) => (ha.more hB).below h)
  have HB := Lib.hid (fun V (h : Below w.heap.size w V) => (hb.more hB).below h)
  have HN := Lib.hid ha.1
  clear ha hb
  go_enter Tryz.func13, Tryz.ntmps13
  go_wp2
  go_loopw [5, 6] (fun v i wr => ∃ k m : Nat, k ≤ n ∧ i = .int .i64 (k : Int) ∧ Hid ((subS key (ps.take k)).length = m) ∧ Hid (PRow wr w.heap.size 53 v m (subS key (ps.take k))) ∧ Hid (Below w.heap.size w wr)) (fun _ i _ => n - (intOf i).toNat)
  case atStart => exact ⟨0, 0, Nat.zero_le _, rfl, Lib.hid rfl, Lib.hid (MineR.nil _ _ _ _), Lib.hid (Below.refl _ _)⟩
  case round =>
    obtain ⟨k, m, hk, rfl, HM, HR, HBL⟩ := hrel
    obtain ⟨A1, cp1, rfl, hcp⟩ := MineR.slice HR.out
    by_cases h1 : k < n
    · obtain ⟨ad, p, rfl, hlt, e1, c1, c2, b1⟩ := (HA.out _ HBL.out).at_ h1
      rw [← add_of_add] at c2
      have c2' : wr.cell? ⟨(ad.add (k * 2)).block, (ad.add (k * 2)).off + 1, none⟩ = some (.int .u64 p.val) := c2
      have HG := rbegins_any p.A A' p.n n' p.c c' w.heap.size p.key key wr b1 (HB.out _ HBL.out)
      have HT := subS_take (key := key) e1
      obtain ⟨bb, hbb⟩ : ∃ b, begB p.key key = b := ⟨_, rfl⟩
      rw [hbb] at HG HT
      have HT := Lib.hid HT
      have HG := Lib.hid HG
      have hml : m ≤ k := by rw [← HM.out]; exact subS_lek key ps k
      have HML := Lib.hid hml
      clear c2 e1 b1 hbb hml
      go_wp2_with fail
      (with_reducible refine HG.out.mono ?_)
      rintro e w1 ⟨rfl, s1⟩
      obtain ⟨q1, rfl⟩ := s1
      have c3 : (wr.drewN q1).cell? (ad.add (k * 2)) = some (.slice p.A p.n p.c) := c1
      have c4 : (wr.drewN q1).cell? ⟨(ad.add (k * 2)).block, (ad.add (k * 2)).off + 1, none⟩ = some (.int .u64 p.val) := c2'
      have HB1 := Lib.hid (HBL.out.trans (Still.below ⟨q1, rfl⟩ _))
      have HR1 := Lib.hid (show PRow (wr.drewN q1) w.heap.size 53 (.slice A1 m cp1) m (subS key (ps.take k)) from MineR.still HR.out ⟨q1, rfl⟩)
      generalize wr.drewN q1 = w1 at c3 c4 HB1 HR1 ⊢
      clear c1 c2' HG HR
      cases bb with
      | false =>
        go_wp2_with fail
        have ht : subS key (ps.take (k + 1)) = subS key (ps.take k) := by rw [HT.out]; simp
        exact ⟨⟨k + 1, m, by omega, by go_num, Lib.hid (by rw [ht]; exact HM.out), by rw [ht]; exact HR1, HB1⟩, by simp [intOf]; omega⟩
      | true =>
        have HX := Lib.hid (fun (o1 : Obj) => MineR.alloc HR1.out o1)
        have HS := Lib.hid (fun (o1 : Obj) => show Below w.heap.size w (w1.alloc o1) from HB1.out.alloc HB1.out.size _)
        have hsz := HB1.out.size
        have HY := Lib.hid (show ∀ (j : Nat) (u : Value), (pvc p)[j]? = some u → (w1.alloc (.cells #[.slice p.A p.n p.c, .int .u64 p.val] 53)).cell? ((⟨w1.heap.size, 0, none⟩ : Addr).add j) = some u from pair_cells (Blk.new w1 53 #[.slice p.A p.n p.c, .int .u64 p.val]))
        go_wp2_with (at_builtin
                     refine wpList_append_rws (w1.alloc (.cells #[.slice p.A p.n p.c, .int .u64 p.val] 53)) rfl (.tmp 20) (.tmp 25) _ rfl Tryz.underlying22 info_kpair (by rfl) (by decide) w.heap.size (.slice A1 m cp1) m ((subS key (ps.take k)).map pvc) rfl (HX.out _) ⟨w1.heap.size, 0, none⟩ 1 (pvc p) rfl rfl HY.out (pair_one p) (by have := HML.out; omega) (by have := HML.out; unfold maxLen; omega) (by simp; omega) ?_
                     intro v2 w2 hm2 hg2 _
                     have M2 := Lib.hid hm2
                     have C2 := Lib.hid (below_grown (HS.out _) (HX.out _) hg2 (Nat.le_refl _) (by simp; omega))
                     clear hm2 hg2)
        go_wp2
        have ht : subS key (ps.take (k + 1)) = subS key (ps.take k) ++ [p] := by rw [HT.out]; simp
        exact ⟨⟨k + 1, m + 1, by omega, by go_num, Lib.hid (by rw [ht, List.length_append, HM.out]; rfl), Lib.hid (show MineR _ _ _ 2 _ _ ((subS key (ps.take (k + 1))).map pvc) from by rw [ht, List.map_append]; exact M2.out), C2⟩, by simp [intOf]; omega⟩
    · obtain rfl : k = n := by omega
      have hps : ps.take k = ps := List.take_of_length_le (by rw [HN.out]; exact Nat.le_refl _)
      have HP := Lib.hid (show MineR wr w.heap.size 53 2 (.slice A1 m cp1) m ((subS key ps).map pvc) from by
        have h2 := HR.out
        rw [hps] at h2
        exact h2)
      clear hps
      go_wp2
      go_ret
      exact ⟨A1, m, cp1, rfl, hcp, HP.out, HBL.out⟩
set_option maxRecDepth 100000 in
theorem rsub_any (A A' : Option Addr) (n c n' c' B : Nat) (ps : List PV) (key : List UInt8) (w : World) (ha : Prs w B A n ps) (hk : Kps w B ps) (hB : B ≤ w.heap.size) (hn : n ≤ 1000000) (hb : Byt w B A' n' key) :
    Calls Tryz.prog 13 #[.slice A n c, .slice A' n' c'] w fun e w' => ∃ A2 n2 c2, e = .returned (.slice A2 n2 c2) ∧ n2 ≤ c2 ∧ Prs w' w'.heap.size A2 n2 (subS key ps) ∧ Kps w' w'.heap.size (subS key ps) ∧ Below w.heap.size w w' :=
  (rsubm_any A A' n c n' c' B ps key w ha hB hn hb).mono fun _ _ ⟨A2, n2, c2, e, h1, h2, h3⟩ =>
    have hkp : Kps _ _ (subS key ps) := fun p hp => (((hk.more hB).below h3).more h3.size) p (subS_sub p hp)
    ⟨A2, n2, c2, e, h1, PRow.prs h2 hkp, hkp, h3⟩
set_option maxRecDepth 100000 in
set_option maxHeartbeats 1000000 in
theorem rlongest_any (A : Option Addr) (n c B : Nat) (ps : List PV) (w : World) (ha : Prs w B A n ps) (hB : B ≤ w.heap.size) (hn : n ≤ 1000000) :
    Calls Tryz.prog 17 #[.slice A n c] w fun e w' => e = .returned (.int .i64 (lngS ps)) ∧ Below w.heap.size w w' := by
  have HA := Lib.hid (fun V (h : Below w.heap.size w V) => (ha.more hB).below h)
  have HN := Lib.hid ha.1
  clear ha
  go_enter Tryz.func17, Tryz.ntmps17
  go_wp2
  go_loopw [3, 4] (fun v i wr => ∃ k : Nat, k ≤ n ∧ i = .int .i64 (k : Int) ∧ v = .int .i64 (lngS (ps.take k)) ∧ Hid (Below w.heap.size w wr)) (fun _ i _ => n - (intOf i).toNat)
  case atStart => exact ⟨0, Nat.zero_le _, rfl, rfl, Lib.hid (Below.refl _ _)⟩
  case round =>
    obtain ⟨k, hk, rfl, rfl, HBL⟩ := hrel
    by_cases h1 : k < n
    · obtain ⟨ad, p, rfl, hlt, e1, c1, c2, b1⟩ := (HA.out _ HBL.out).at_ h1
      have HT := Lib.hid (lngS_take e1)
      have hpn : p.n = p.key.length := b1.1.symm
      obtain ⟨pn, hpn2⟩ : ∃ z, p.n = z := ⟨_, rfl⟩
      rw [hpn2] at c1 hpn
      have HP := Lib.hid hpn
      obtain ⟨l0, hl0⟩ : ∃ z, lngS (ps.take k) = z := ⟨_, rfl⟩
      have HL0 := Lib.hid hl0
      rw [hl0]
      clear c2 e1 b1 hpn hpn2 hl0
      go_wp2
      exact ⟨⟨k + 1, by omega, by go_num, by rw [HT.out, HL0.out, ← HP.out], HBL⟩, by simp [intOf]; omega⟩
    · obtain rfl : k = n := by omega
      have hps : ps.take k = ps := List.take_of_length_le (by rw [HN.out]; exact Nat.le_refl _)
      have HP := Lib.hid (congrArg lngS hps)
      clear hps
      go_wp2
      go_ret
      exact ⟨ret_int HP.out, HBL.out⟩
/-- A pair without the first n bytes of its key. -/
def stp (n : Nat) (p : PV) : PV := ⟨cutA p.A n p.c 1, p.n - n, p.c - n, p.key.drop n, p.val⟩
theorem stp_kv {n : Nat} {key : List UInt8} {ps : List PV} (h : key.length = n) : ((subS key ps).map (stp n)).map kvP = stripK key ps := by
  subst h
  unfold stripK
  rw [List.map_map]
  rfl
theorem Kps.stp {w : World} {B n : Nat} {key : List UInt8} {ps : List PV} (h : Kps w B (subS key ps)) (hn : key.length = n) : Kps w B ((subS key ps).map (stp n)) := fun q hq => by
  obtain ⟨p, hp, rfl⟩ := List.mem_map.1 hq
  obtain ⟨h1, h2⟩ := h p hp
  have h3 := beg_len (List.mem_filter.1 hp).2
  have h4 : n ≤ p.n := by have := h1.1; omega
  have h5 := h1.cut_ n p.n h4 (Nat.le_refl _) h2
  rw [List.take_of_length_le (by have := h1.1; omega)] at h5
  exact ⟨h5, by show p.n - n ≤ p.c - n; omega⟩
theorem MineR.set0 {w : World} {base : Nat} {e : TypeId} {g n c : Nat} {css : List (List Value)} (h : MineR w base e 2 (.slice (some ⟨g, 0, none⟩) n c) n css) {j : Nat} {a b : Value} (hj : css[j]? = some [a, b]) (a' : Value) :
    MineR (w.setCell ⟨g, j * 2, none⟩ a') base e 2 (.slice (some ⟨g, 0, none⟩) n c) n (css.set j [a', b]) ∧ Kept (· = g) w (w.setCell ⟨g, j * 2, none⟩ a') := by
  have s1 := h.1.stored (j * 2) a'
  have hjl := (List.getElem?_eq_some_iff.1 hj).1
  refine ⟨⟨?_, by simp [h.2.1], fun d hd => ?_⟩, Kept.set_ w ⟨g, j * 2, none⟩ a' rfl⟩
  · rw [set_flat2 h.2.2 hjl]
    have e0 : (css.flatten.set (j * 2) a').set (j * 2 + 1) b = css.flatten.set (j * 2) a' := by
      rw [List.set_comm _ _ (by omega)]
      have h0 : css.flatten[j * 2 + 1]? = some b := by
        have := flatten_at h.2.2 hj (i := 1) (by omega)
        simpa using this
      obtain ⟨hl, he⟩ := List.getElem?_eq_some_iff.1 h0
      congr 1
      rw [← he]
      exact List.set_getElem_self hl
    rw [e0]
    exact s1.1
  · rcases List.mem_or_eq_of_mem_set hd with q | q
    · exact h.2.2 d q
    · rw [q]; rfl
/-- The first k of them without it. -/
def stpK (n k : Nat) (L : List PV) : List PV := (L.take k).map (stp n) ++ L.drop k
theorem stpK_at {n k : Nat} {L : List PV} {p : PV} (h : L[k]? = some p) : (stpK n k L)[k]? = some p ∧ (stpK n k L).set k (stp n p) = stpK n (k + 1) L := by
  obtain ⟨hl, he⟩ := List.getElem?_eq_some_iff.1 h
  have h1 : ((L.take k).map (stp n)).length = k := by rw [List.length_map, List.length_take]; omega
  unfold stpK
  constructor
  · rw [List.getElem?_append_right (by omega), h1, Nat.sub_self, List.getElem?_drop, Nat.add_zero, h]
  · rw [List.set_append_right _ _ (by omega), h1, Nat.sub_self, List.drop_eq_getElem_cons hl, List.set_cons_zero, List.take_add_one, h]
    simp
set_option maxRecDepth 100000 in
set_option maxHeartbeats 1000000 in
theorem rstrip_any (A A' : Option Addr) (n c n' c' B : Nat) (ps : List PV) (key : List UInt8) (w : World) (ha : Prs w B A n ps) (hk : Kps w B ps) (hB : B ≤ w.heap.size) (hn : n ≤ 1000000) (hb : Byt w B A' n' key) :
    Calls Tryz.prog 14 #[.slice A n c, .slice A' n' c'] w fun e w' => ∃ A2 n2 c2, e = .returned (.slice A2 n2 c2) ∧ n2 ≤ c2 ∧ Prs w' w'.heap.size A2 n2 ((subS key ps).map (stp n')) ∧ Kps w' w'.heap.size ((subS key ps).map (stp n')) ∧ Below w.heap.size w w' := by
  have H1 := Lib.hid (rsubm_any A A' n c n' c' B ps key w ha hB hn hb)
  have HK := Lib.hid (fun V (h : Below w.heap.size w V) => show Kps V V.heap.size (subS key ps) from fun p hp => (((hk.more hB).below h).more h.size) p (subS_sub p hp))
  have HKL := Lib.hid hb.1
  have HLN := Lib.hid (Nat.le_trans (subS_len key ps) (show ps.length ≤ 1000000 by have := ha.1; omega))
  have hn9 : n' ≤ 9223372036854775807 := by have := hb.2.1; unfold maxLen at this; omega
  obtain ⟨L, hL⟩ : ∃ L, subS key ps = L := ⟨_, rfl⟩
  have HLE := Lib.hid (show ∀ p ∈ L, n' ≤ p.key.length from fun p hp => by
    rw [← hL] at hp
    have := beg_len (List.mem_filter.1 hp).2
    have := hb.1
    omega)
  have HFIN := Lib.hid (show ∀ V, Below w.heap.size w V → Kps V V.heap.size (L.map (stp n')) from fun V h => by
    rw [← hL]
    exact (HK.out V h).stp HKL.out)
  rw [hL] at H1 HK HLN ⊢
  clear ha hk hb hL
  go_enter Tryz.func14, Tryz.ntmps14
  go_wp2_with fail
  (with_reducible refine H1.out.mono ?_)
  rintro e w1 ⟨A2, m, c2, rfl, hmc, r1, b1⟩
  have R1 := Lib.hid r1
  have B1 := Lib.hid b1
  have HM := Lib.hid (show L.length = m from by have := r1.2.1; rwa [List.length_map] at this)
  have HMC := Lib.hid hmc
  have hmb : m ≤ 1000000 := by have := HM.out; have := HLN.out; omega
  clear r1 b1 hmc H1
  go_wp2_with fail
  go_loopw [6] (fun i wr => ∃ k : Nat, k ≤ m ∧ i = .int .i64 (k : Int) ∧ Hid (MineR wr w.heap.size 53 2 (.slice A2 m c2) m ((stpK n' k L).map pvc)) ∧ Hid (Below w.heap.size w wr)) (fun i _ => m - (intOf i).toNat)
  case atStart => exact ⟨0, Nat.zero_le _, rfl, R1, B1⟩
  case round =>
    obtain ⟨k, hk, rfl, HR, HBL⟩ := hrel
    by_cases h1 : k < m
    · obtain ⟨g, rfl, hg⟩ := MineR.form HR.out (by omega)
      have hat : L[k]? = some (L[k]'(by have := HM.out; omega)) := List.getElem?_eq_getElem _
      obtain ⟨p, hp⟩ : ∃ p, L[k]'(by have := HM.out; omega) = p := ⟨_, rfl⟩
      rw [hp] at hat
      obtain ⟨s1, s2⟩ := stpK_at (n := n') hat
      have hcl : ((stpK n' k L).map pvc)[k]? = some [.slice p.A p.n p.c, .int .u64 p.val] := by rw [List.getElem?_map, s1]; rfl
      obtain ⟨t0, t1, t2, t3⟩ := MineR.there2 HR.out hcl
      obtain ⟨r1, r2⟩ := MineR.set0 HR.out hcl (.slice (cutA p.A n' p.c 1) (p.n - n') (p.c - n'))
      have e1 : ((stpK n' k L).map pvc).set k [.slice (cutA p.A n' p.c 1) (p.n - n') (p.c - n'), .int .u64 p.val] = (stpK n' (k + 1) L).map pvc := by
        rw [← s2, List.map_set]
        rfl
      rw [e1] at r1
      have RR := Lib.hid r1
      have RB := Lib.hid (HBL.out.trans (r2.below HBL.out.size (fun i e => e ▸ hg)))
      have hpn : n' ≤ p.n := by
        have h2 := HLE.out p (List.mem_of_getElem? hat)
        have h3 := (HK.out wr HBL.out p (List.mem_of_getElem? hat)).1.1
        omega
      have hsl := fun V => slc_from (P := Tryz.prog) Tryz.underlying23 size_u8 p.A p.n p.c n' hpn V
      clear hat hp s1 s2 hcl r1 r2 e1 hpn HR
      go_wp2
      exact ⟨⟨k + 1, by omega, by go_num, RR, RB⟩, by simp [intOf]; omega⟩
    · obtain rfl : k = m := by omega
      have HP := Lib.hid (show Prs wr wr.heap.size A2 k (L.map (stp n')) ∧ Kps wr wr.heap.size (L.map (stp n')) from by
        have h2 := HR.out
        have e : stpK n' k L = L.map (stp n') := by
          unfold stpK
          rw [List.take_of_length_le (by rw [HM.out]; exact Nat.le_refl _), List.drop_of_length_le (by rw [HM.out]; exact Nat.le_refl _), List.append_nil]
        rw [e] at h2
        exact ⟨PRow.prs h2 (HFIN.out wr HBL.out), HFIN.out wr HBL.out⟩)
      go_wp2
      go_ret
      exact ⟨A2, k, c2, rfl, HMC.out, HP.out.1, HP.out.2, HBL.out⟩
end Go.Proofs.YtajpipaooaemdaaGreatDoor

namespace Go.Proofs.YtajpipaooaemdaaGreatDoor
open Go.RowKit
attribute [local go_sem] Oper.semAt_some

/-- The pairs so far, with the prefix: their cells in a row, their bytes in blocks of their own. -/
def UnI (W : World) (base : Nat) (v : Value) (k : Nat) (qs : List PV) : Prop :=
  MineR W base 53 2 v k (qs.map pvc) ∧ ∀ q ∈ qs, Byt W W.heap.size q.A q.n q.key ∧ q.n ≤ q.c ∧ ∀ i, Pb q.A q.key i → v.ownBlock ≠ some i ∧ base ≤ i
/-- One more is put there. -/
theorem UnI.more {W W3 U3 U4 : World} {base k : Nat} {v v4 : Value} {qs : List PV} {q : PV} (h : UnI W base v k qs) (hbw : base ≤ W.heap.size) (b3 : Below W.heap.size W W3) (hq : Byt W3 W3.heap.size q.A q.n q.key) (hc : q.n ≤ q.c) (hp : ∀ i, Pb q.A q.key i → W.heap.size ≤ i)
    (b4 : Below W3.heap.size W3 U3) (m4 : MineR U4 base 53 2 v4 (k + 1) (qs.map pvc ++ [pvc q])) (g4 : U3.grownBy U4 v.ownBlock) (o4 : v4.ownBlock = v.ownBlock ∨ v4.ownBlock = some U3.heap.size) : UnI U4 base v4 (k + 1) (qs ++ [q]) := by
  have hlt := h.1.lt
  have b03 : Below W.heap.size W U3 := b3.trans (b4.mono b3.size)
  refine ⟨by rw [List.map_append]; exact m4, fun y hy => ?_⟩
  have key : ∀ (hy3 : Byt U3 U3.heap.size y.A y.n y.key) (hne : ∀ i, Pb y.A y.key i → v.ownBlock ≠ some i ∧ i < U3.heap.size), Byt U4 U4.heap.size y.A y.n y.key ∧ ∀ i, Pb y.A y.key i → v4.ownBlock ≠ some i := fun hy3 hne => by
    have hl := hy3.1
    refine ⟨?_, fun i hi e => ?_⟩
    · rw [← hl] at hy3 ⊢
      exact (hy3.keepPb fun p hpb => World.cell?_of_block (g4.block p.block (hne _ hpb).2 (fun e => (hne _ hpb).1 e.symm))).more g4.size
    · rcases o4 with z | z
      · exact (hne i hi).1 (z ▸ e)
      · rw [z] at e
        injection e with e
        have := (hne i hi).2
        omega
  rcases List.mem_append.1 hy with hy | hy
  · obtain ⟨a1, a2, a3⟩ := h.2 y hy
    have c1 : Byt U3 U3.heap.size y.A y.n y.key := (a1.below b03).more b03.size
    obtain ⟨k1, k2⟩ := key c1 (fun i hi => ⟨(a3 i hi).1, by
      have hl := a1.1
      rw [← hl] at a1
      exact Nat.lt_of_lt_of_le (a1.ltPb hi) b03.size⟩)
    exact ⟨k1, a2, fun i hi => ⟨k2 i hi, (a3 i hi).2⟩⟩
  · obtain rfl := List.mem_singleton.1 hy
    have c1 : Byt U3 U3.heap.size y.A y.n y.key := (hq.below b4).more b4.size
    obtain ⟨k1, k2⟩ := key c1 (fun i hi => ⟨fun e => by have := (hlt i e).2; have := hp i hi; omega, by
      have hl := hq.1
      rw [← hl] at hq
      exact Nat.lt_of_lt_of_le (hq.ltPb hi) b4.size⟩)
    exact ⟨k1, hc, fun i hi => ⟨k2 i hi, Nat.le_trans hbw (hp i hi)⟩⟩
/-- A row of pairs, all of it from block base on. -/
def UnJ (W : World) (base : Nat) (A : Option Addr) (n c : Nat) (qs : List PV) : Prop :=
  MineR W base 53 2 (.slice A n c) n (qs.map pvc) ∧ ∀ q ∈ qs, Byt W W.heap.size q.A q.n q.key ∧ q.n ≤ q.c ∧ ∀ i, Pb q.A q.key i → base ≤ i
theorem UnJ.kept {W W' : World} {base n c : Nat} {A : Option Addr} {qs : List PV} {N : Nat → Prop} (h : UnJ W base A n c qs) (hk : Kept N W W') (hN : ∀ i, N i → i < base) : UnJ W' base A n c qs := by
  refine ⟨h.1.keptK hk (fun i hi q => by have := (h.1.lt i hi).1; have := hN i q; omega), fun q hq => ?_⟩
  obtain ⟨h1, h2, h3⟩ := h.2 q hq
  have hl := h1.1
  refine ⟨?_, h2, h3⟩
  rw [← hl] at h1 ⊢
  exact (h1.keepPb fun p hp => hk.cell (h1.ltPb hp) (fun e => by have := h3 _ hp; have := hN _ e; omega)).more hk.size
theorem UnJ.kps {W : World} {base n c : Nat} {A : Option Addr} {qs : List PV} (h : UnJ W base A n c qs) : Kps W W.heap.size qs := fun q hq => ⟨(h.2 q hq).1, (h.2 q hq).2.1⟩
theorem UnJ.prs {W : World} {base n c : Nat} {A : Option Addr} {qs : List PV} (h : UnJ W base A n c qs) : Prs W W.heap.size A n qs := PRow.prs h.1 h.kps
set_option maxRecDepth 100000 in
set_option maxHeartbeats 2000000 in
theorem runder_any (A A' : Option Addr) (n c n' c' B : Nat) (ps : List PV) (key : List UInt8) (w : World) (ha : Prs w B A n ps) (hB : B ≤ w.heap.size) (hn : n ≤ 1000000) (hb : Byt w B A' n' key) (hn' : n' ≤ 60000) (hl : ∀ p ∈ ps, p.key.length ≤ 1000) :
    Calls Tryz.prog 19 #[.slice A n c, .slice A' n' c'] w fun e w' => ∃ A2 n2 c2 qs, e = .returned (.tuple #[.slice A2 n2 c2, .int .i64 0]) ∧ n2 ≤ c2 ∧ UnJ w' w.heap.size A2 n2 c2 qs ∧ qs.map kvP = (ps.map fun p => (key ++ p.key, p.val)) ∧ Below w.heap.size w w' := by
  have HA := Lib.hid (fun V (h : Below w.heap.size w V) => (ha.more hB).below h)
  have HB := Lib.hid (fun V (h : Below w.heap.size w V) => (hb.more hB).below h)
  have HN := Lib.hid ha.1
  have HL := Lib.hid hl
  have hlg : lngS ps ≤ 1000 := by
    obtain ⟨_, _, h3⟩ := lngS_all ps
    rcases h3 with h3 | ⟨p, hp, h3⟩
    · omega
    · have := hl p hp
      omega
  have hlg0 := (lngS_all ps).1
  have HLG := rlongest_any A n c B ps w ha hB hn
  obtain ⟨lg, hlg2⟩ : ∃ z, lngS ps = z := ⟨_, rfl⟩
  rw [hlg2] at hlg hlg0 HLG
  have HLG := Lib.hid HLG
  have ewl : IntKind.i64.wrap (65535 - lg) = 65535 - lg := by rw [IntKind.wrap_i64]; omega
  have hgt : decide ((65535 - lg : Int) < (n' : Int)) = false := decide_eq_false (by omega)
  have HH := Lib.hid (show ∀ W, Below w.heap.size w W → Hid (UnI W w.heap.size (.slice none 0 0) 0 []) from fun W _ => Lib.hid ⟨MineR.nil _ _ _ _, fun q hq => by cases hq⟩)
  clear ha hb hl hlg2
  go_enter Tryz.func19, Tryz.ntmps19
  go_upto_region 1 with fail
  go_cut [18] (fun v18 wc => v18 = .bool false ∧ Hid (Below w.heap.size w wc))
  case first =>
    by_cases h0 : n = 0
    · subst h0
      go_wp2_with fail
      go_meet
      exact ⟨rfl, Lib.hid (Below.refl _ _)⟩
    · have hpos : 0 < n := by omega
      go_wp2_with fail
      (with_reducible refine HLG.out.mono ?_)
      rintro e w1 ⟨rfl, b1⟩
      have B1 := Lib.hid b1
      clear b1
      go_wp2_with fail
      go_meet
      exact ⟨rfl, B1⟩
  case rest =>
    obtain ⟨rfl, HB0⟩ := hcut
    generalize wc = w0 at HB0 ⊢
    clear HLG hgt ewl
    go_wp2_with fail
    go_loopw [6, 7] (fun v i wr => ∃ (k : Nat) (qs : List PV), k ≤ n ∧ i = .int .i64 (k : Int) ∧ Hid (qs.map kvP = ((ps.take k).map fun p => (key ++ p.key, p.val))) ∧ Hid (UnI wr w.heap.size v k qs) ∧ Hid (Below w.heap.size w wr)) (fun _ i _ => n - (intOf i).toNat)
    case atStart => exact ⟨0, [], Nat.zero_le _, rfl, Lib.hid rfl, HH.out w0 HB0.out, HB0⟩
    case round =>
      obtain ⟨k, qs, hk, rfl, HQS, HR, HBL⟩ := hrel
      obtain ⟨A1, cp1, rfl, hcp⟩ := MineR.slice HR.out.1
      by_cases h1 : k < n
      · obtain ⟨ad, p, rfl, hlt, e1, c1, c2, b1⟩ := (HA.out _ HBL.out).at_ h1
        have hpl := HL.out p (List.mem_of_getElem? e1)
        have hpn : p.n ≤ 1000 := by have := b1.1; omega
        have HT := Lib.hid (show ((ps.take (k + 1)).map fun p => (key ++ p.key, p.val)) = ((ps.take k).map fun p => (key ++ p.key, p.val)) ++ [(key ++ p.key, p.val)] from by rw [List.take_add_one, e1, List.map_append]; rfl)
        rw [← add_of_add] at c2
        have KP := Lib.hid (fun (V : World) (hV : Below wr.heap.size wr V) => show V.cell? (ad.add (k * 2)) = some (.slice p.A p.n p.c) ∧ V.cell? ⟨(ad.add (k * 2)).block, (ad.add (k * 2)).off + 1, none⟩ = some (.int .u64 p.val) from by
          have hb : (ad.add (k * 2)).block < wr.heap.size := by rw [block_of_add]; exact Nat.lt_of_lt_of_le hlt HBL.out.size
          exact ⟨(hV.cell (p := ad.add (k * 2)) hb).trans c1, (hV.cell (p := ⟨(ad.add (k * 2)).block, (ad.add (k * 2)).off + 1, none⟩) hb).trans c2⟩)
        have SK := Lib.hid (fun (V : World) (hV : Below w.heap.size w V) => show V.cell? (ad.add (k * 2)) = some (.slice p.A p.n p.c) ∧ V.cell? ⟨(ad.add (k * 2)).block, (ad.add (k * 2)).off + 1, none⟩ = some (.int .u64 p.val) from by
          obtain ⟨ad', p', e', _, e1', c1', c2', _⟩ := (HA.out V hV).at_ h1
          injection e' with e'
          subst e'
          rw [e1] at e1'
          injection e1' with e1'
          subst e1'
          rw [← add_of_add] at c2'
          exact ⟨c1', c2'⟩)
        have YK := Lib.hid (fun (V : World) (hV : Below wr.heap.size wr V) => show Byt V w.heap.size A' n' key ∧ Byt V w.heap.size p.A p.n p.key from ⟨HB.out V (HBL.out.trans (hV.mono HBL.out.size)), b1.below (hV.mono HBL.out.size)⟩)
        have MR := Lib.hid (fun (V : World) (hV : Below wr.heap.size wr V) => HR.out.1.below hV (fun i q => (HR.out.1.lt i q).2))
        clear c1 c2 b1 e1 hpl
        go_wp2_with fail
        refine wp_region_held_drew (S := (fun w' => w'.cell? (ad.add (k * 2)) = some (.slice p.A p.n p.c) ∧ w'.cell? ⟨(ad.add (k * 2)).block, (ad.add (k * 2)).off + 1, none⟩ = some (.int .u64 p.val))) (by kernel_rfl) (KP.out _ ((Below.refl wr.heap.size wr).drew)) (fun hHeld => ?_)
        refine wpAnyH_take (i := 0) (oi := { dst := some 25, op := Op.move (Operand.tmp 6), type := 22, pos := "ref.go:45", after := #[], guard := none }) (v := ?v1) rfl (by kernel_rfl) (by kernel_rfl) (by kernel_rfl) (fun _ _ _ h => h) (Or.inl ⟨by rfl, ?hy1⟩) hHeld ?rest1
        case hy1 => (intro w' hSw; (try dsimp only at hSw); go_simp; (try with_reducible rfl))
        try simp only [Act.put, List.setIfInBounds_toArray, List.set_cons_zero, List.set_cons_succ]
        refine wpAnyH_take (i := 1) (oi := { dst := some 26, op := Op.move (Operand.tmp 1), type := 23, pos := "ref.go:45", after := #[], guard := none }) (v := ?v2) rfl (by kernel_rfl) (by kernel_rfl) (by kernel_rfl) (fun _ _ _ h => h) (Or.inl ⟨by rfl, ?hy2⟩) hHeld ?rest2
        case hy2 => (intro w' hSw; (try dsimp only at hSw); go_simp; (try with_reducible rfl))
        try simp only [Act.put, List.setIfInBounds_toArray, List.set_cons_zero, List.set_cons_succ]
        refine wpAnyH_take (i := 3) (oi := { dst := some 28, op := Op.move (Operand.tmp 0), type := 22, pos := "ref.go:45", after := #[], guard := none }) (v := ?v3) rfl (by kernel_rfl) (by kernel_rfl) (by kernel_rfl) (fun _ _ _ h => h) (Or.inl ⟨by rfl, ?hy3⟩) hHeld ?rest3
        case hy3 => (intro w' hSw; (try dsimp only at hSw); go_simp; (try with_reducible rfl))
        try simp only [Act.put, List.setIfInBounds_toArray, List.set_cons_zero, List.set_cons_succ]
        refine wpAnyH_take (i := 4) (oi := { dst := some 29, op := Op.move (Operand.tmp 7), type := 3, pos := "ref.go:45", after := #[], guard := none }) (v := ?v4) rfl (by kernel_rfl) (by kernel_rfl) (by kernel_rfl) (fun _ _ _ h => h) (Or.inl ⟨by rfl, ?hy4⟩) hHeld ?rest4
        case hy4 => (intro w' hSw; (try dsimp only at hSw); go_simp; (try with_reducible rfl))
        try simp only [Act.put, List.setIfInBounds_toArray, List.set_cons_zero, List.set_cons_succ]
        refine wpAnyH_take (i := 5) (oi := { dst := some 30, op := Op.indexAddr 22 (Operand.tmp 28) (Operand.tmp 29), type := 0, pos := "ref.go:45", after := #[{ on := 3, ground := Ground.data }, { on := 4, ground := Ground.data }], guard := none }) (v := ?v5) rfl (by kernel_rfl) (by kernel_rfl) (by kernel_rfl) (fun _ _ _ h => h) (Or.inl ⟨by rfl, ?hy5⟩) hHeld ?rest5
        case hy5 => (intro w' hSw; (try dsimp only at hSw); go_simp; (try with_reducible rfl))
        try simp only [Act.put, List.setIfInBounds_toArray, List.set_cons_zero, List.set_cons_succ]
        refine wpAnyH_take (i := 6) (oi := { dst := some 31, op := Op.fieldAddr 53 (Operand.tmp 30) 0, type := 0, pos := "ref.go:45", after := #[{ on := 5, ground := Ground.data }], guard := none }) (v := ?v6) rfl (by kernel_rfl) (by kernel_rfl) (by kernel_rfl) (fun _ _ _ h => h) (Or.inl ⟨by rfl, ?hy6⟩) hHeld ?rest6
        case hy6 => (intro w' hSw; (try dsimp only at hSw); go_simp; (try with_reducible rfl))
        try simp only [Act.put, List.setIfInBounds_toArray, List.set_cons_zero, List.set_cons_succ]
        refine wpAnyH_take (i := 7) (oi := { dst := some 32, op := Op.load 23 (Operand.tmp 31), type := 23, pos := "ref.go:45", after := #[{ on := 6, ground := Ground.data }], guard := none }) (v := ?v7) rfl (by kernel_rfl) (by kernel_rfl) (by kernel_rfl) (fun _ _ _ h => h) (Or.inl ⟨by rfl, ?hy7⟩) hHeld ?rest7
        case hy7 => (intro w' hSw; (try dsimp only at hSw); go_simp; (try with_reducible rfl))
        try simp only [Act.put, List.setIfInBounds_toArray, List.set_cons_zero, List.set_cons_succ]
        refine wpAnyH_take (i := 9) (oi := { dst := some 34, op := Op.move (Operand.tmp 0), type := 22, pos := "ref.go:45", after := #[], guard := none }) (v := ?v8) rfl (by kernel_rfl) (by kernel_rfl) (by kernel_rfl) (fun _ _ _ h => h) (Or.inl ⟨by rfl, ?hy8⟩) hHeld ?rest8
        case hy8 => (intro w' hSw; (try dsimp only at hSw); go_simp; (try with_reducible rfl))
        try simp only [Act.put, List.setIfInBounds_toArray, List.set_cons_zero, List.set_cons_succ]
        refine wpAnyH_take (i := 10) (oi := { dst := some 35, op := Op.move (Operand.tmp 7), type := 3, pos := "ref.go:45", after := #[], guard := none }) (v := ?v9) rfl (by kernel_rfl) (by kernel_rfl) (by kernel_rfl) (fun _ _ _ h => h) (Or.inl ⟨by rfl, ?hy9⟩) hHeld ?rest9
        case hy9 => (intro w' hSw; (try dsimp only at hSw); go_simp; (try with_reducible rfl))
        try simp only [Act.put, List.setIfInBounds_toArray, List.set_cons_zero, List.set_cons_succ]
        refine wpAnyH_take (i := 11) (oi := { dst := some 36, op := Op.indexAddr 22 (Operand.tmp 34) (Operand.tmp 35), type := 0, pos := "ref.go:45", after := #[{ on := 9, ground := Ground.data }, { on := 10, ground := Ground.data }], guard := none }) (v := ?v10) rfl (by kernel_rfl) (by kernel_rfl) (by kernel_rfl) (fun _ _ _ h => h) (Or.inl ⟨by rfl, ?hy10⟩) hHeld ?rest10
        case hy10 => (intro w' hSw; (try dsimp only at hSw); go_simp; (try with_reducible rfl))
        try simp only [Act.put, List.setIfInBounds_toArray, List.set_cons_zero, List.set_cons_succ]
        refine wpAnyH_take (i := 12) (oi := { dst := some 37, op := Op.fieldAddr 53 (Operand.tmp 36) 1, type := 0, pos := "ref.go:45", after := #[{ on := 11, ground := Ground.data }], guard := none }) (v := ?v11) rfl (by kernel_rfl) (by kernel_rfl) (by kernel_rfl) (fun _ _ _ h => h) (Or.inl ⟨by rfl, ?hy11⟩) hHeld ?rest11
        case hy11 => (intro w' hSw; (try dsimp only at hSw); go_simp; (try with_reducible rfl))
        try simp only [Act.put, List.setIfInBounds_toArray, List.set_cons_zero, List.set_cons_succ]
        refine wpAnyH_take (i := 13) (oi := { dst := some 38, op := Op.load 24 (Operand.tmp 37), type := 24, pos := "ref.go:45", after := #[{ on := 12, ground := Ground.data }], guard := none }) (v := ?v12) rfl (by kernel_rfl) (by kernel_rfl) (by kernel_rfl) (fun _ _ _ h => h) (Or.inl ⟨by rfl, ?hy12⟩) hHeld ?rest12
        case hy12 => (intro w' hSw; (try dsimp only at hSw); go_simp; (try with_reducible rfl))
        try simp only [Act.put, List.setIfInBounds_toArray, List.set_cons_zero, List.set_cons_succ]
        refine wpAnyH_ready (rs := [2]) (by kernel_rfl) (by simp) (AllReadyH.cons (o := { dst := some 27, op := Op.call { callee := Callee.builtin Builtin.append, args := #[Operand.const (Value.slice none 0 0), Operand.tmp 26], argTypes := #[23, 23] }, type := 23, pos := "ref.go:45", after := #[{ on := 1, ground := Ground.data }], guard := none }) rfl (fun K hK => ?_) AllReadyH.nil)
        rw [if_pos (by rfl)]
        refine wp_append_byt _ (.const (.slice none 0 0)) (.tmp 26) _ (by rfl) Tryz.underlying23 info_u8 wr.heap.size (.slice none 0 0) 0 [] (by rfl) (Mine.nil _ _ _) w.heap.size A' n' c' key (by rfl) (YK.out _ ((Below.refl wr.heap.size wr).drew)).1 (by omega) (by simp) ?_
        intro v2 w2 m2 g2 _
        rw [Nat.zero_add, List.nil_append] at m2
        obtain ⟨A2, c2, rfl⟩ := Mine.slice m2
        have B2 := Lib.hid (show Below wr.heap.size wr w2 from Below.grown ((Below.refl wr.heap.size wr).drew) g2 (by simp) (fun i q => by simp [Value.ownBlock] at q))
        have M2 := Lib.hid m2
        clear m2 g2
        refine hK.out _ _ (KP.out _ B2.out) (fun hHeld' => ?_)
        clear hK K hHeld
        have hHeld := hHeld'
        clear hHeld'
        try simp only [Act.put, List.setIfInBounds_toArray, List.set_cons_zero, List.set_cons_succ]
        refine wpAnyH_ready (rs := [8]) (by kernel_rfl) (by simp) (AllReadyH.cons (o := { dst := some 33, op := Op.call { callee := Callee.builtin Builtin.append, args := #[Operand.tmp 27, Operand.tmp 32], argTypes := #[23, 23] }, type := 23, pos := "ref.go:45", after := #[{ on := 2, ground := Ground.data }, { on := 7, ground := Ground.data }, { on := 2, ground := Ground.chain }], guard := none }) rfl (fun K hK => ?_) AllReadyH.nil)
        rw [if_pos (by rfl)]
        refine wp_append_byt w2 (.tmp 27) (.tmp 32) _ (by rfl) Tryz.underlying23 info_u8 wr.heap.size (.slice A2 n' c2) n' key (by rfl) M2.out w.heap.size p.A p.n p.c p.key (by rfl) (YK.out _ B2.out).2 (by omega) B2.out.size ?_
        intro v3 w3 m3 g3 _
        obtain ⟨A3, c3, rfl⟩ := Mine.slice m3
        have B3 := Lib.hid (show Below wr.heap.size wr w3 from B2.out.grown g3 B2.out.size (fun i q => (M2.out.lt i q).1))
        have M3 := Lib.hid m3
        clear m3 g3
        refine hK.out _ _ (KP.out _ B3.out) (fun hHeld' => ?_)
        clear hK K hHeld
        have hHeld := hHeld'
        clear hHeld'
        try simp only [Act.put, List.setIfInBounds_toArray, List.set_cons_zero, List.set_cons_succ]
        refine wpAnyH_take (i := 14) (oi := { dst := some 39, op := Op.build 53 #[(0, Operand.tmp 33), (1, Operand.tmp 38)], type := 53, pos := "ref.go:45", after := #[{ on := 8, ground := Ground.data }, { on := 13, ground := Ground.data }], guard := none }) (v := ?v13) rfl (by kernel_rfl) (by kernel_rfl) (by kernel_rfl) (fun _ _ _ h => h) (Or.inl ⟨by rfl, ?hy13⟩) hHeld ?rest13
        case hy13 => (intro w' hSw; (try dsimp only at hSw); go_simp; (try with_reducible rfl))
        try simp only [Act.put, List.setIfInBounds_toArray, List.set_cons_zero, List.set_cons_succ]
        refine wpAnyH_ready (rs := [15]) (by kernel_rfl) (by simp) (AllReadyH.cons (o := { dst := some 40, op := Op.buildSlice 22 1 #[(0, Operand.tmp 39)], type := 22, pos := "ref.go:45", after := #[{ on := 14, ground := Ground.data }], guard := none }) rfl (fun K hK => ?_) AllReadyH.nil)
        go_simp
        obtain ⟨U3, hU3⟩ : ∃ V, w3.alloc (.cells #[.slice A3 (n' + p.n) c3, .int .u64 p.val] 53) = V := ⟨_, rfl⟩
        have C3 := Lib.hid (show Below w3.heap.size w3 U3 by rw [← hU3]; exact (Below.refl w3.heap.size w3).alloc (Nat.le_refl _) _)
        have LB := Lib.hid (show Blk U3 w3.heap.size #[.slice A3 (n' + p.n) c3, .int .u64 p.val] by rw [← hU3]; exact Blk.new w3 _ _)
        rw [hU3]
        clear hU3
        refine hK.out _ _ (KP.out _ (B3.out.trans (C3.out.mono B3.out.size))) (fun hHeld' => ?_)
        clear hK K hHeld
        have hHeld := hHeld'
        clear hHeld'
        try simp only [Act.put, List.setIfInBounds_toArray, List.set_cons_zero, List.set_cons_succ]
        refine wpAnyH_ready (rs := [16]) (by kernel_rfl) (by simp) (AllReadyH.cons (o := { dst := some 41, op := Op.call { callee := Callee.builtin Builtin.append, args := #[Operand.tmp 25, Operand.tmp 40], argTypes := #[22, 22] }, type := 22, pos := "ref.go:45", after := #[{ on := 0, ground := Ground.data }, { on := 15, ground := Ground.data }, { on := 8, ground := Ground.chain }], guard := none }) rfl (fun K hK => ?_) AllReadyH.nil)
        rw [if_pos (by rfl)]
        refine wp_append_rws _ (.tmp 25) (.tmp 40) _ (by rfl) Tryz.underlying22 info_kpair (by rfl) (by decide) w.heap.size (.slice A1 k cp1) k (qs.map pvc) (by rfl) (MR.out _ (B3.out.trans (C3.out.mono B3.out.size))) ⟨w3.heap.size, 0, none⟩ 1 [.slice A3 (n' + p.n) c3, .int .u64 p.val] (by rfl) (by rfl) (pair_cells (p := ⟨A3, n' + p.n, c3, key ++ p.key, p.val⟩) LB.out) (pair_one ⟨A3, n' + p.n, c3, key ++ p.key, p.val⟩) (by omega) (by unfold maxLen; omega) (Nat.le_trans HBL.out.size (Nat.le_trans B3.out.size C3.out.size)) ?_
        intro v8 U4 m4 g4 o4
        obtain ⟨F8, c8, rfl, hc8⟩ := m4.slice
        have UI := Lib.hid (show UnI U4 w.heap.size (.slice F8 (k + 1) c8) (k + 1) (qs ++ [⟨A3, n' + p.n, c3, key ++ p.key, p.val⟩]) from UnI.more (q := ⟨A3, n' + p.n, c3, key ++ p.key, p.val⟩) HR.out HBL.out.size B3.out (M3.out.byt) M3.out.room (fun i hi => by
          obtain ⟨_, ad9, e9, rfl⟩ := hi
          exact (M3.out.lt ad9.block (by
            rw [show A3 = some ad9 from e9]
            rfl)).1) C3.out m4 g4 o4)
        have B34 : Below wr.heap.size wr U3 := B3.out.trans (C3.out.mono B3.out.size)
        have B4 := Lib.hid (show Below w.heap.size w U4 from (HBL.out.trans (B34.mono HBL.out.size)).grown g4 (Nat.le_trans HBL.out.size B34.size) (fun i q => (HR.out.1.lt i q).1))
        have S4 := Lib.hid (show U4.cell? (ad.add (k * 2)) = some (.slice p.A p.n p.c) ∧ U4.cell? ⟨(ad.add (k * 2)).block, (ad.add (k * 2)).off + 1, none⟩ = some (.int .u64 p.val) from SK.out U4 B4.out)
        clear m4 g4 o4 hc8 B34
        refine hK.out _ _ S4.out (fun hHeld' => ?_)
        clear hK K hHeld
        have hHeld := hHeld'
        clear hHeld'
        try simp only [Act.put, List.setIfInBounds_toArray, List.set_cons_zero, List.set_cons_succ]
        refine wpAnyH_take (i := 17) (oi := { dst := some 6, op := Op.assign (Operand.tmp 41), type := 22, pos := "ref.go:45", after := #[{ on := 16, ground := Ground.data }, { on := 16, ground := Ground.chain }, { on := 0, ground := Ground.phase }, { on := 1, ground := Ground.phase }, { on := 2, ground := Ground.phase }, { on := 3, ground := Ground.phase }, { on := 4, ground := Ground.phase }, { on := 5, ground := Ground.phase }, { on := 6, ground := Ground.phase }, { on := 7, ground := Ground.phase }, { on := 8, ground := Ground.phase }, { on := 9, ground := Ground.phase }, { on := 10, ground := Ground.phase }, { on := 11, ground := Ground.phase }, { on := 12, ground := Ground.phase }, { on := 13, ground := Ground.phase }, { on := 14, ground := Ground.phase }, { on := 15, ground := Ground.phase }, { on := 16, ground := Ground.phase }], guard := none }) (v := ?v14) rfl (by kernel_rfl) (by kernel_rfl) (by kernel_rfl) (fun _ _ _ h => h) (Or.inl ⟨by rfl, ?hy14⟩) hHeld ?rest14
        case hy14 => (intro w' hSw; (try dsimp only at hSw); go_simp; (try with_reducible rfl))
        try simp only [Act.put, List.setIfInBounds_toArray, List.set_cons_zero, List.set_cons_succ]
        refine wpAnyH_done (by kernel_rfl) ?_ _
        have ht : (qs ++ [(⟨A3, n' + p.n, c3, key ++ p.key, p.val⟩ : PV)]).map kvP = ((ps.take (k + 1)).map fun p => (key ++ p.key, p.val)) := by
          rw [HT.out, List.map_append, HQS.out]
          rfl
        go_wp2_with fail
        exact ⟨⟨k + 1, _, by omega, by go_num, Lib.hid ht, Lib.hid UI.out, B4⟩, by simp [intOf]; omega⟩
      · obtain rfl : k = n := by omega
        have hps : ps.take k = ps := List.take_of_length_le (by rw [HN.out]; exact Nat.le_refl _)
        have hq := HQS.out
        rw [hps] at hq
        have HQ := Lib.hid hq
        have HK := Lib.hid (show UnJ wr w.heap.size A1 k cp1 qs from ⟨HR.out.1, fun q hq => ⟨(HR.out.2 q hq).1, (HR.out.2 q hq).2.1, fun i hi => ((HR.out.2 q hq).2.2 i hi).2⟩⟩)
        clear hps hq
        go_wp2
        go_ret2
        exact ⟨A1, k, cp1, qs, rfl, hcp, HK.out, HQ.out, HBL.out⟩
end Go.Proofs.YtajpipaooaemdaaGreatDoor
