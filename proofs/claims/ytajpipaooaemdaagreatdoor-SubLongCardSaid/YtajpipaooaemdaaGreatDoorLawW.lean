/-
  What the laws over pairs share: far, tree, as; append of pairs.
-/
import Derived.Test.YtajpipaooaemdaaGreatDoorPutP
import Derived.Test.YtajpipaooaemdaaGreatDoorPutG
import Derived.Test.YtajpipaooaemdaaGreatDoorCnLaw
import Derived.Test.YtajpipaooaemdaaGreatDoorShape
import Derived.Test.YtajpipaooaemdaaGreatDoorSort
import Derived.Test.YtajpipaooaemdaaGreatDoorBuild
import Derived.Test.YtajpipaooaemdaaGreatDoorDtTop
namespace Go.Proofs.YtajpipaooaemdaaGreatDoor
open Go.RowKit Go.Shelf
attribute [local go_sem] Oper.semAt_some

set_option maxRecDepth 100000 in
set_option maxHeartbeats 1000000 in
theorem pfar_any (A : Option Addr) (n c B many : Nat) (ps : List PV) (w : World) (ha : Prs w B A n ps) (hB : B ≤ w.heap.size) (hm : many ≤ 1000) :
    Calls Tryz.prog 6 #[.slice A n c, .int .i64 (many : Int)] w fun e w' => e = .returned (.bool (farP ps many)) ∧ Below w.heap.size w w' := by
  have HA := Lib.hid (fun V (h : Below w.heap.size w V) => (ha.more hB).below h)
  have HL := Lib.hid ha.1
  have hn : n ≤ maxLen := ha.2.1
  have hn' : n ≤ 9223372036854775807 := by unfold maxLen at hn; omega
  clear ha hn
  go_enter Tryz.func6, Tryz.ntmps6
  by_cases hmn : many < n
  · have HF := Lib.hid (show farP ps many = true from by unfold farP; rw [HL.out, decide_eq_true hmn]; rfl)
    go_wp2
    go_ret
    exact ⟨ret_bool HF.out.symm, Below.refl _ _⟩
  · go_wp2
    go_loopw [13] (fun i wr => ∃ k : Nat, k ≤ n ∧ i = .int .i64 k ∧ Hid (∀ j p, j < k → ps[j]? = some p → p.key.length ≤ 300) ∧ Hid (Below w.heap.size w wr)) (fun i _ => n - (intOf i).toNat)
    case atStart => exact ⟨0, Nat.zero_le _, rfl, Lib.hid (fun j p hj => by omega), Lib.hid (Below.refl _ _)⟩
    case round =>
      obtain ⟨k, hk, rfl, HS, HB⟩ := hrel
      by_cases h1 : k < n
      · obtain ⟨ad, p, rfl, hlt, e1, c1, c2, b1⟩ := (HA.out _ HB.out).at_ h1
        have hpn : p.n = p.key.length := b1.1.symm
        have hpm : p.n ≤ 9223372036854775807 := by have := b1.2.1; unfold maxLen at this; omega
        have HE1 := Lib.hid e1
        have HPN := Lib.hid hpn
        rw [← add_of_add] at c2
        have c2' : wr.cell? ⟨(ad.add (k * 2)).block, (ad.add (k * 2)).off + 1, none⟩ = some (.int .u64 p.val) := c2
        have HB2 := Lib.hid (HB.out.alloc HB.out.size (.cells #[.slice p.A p.n p.c, .int .u64 p.val] 53))
        clear b1 e1 hpn
        by_cases hb : 300 < p.n
        · have HF := Lib.hid (show farP ps many = true from by
            unfold farP
            rw [Bool.or_eq_true, List.any_eq_true]
            exact .inr ⟨p, List.mem_of_getElem? HE1.out, decide_eq_true (by have := HPN.out; omega)⟩)
          go_wp2
          go_ret
          exact ⟨ret_bool HF.out.symm, HB2.out⟩
        · have HS1 := Lib.hid (show ∀ j p', j < k + 1 → ps[j]? = some p' → p'.key.length ≤ 300 from fun j p' hj hp' => by
            rcases Nat.lt_or_ge j k with h | h
            · exact HS.out j p' h hp'
            · have : j = k := by omega
              subst this
              rw [HE1.out] at hp'
              injection hp' with hp'
              subst hp'
              have := HPN.out
              omega)
          go_wp2
          exact ⟨⟨k + 1, by omega, by go_num, HS1, HB2⟩, by simp [intOf]; omega⟩
      · have HF := Lib.hid (show farP ps many = false from by
          unfold farP
          rw [HL.out, decide_eq_false hmn, Bool.false_or, Bool.eq_false_iff]
          intro h
          obtain ⟨p, hp, h2⟩ := List.any_eq_true.1 h
          obtain ⟨j, hj⟩ := List.mem_iff_getElem?.1 hp
          have h3 := HS.out j p (by have := (List.getElem?_eq_some_iff.1 hj).1; have := HL.out; omega) hj
          simp only [decide_eq_true_eq] at h2
          omega)
        go_wp2
        go_ret
        exact ⟨ret_bool HF.out.symm, HB.out⟩

theorem farP_no {ps : List PV} {many : Nat} (h : farP ps many = false) : ps.length ≤ many ∧ ∀ p ∈ ps, p.key.length ≤ 300 := by
  unfold farP at h
  rw [Bool.or_eq_false_iff] at h
  obtain ⟨h1, h2⟩ := h
  refine ⟨by have := of_decide_eq_false h1; omega, fun p hp => ?_⟩
  have := List.any_eq_false.1 h2 p hp
  simp at this
  omega
theorem rsn_chk2 {ps : List PV} (h : Rsn ps) (hk : ∀ p ∈ ps, p.key.length ≤ 600) : chkV (ps.map PV.key) = 0 := by
  unfold chkV
  rw [if_neg, if_pos (rsn_keys h)]
  intro hb
  unfold bigB at hb
  obtain ⟨k, hk1, hk2⟩ := List.any_eq_true.1 hb
  obtain ⟨p, hp, rfl⟩ := List.mem_map.1 hk1
  have := hk p hp
  simp at hk2
  omega
/-- What layer 15's tree leaves: all of it is the owner's. -/
def TrPostO (o : Int) (w : World) (t : Option (Nn × Fo)) (e : Ending) (w' : World) : Prop :=
  ∃ p, e = .returned (.pointer p) ∧ OTow w' o (fun _ => False) t p (fun i => w.heap.size ≤ i) ∧ Below w.heap.size w w'
theorem OTow.mono {w : World} {o : Int} {S D D' : Nat → Prop} {t : Option (Nn × Fo)} {p : Option Addr} (h : OTow w o S t p D) (hd : ∀ i, D i → D' i) : OTow w o S t p D' := by
  cases t with
  | none => exact h
  | some T =>
    obtain ⟨g, e, h1⟩ := h
    exact ⟨g, e, h1.mono hd⟩
set_option maxRecDepth 100000 in
set_option maxHeartbeats 1000000 in
theorem ptree_any {o : Int} (ho : 1 ≤ o) (A : Option Addr) (n c B : Nat) (ps : List PV) (w : World) (ha : Prs w B A n ps) (hk : Kps w B ps) (hB : B ≤ w.heap.size) (hn : n ≤ 300) (hr : Rsn ps) (hl : ∀ p ∈ ps, p.key.length ≤ 300) :
    Calls Tryz.prog 9 #[.slice A n c, .int .u64 o] w (TrPostO o w (bTr o 301 (rel 0 ps))) := by
  have htn : (otn (bTr o 301 (rel 0 ps)) : Int) ≤ 9223372036854775807 := by
    have h1 := bTr_tn o 301 (rel 0 ps)
    rw [rel_len] at h1
    have h2 := ha.1
    have h3 : 301 * ps.length ≤ 301 * 300 := Nat.mul_le_mul_left _ (by omega)
    omega
  have HCB := Lib.hid (fun (V : World) (A1 : Option Addr) (cp : Nat) (hcp : n ≤ cp) (hV : Below w.heap.size w V) (hp : Prs V V.heap.size A1 n ps) =>
    have hkv := (hk.more hB).below hV
    show Calls Tryz.prog 24 #[.pointer none, .int .u64 o, .slice A1 n cp] V (CoPost o V none [] 0 (bTr o 301 (rel 0 ps))) from
    (cbuildo_any ho 301 n cp V.heap.size A1 ps none [] 0 V
      ⟨fun W hW => hp.below (hW.below (Nat.le_refl _) (fun i q => by cases q)), fun p hp i hi => by simp, fun p hp => (hkv p hp).2⟩ (Nat.le_refl _) (by omega) hcp (fun p hp => by have := hl p hp; omega) (fun g q => by cases q) (by rw [Int.zero_add]; exact htn)).mono fun e w' h => h.1 (rsn_chk2 hr (fun p hp => by have := hl p hp; omega)))
  have HA := Lib.hid (fun V (h : Below w.heap.size w V) => (ha.more hB).below h)
  have HK := Lib.hid (fun V (h : Below w.heap.size w V) => ((hk.more hB).below h).more h.size)
  have HN := Lib.hid ha.1
  clear ha hk hr hl htn
  go_enter Tryz.func9, Tryz.ntmps9
  go_wp2
  go_loopw [5, 12] (fun v i wr => ∃ k : Nat, k ≤ n ∧ i = .int .i64 k ∧ Hid (PRow wr w.heap.size 58 v k (ps.take k)) ∧ Hid (Below w.heap.size w wr)) (fun _ i _ => n - (intOf i).toNat)
  case atStart => exact ⟨0, Nat.zero_le _, rfl, Lib.hid (MineR.nil _ _ _ _), Lib.hid (Below.refl _ _)⟩
  case round =>
    obtain ⟨k, hk, rfl, HR, HB⟩ := hrel
    by_cases h1 : k < n
    · obtain ⟨ad, p, rfl, hlt, e1, c1, c2, _⟩ := (HA.out _ HB.out).at_ h1
      have HV := Lib.hid e1
      have hsz := HB.out.size
      rw [← add_of_add] at c2
      have c2' : wr.cell? ⟨(ad.add (k * 2)).block, (ad.add (k * 2)).off + 1, none⟩ = some (.int .u64 p.val) := c2
      obtain ⟨A1, cp1, rfl, _⟩ := MineR.slice HR.out
      have HM := Lib.hid (fun (o1 o2 : Obj) => (MineR.alloc HR.out o1).alloc o2)
      have HS := Lib.hid (fun (o1 o2 : Obj) => show Below w.heap.size w ((wr.alloc o1).alloc o2) from (HB.out.alloc HB.out.size _).alloc (by have := HB.out.size; simp; omega) _)
      have HY := Lib.hid (show ∀ (j : Nat) (u : Value), (pvc p)[j]? = some u → ((wr.alloc (.cells #[.slice p.A p.n p.c, .int .u64 p.val] 53)).alloc (.cells #[.slice p.A p.n p.c, .int .u64 p.val] 58)).cell? ((⟨wr.heap.size + 1, 0, none⟩ : Addr).add j) = some u from by
        have := Blk.new (wr.alloc (.cells #[.slice p.A p.n p.c, .int .u64 p.val] 53)) 58 #[.slice p.A p.n p.c, .int .u64 p.val]
        rw [World.size_alloc] at this
        exact pair_cells this)
      clear c2 e1
      go_wp2_with (at_builtin
                   refine wpList_append_rws ((wr.alloc (.cells #[.slice p.A p.n p.c, .int .u64 p.val] 53)).alloc (.cells #[.slice p.A p.n p.c, .int .u64 p.val] 58)) rfl (.tmp 16) (.tmp 18) _ rfl Tryz.underlying57 info_pair (by rfl) (by decide) w.heap.size (.slice A1 k cp1) k ((ps.take k).map pvc) rfl (HM.out _ _) ⟨wr.heap.size + 1, 0, none⟩ 1 (pvc p) rfl rfl HY.out (pair_one p) (by omega) (by unfold maxLen; omega) (by simp; omega) ?_
                   intro v2 w2 hm2 hg2 _
                   have M2 := Lib.hid hm2
                   have C2 := Lib.hid (below_grown (HS.out _ _) (HM.out _ _) hg2 (Nat.le_refl _) (by simp; omega))
                   clear hm2 hg2)
      go_wp2
      exact ⟨⟨k + 1, by omega, by go_num, Lib.hid (show MineR _ _ _ 2 _ _ ((ps.take (k + 1)).map pvc) from by rw [← take_pv HV.out]; exact M2.out), C2⟩, by simp [intOf]; omega⟩
    · obtain rfl : k = n := by omega
      obtain ⟨A1, cp1, rfl, hc1⟩ := MineR.slice HR.out
      have hps : ps.take k = ps := List.take_of_length_le (by rw [HN.out]; exact Nat.le_refl _)
      have HP := Lib.hid (show Prs wr wr.heap.size A1 k ps from by
        have h2 := HR.out
        rw [hps] at h2
        exact PRow.prs h2 (HK.out _ HB.out))
      have HC := Lib.hid (HCB.out wr A1 cp1 hc1 HB.out HP.out)
      clear hps HCB
      go_wp2_with fail
      (with_reducible refine HC.out.mono ?_)
      rintro e w5 ⟨p, rfl, t5, k5, _⟩
      have T5 := Lib.hid (t5.mono (D' := fun i => w.heap.size ≤ i) (fun i q => Nat.le_trans HB.out.size q))
      have B5 := Lib.hid (HB.out.trans (k5.below HB.out.size (fun i q => by cases q)))
      clear t5 k5 HC
      go_wp2_with fail
      go_ret
      exact ⟨p, rfl, T5.out, B5.out⟩
end Go.Proofs.YtajpipaooaemdaaGreatDoor
