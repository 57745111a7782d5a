/-
  Layer 13's own far, pairs, same.
-/
import Derived.Test.YtcfokkojoppmkaaGreatDoorPRow
import Derived.Test.YtcfokkojoppmkaaGreatDoorText
import Derived.Test.YtcfokkojoppmkaaGreatDoorCanRead
import Derived.Test.YtcfokkojoppmkaaGreatDoorCanon
namespace Go.Proofs.YtcfokkojoppmkaaGreatDoor
open Go.RowKit

def farP (ps : List PV) (many : Nat) : Bool := decide (many < ps.length) || ps.any fun p => decide (300 < p.key.length)
set_option maxRecDepth 100000 in
set_option maxHeartbeats 1000000 in
theorem cfar_any (A : Option Addr) (n c B many : Nat) (ps : List PV) (w : World) (ha : Prs w B A n ps) (hB : B ≤ w.heap.size) (hm : many ≤ 1000) :
    Calls Tryz.prog 9 #[.slice A n c, .int .i64 (many : Int)] w fun e w' => e = .returned (.bool (farP ps many)) ∧ Below w.heap.size w w' := by
  have HA := Lib.hid (fun V (h : Below w.heap.size w V) => (ha.more hB).below h)
  have HL := Lib.hid ha.1
  have hn : n ≤ maxLen := ha.2.1
  have hn' : n ≤ 9223372036854775807 := by unfold maxLen at hn; omega
  clear ha hn
  go_enter Tryz.func9, Tryz.ntmps9
  by_cases hmn : many < n
  · have HF := Lib.hid (show farP ps many = true from by unfold farP; rw [HL.out, decide_eq_true hmn]; rfl)
    go_wp2
    go_ret
    exact ⟨ret_bool HF.out.symm, Below.refl _ _⟩
  · go_wp2
    go_loopw [13] (fun i wr => ∃ k : Nat, k ≤ n ∧ i = .int .i64 k ∧ Hid (∀ j p, j < k → ps[j]? = some p → p.key.length ≤ 300) ∧ Hid (Below w.heap.size w wr)) (fun i _ => n - (intOf i).toNat)
    case atStart => exact ⟨0, Nat.zero_le _, rfl, Lib.hid (fun j p hj => by omega), Lib.hid (Below.refl _ _)⟩
    case round =>
      obtain ⟨k, hk, rfl, HS, HB⟩ := hrel
      by_cases h1 : k < n
      · obtain ⟨ad, p, rfl, hlt, e1, c1, c2, b1⟩ := (HA.out _ HB.out).at_ h1
        have hpn : p.n = p.key.length := b1.1.symm
        have hpm : p.n ≤ 9223372036854775807 := by have := b1.2.1; unfold maxLen at this; omega
        have HE1 := Lib.hid e1
        have HPN := Lib.hid hpn
        rw [← add_of_add] at c2
        have c2' : wr.cell? ⟨(ad.add (k * 2)).block, (ad.add (k * 2)).off + 1, none⟩ = some (.int .u64 p.val) := c2
        have HB2 := Lib.hid (HB.out.alloc HB.out.size (.cells #[.slice p.A p.n p.c, .int .u64 p.val] 65))
        clear b1 e1 hpn
        by_cases hb : 300 < p.n
        · have HF := Lib.hid (show farP ps many = true from by
            unfold farP
            rw [Bool.or_eq_true, List.any_eq_true]
            exact .inr ⟨p, List.mem_of_getElem? HE1.out, decide_eq_true (by have := HPN.out; omega)⟩)
          go_wp2
          go_ret
          exact ⟨ret_bool HF.out.symm, HB2.out⟩
        · have HS1 := Lib.hid (show ∀ j p', j < k + 1 → ps[j]? = some p' → p'.key.length ≤ 300 from fun j p' hj hp' => by
            rcases Nat.lt_or_ge j k with h | h
            · exact HS.out j p' h hp'
            · have : j = k := by omega
              subst this
              rw [HE1.out] at hp'
              injection hp' with hp'
              subst hp'
              have := HPN.out
              omega)
          go_wp2
          exact ⟨⟨k + 1, by omega, by go_num, HS1, HB2⟩, by simp [intOf]; omega⟩
      · have HF := Lib.hid (show farP ps many = false from by
          unfold farP
          rw [HL.out, decide_eq_false hmn, Bool.false_or, Bool.eq_false_iff]
          intro h
          obtain ⟨p, hp, h2⟩ := List.any_eq_true.1 h
          obtain ⟨j, hj⟩ := List.mem_iff_getElem?.1 hp
          have h3 := HS.out j p (by have := (List.getElem?_eq_some_iff.1 hj).1; have := HL.out; omega) hj
          simp only [decide_eq_true_eq] at h2
          omega)
        go_wp2
        go_ret
        exact ⟨ret_bool HF.out.symm, HB.out⟩

set_option maxRecDepth 100000 in
set_option maxHeartbeats 1000000 in
theorem cpairs_any (A : Option Addr) (n c B : Nat) (ps : List PV) (w : World) (ha : Prs w B A n ps) (hk : Kps w B ps) (hB : B ≤ w.heap.size) (hn : n ≤ 1000) :
    Calls Tryz.prog 12 #[.slice A n c] w fun e w' => ∃ A' c', e = .returned (.slice A' n c') ∧ n ≤ c' ∧ Prs w' w'.heap.size A' n ps ∧ (∀ ad, A' = some ad → 0 < n → w.heap.size ≤ ad.block) ∧ Below w.heap.size w w' := by
  have HA := Lib.hid (fun V (h : Below w.heap.size w V) => (ha.more hB).below h)
  have HK := Lib.hid (fun V (h : Below w.heap.size w V) => ((hk.more hB).below h).more h.size)
  have HN := Lib.hid ha.1
  clear ha hk
  go_enter Tryz.func12, Tryz.ntmps12
  go_wp2
  go_loopw [3, 8] (fun v i wr => ∃ k : Nat, k ≤ n ∧ i = .int .i64 k ∧ Hid (PRow wr w.heap.size 79 v k (ps.take k)) ∧ Hid (Below w.heap.size w wr)) (fun _ i _ => n - (intOf i).toNat)
  case atStart => exact ⟨0, Nat.zero_le _, rfl, Lib.hid (MineR.nil _ _ _ _), Lib.hid (Below.refl _ _)⟩
  case round =>
    obtain ⟨k, hk, rfl, HR, HB⟩ := hrel
    by_cases h1 : k < n
    · obtain ⟨ad, p, rfl, hlt, e1, c1, c2, _⟩ := (HA.out _ HB.out).at_ h1
      have HV := Lib.hid e1
      have hsz := HB.out.size
      rw [← add_of_add] at c2
      have c2' : wr.cell? ⟨(ad.add (k * 2)).block, (ad.add (k * 2)).off + 1, none⟩ = some (.int .u64 p.val) := c2
      obtain ⟨A1, cp1, rfl, _⟩ := MineR.slice HR.out
      have HM := Lib.hid (fun (o1 o2 : Obj) => (MineR.alloc HR.out o1).alloc o2)
      have HS := Lib.hid (fun (o1 o2 : Obj) => show Below w.heap.size w ((wr.alloc o1).alloc o2) from (HB.out.alloc HB.out.size _).alloc (by have := HB.out.size; simp; omega) _)
      have HY := Lib.hid (show ∀ (j : Nat) (u : Value), (pvc p)[j]? = some u → ((wr.alloc (.cells #[.slice p.A p.n p.c, .int .u64 p.val] 65)).alloc (.cells #[.slice p.A p.n p.c, .int .u64 p.val] 79)).cell? ((⟨wr.heap.size + 1, 0, none⟩ : Addr).add j) = some u from by
        have := Blk.new (wr.alloc (.cells #[.slice p.A p.n p.c, .int .u64 p.val] 65)) 79 #[.slice p.A p.n p.c, .int .u64 p.val]
        rw [World.size_alloc] at this
        exact pair_cells this)
      clear c2 e1
      go_wp2_with (at_builtin
                   refine wpList_append_rws ((wr.alloc (.cells #[.slice p.A p.n p.c, .int .u64 p.val] 65)).alloc (.cells #[.slice p.A p.n p.c, .int .u64 p.val] 79)) rfl (.tmp 12) (.tmp 14) _ rfl Tryz.underlying38 info_pair (by rfl) (by decide) w.heap.size (.slice A1 k cp1) k ((ps.take k).map pvc) rfl (HM.out _ _) ⟨wr.heap.size + 1, 0, none⟩ 1 (pvc p) rfl rfl HY.out (pair_one p) (by omega) (by unfold maxLen; omega) (by simp; omega) ?_
                   intro v2 w2 hm2 hg2 _
                   have M2 := Lib.hid hm2
                   have C2 := Lib.hid (below_grown (HS.out _ _) (HM.out _ _) hg2 (Nat.le_refl _) (by simp; omega))
                   clear hm2 hg2)
      go_wp2
      exact ⟨⟨k + 1, by omega, by go_num, Lib.hid (show MineR _ _ _ 2 _ _ ((ps.take (k + 1)).map pvc) from by rw [← take_pv HV.out]; exact M2.out), C2⟩, by simp [intOf]; omega⟩
    · obtain rfl : k = n := by omega
      obtain ⟨A1, cp1, rfl, hc1⟩ := MineR.slice HR.out
      have hps : ps.take k = ps := List.take_of_length_le (by rw [HN.out]; exact Nat.le_refl _)
      have HP := Lib.hid (show Prs wr wr.heap.size A1 k ps from by
        have h2 := HR.out
        rw [hps] at h2
        exact PRow.prs h2 (HK.out _ HB.out))
      have HG := Lib.hid (MineR.far HR.out)
      clear hps
      go_wp2
      go_ret
      exact ⟨A1, cp1, rfl, hc1, HP.out, HG.out, HB.out⟩
set_option maxRecDepth 100000 in
theorem rsame_me (A A' : Option Addr) (n n' c c' B : Nat) (l : List UInt8) (w : World) (ha : Byt w B A n l) (hb : Byt w B A' n' l) :
    Calls Tryz.prog 28 #[.slice A n c, .slice A' n' c'] w fun e w' => e = .returned (.bool true) ∧ Still w w' := by
  have h := rsame_any A A' n n' c c' B l l w ha hb
  rwa [show sameB l l = true from decide_eq_true rfl] at h
abbrev kvP (p : PV) : KV := (p.key, p.val)
set_option maxRecDepth 100000 in
set_option maxHeartbeats 1000000 in
theorem csame_yes (A A' : Option Addr) (n c c' B : Nat) (ps qs : List PV) (w : World) (ha : Prs w B A n ps) (hb : Prs w B A' n qs) (he : ps.map kvP = qs.map kvP) (hn : n ≤ 1000) :
    Calls Tryz.prog 18 #[.slice A n c, .slice A' n c'] w fun e w' => e = .returned (.bool true) ∧ Still w w' := by
  have HA := Lib.hid ha
  have HB := Lib.hid hb
  have HE := Lib.hid he
  clear ha hb he
  go_enter Tryz.func18, Tryz.ntmps18
  go_wp2
  go_loopw [13] (fun i wr => ∃ k : Nat, k ≤ n ∧ i = .int .i64 k ∧ Still w wr) (fun i _ => n - (intOf i).toNat)
  case atStart => exact ⟨0, Nat.zero_le _, rfl, Still.refl _⟩
  case round =>
    obtain ⟨k, hk, rfl, q, rfl⟩ := hrel
    by_cases h1 : k < n
    · obtain ⟨ad, p, rfl, _, e1, c1, c2, b1⟩ := HA.out.at_ h1
      obtain ⟨ad', p', rfl, _, e2, c3, c4, b2⟩ := HB.out.at_ h1
      have hpp : kvP p = kvP p' := by
        have h2 : (ps.map kvP)[k]? = (qs.map kvP)[k]? := by rw [HE.out]
        rw [List.getElem?_map, List.getElem?_map, e1, e2] at h2
        simpa using h2
      injection hpp with hp1 hp2
      rw [← add_of_add] at c2 c4
      have c2' : w.cell? ⟨(ad.add (k * 2)).block, (ad.add (k * 2)).off + 1, none⟩ = some (.int .u64 p.val) := c2
      have c4' : w.cell? ⟨(ad'.add (k * 2)).block, (ad'.add (k * 2)).off + 1, none⟩ = some (.int .u64 p.val) := by rw [hp2]; exact c4
      rw [← hp1] at b2
      have HB1 := Lib.hid b1
      have HB2 := Lib.hid b2
      clear c2 c4 e1 e2 hp1 hp2 b1 b2
      go_wp2_with fail
      have i0 : (0 : Int) ≤ (k : Int) := by omega
      have i3 : (k : Int) < (n : Int) := by omega
      go_quiet ((go_at_call 28; exact quiet_st2 (rsame_me _ _ _ _ _ _ B p.key _ (HB1.out.drewN _) (HB2.out.drewN _))))
      go_wp2
      exact ⟨⟨k + 1, by omega, by go_num, (by repeat (first | exact Still.refl _ | apply Still.step))⟩, by simp [intOf]; omega⟩
    · go_wp2
      go_ret
      exact ⟨rfl, by repeat (first | exact Still.refl _ | apply Still.step)⟩
end Go.Proofs.YtcfokkojoppmkaaGreatDoor
