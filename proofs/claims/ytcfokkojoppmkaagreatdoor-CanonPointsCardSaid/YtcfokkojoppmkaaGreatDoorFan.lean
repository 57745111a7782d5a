/-
  The document's fan: by how many bytes keys go on behind some bytes, and whether one ends there.
-/
import Derived.Test.YtcfokkojoppmkaaGreatDoorCanonPt
import Derived.Test.YtcfokkojoppmkaaGreatDoorR1
import Derived.Test.YtcfokkojoppmkaaGreatDoorCnLaw
import Derived.Test.YtcfokkojoppmkaaGreatDoorDocSet
namespace Go.Proofs.YtcfokkojoppmkaaGreatDoor
open Go.RowKit

def usedB (L : List KV) (way : List UInt8) (n : Nat) : Bool := L.any fun p => decide (p.1.take way.length = way ∧ p.1[way.length]? = some (UInt8.ofNat n))
def usedL (L : List KV) (way : List UInt8) : List Value := (List.range 256).map fun n => .bool (usedB L way n)
theorem fan_used (L : List KV) (way : List UInt8) : fanN L way = (List.range 256).countP (usedB L way) := rfl
theorem used_nil (way : List UInt8) : usedL [] way = List.replicate 256 (.bool false) := by
  unfold usedL
  rw [show (fun n => Value.bool (usedB [] way n)) = fun _ => Value.bool false from rfl, List.map_const', List.length_range]
theorem used_len (L : List KV) (way : List UInt8) : (usedL L way).length = 256 := by simp [usedL]
theorem used_at (L : List KV) (way : List UInt8) (b : UInt8) : (usedL L way)[b.toNat]? = some (.bool (usedB L way b.toNat)) := by
  have := b.toNat_lt
  unfold usedL
  rw [List.getElem?_map, List.getElem?_range this]
  rfl
theorem usedB_snoc (L : List KV) (p : KV) (way : List UInt8) (n : Nat) : usedB (L ++ [p]) way n = (usedB L way n || decide (p.1.take way.length = way ∧ p.1[way.length]? = some (UInt8.ofNat n))) := by
  unfold usedB
  rw [List.any_append]
  simp
theorem hasN_snoc (L : List KV) (p : KV) (way : List UInt8) : hasN (L ++ [p]) way = (hasN L way || decide (p.1 = way)) := by
  unfold hasN
  rw [List.any_append]
  simp
theorem beg_take {k p : List UInt8} : begB k p = true ↔ k.take p.length = p := by
  unfold begB
  rw [decide_eq_true_eq]
  constructor
  · intro h
    have := lcp_take (p := k) (u := p) (e := lcp k p) (Nat.le_refl _)
    rw [h, List.drop_length, List.append_nil] at this
    exact this.symm
  · intro h
    have hk : k = p ++ k.drop p.length := by conv => lhs; rw [← List.take_append_drop p.length k, h]
    rw [hk]
    exact lcp_longer' p _
theorem used_out {L : List KV} {p : KV} {way : List UInt8} (h : ¬ p.1.take way.length = way ∨ p.1[way.length]? = none) : usedL (L ++ [p]) way = usedL L way ∧ fanN (L ++ [p]) way = fanN L way := by
  have e : usedB (L ++ [p]) way = usedB L way := by
    funext n
    rw [usedB_snoc, decide_eq_false (fun q => by rcases h with h | h; exact h q.1; rw [h] at q; cases q.2), Bool.or_false]
  exact ⟨by unfold usedL; rw [e], by rw [fan_used, fan_used, e]⟩
theorem used_in {L : List KV} {p : KV} {way : List UInt8} {b : UInt8} (h : p.1.take way.length = way) (hb : p.1[way.length]? = some b) :
    usedL (L ++ [p]) way = (usedL L way).set b.toNat (.bool true) ∧ fanN (L ++ [p]) way = fanN L way + (if usedB L way b.toNat then 0 else 1) := by
  have e : ∀ n, n < 256 → usedB (L ++ [p]) way n = if n = b.toNat then true else usedB L way n := by
    intro n hn
    rw [usedB_snoc, h, hb]
    by_cases q : n = b.toNat
    · subst q
      simp
    · have : ¬ some b = some (UInt8.ofNat n) := fun z => by
        injection z with z
        rw [z, UInt8.toNat_ofNat'] at q
        omega
      simp [this, q]
  have hbl := b.toNat_lt
  constructor
  · apply List.ext_getElem?
    intro n
    unfold usedL
    rw [List.getElem?_set, List.length_map, List.length_range, List.getElem?_map, List.getElem?_map]
    by_cases hn : n < 256
    · rw [List.getElem?_range hn]
      simp only [Option.map_some]
      rw [e n hn]
      by_cases q : n = b.toNat
      · rw [if_pos q, if_pos q.symm, if_pos (by omega)]
      · rw [if_neg q, if_neg (fun z => q z.symm)]
    · rw [List.getElem?_eq_none (by simp; omega), if_neg (by omega)]
      rfl
  · rw [fan_used, fan_used]
    have hr : List.range 256 = List.range b.toNat ++ b.toNat :: (List.range (255 - b.toNat)).map (fun i => b.toNat + 1 + i) := by
      have h1 : 256 = b.toNat + (1 + (255 - b.toNat)) := by omega
      rw [h1, List.range_add, List.range_add]
      simp [List.range_succ, Nat.add_assoc]
    rw [hr, List.countP_append, List.countP_append, List.countP_cons, List.countP_cons]
    have h1 : (List.range b.toNat).countP (usedB (L ++ [p]) way) = (List.range b.toNat).countP (usedB L way) := List.countP_congr fun n hn => by
      have := List.mem_range.1 hn
      rw [e n (by omega), if_neg (by omega)]
    have h2 : ((List.range (255 - b.toNat)).map (fun i => b.toNat + 1 + i)).countP (usedB (L ++ [p]) way) = ((List.range (255 - b.toNat)).map (fun i => b.toNat + 1 + i)).countP (usedB L way) := List.countP_congr fun n hn => by
      obtain ⟨i, hi, rfl⟩ := List.mem_map.1 hn
      have := List.mem_range.1 hi
      rw [e _ (by omega), if_neg (by omega)]
    rw [h1, h2, e b.toNat hbl, if_pos rfl]
    cases usedB L way b.toNat <;> simp <;> omega
theorem fan_le (L : List KV) (way : List UInt8) : fanN L way ≤ 256 := by
  rw [fan_used]
  exact Nat.le_trans List.countP_le_length (by simp)
theorem take_kv {ps : List PV} {k : Nat} {p : PV} (h : ps[k]? = some p) : (ps.take (k + 1)).map kvP = (ps.take k).map kvP ++ [kvP p] := by
  rw [List.take_add_one, h]; simp
set_option maxRecDepth 100000 in
theorem used_zero : (Tryz.prog.info? 135).map (·.zero) = some (some (.agg (List.replicate 256 (Value.bool false)).toArray)) := by kernel_rfl

set_option maxHeartbeats 2000000 in
set_option maxRecDepth 100000 in
theorem rfan_any (A kA : Option Addr) (n c kn kc B : Nat) (ps : List PV) (key : List UInt8) (w : World) (ha : Prs w B A n ps) (hk : Byt w B kA kn key) (hB : B ≤ w.heap.size) (hn : n ≤ 1000) :
    Calls Tryz.prog 60 #[.slice A n c, .slice kA kn kc] w fun e w' => e = .returned (.tuple #[.int .i64 (fanN (ps.map kvP) key : Nat), .bool (hasN (ps.map kvP) key)]) ∧ Below w.heap.size w w' := by
  have HA := Lib.hid (fun V (h : Below w.heap.size w V) => (ha.more hB).below h)
  have HK := Lib.hid (fun V (h : Below w.heap.size w V) => (hk.more hB).below h)
  have HN := Lib.hid ha.1
  have HKN := Lib.hid hk.1
  obtain ⟨W0, hW0⟩ : ∃ W0, W0 = w.alloc (.cells (List.replicate 256 (Value.bool false)).toArray 135) := ⟨_, rfl⟩
  have HW0 := Lib.hid hW0
  have HZ := Lib.hid (show Lst W0 w.heap.size (usedL [] key) by rw [used_nil, hW0]; exact Blk.new w _ _)
  have HB0 := Lib.hid (show Below w.heap.size w W0 by rw [hW0]; exact (Below.refl _ _).alloc (Nat.le_refl _) _)
  have UZ := Lib.hid used_zero
  have kn9 : kn ≤ 9223372036854775807 := by have := hk.2.1; unfold maxLen at this; omega
  generalize (List.replicate 256 (Value.bool false)).toArray = zs at HW0 UZ
  clear ha hk hW0
  go_enter Tryz.func60, Tryz.ntmps60
  go_wp2_with (refine wpList_alloc_z rfl 135 rfl zs UZ.out ?_; rw [← HW0.out])
  go_wp2
  go_loopw [7, 8, 9] (fun mv hv i wr => ∃ (k m : Nat) (hb : Bool), k ≤ n ∧ i = .int .i64 k ∧ mv = .int .i64 m ∧ hv = .bool hb ∧ m ≤ 256 ∧ Hid (fanN ((ps.take k).map kvP) key = m ∧ hasN ((ps.take k).map kvP) key = hb) ∧ Hid (Lst wr w.heap.size (usedL ((ps.take k).map kvP) key)) ∧ Hid (Below w.heap.size w wr)) (fun _ _ i _ => n - (intOf i).toNat)
  case atStart => exact ⟨0, 0, false, Nat.zero_le _, rfl, rfl, rfl, Nat.zero_le _, Lib.hid ⟨by rfl, rfl⟩, HZ, HB0⟩
  case round =>
    obtain ⟨k, m, hb, hk, rfl, rfl, rfl, hm, HF, HL, HB⟩ := hrel
    by_cases h1 : k < n
    · obtain ⟨ad, p, rfl, hlt, e1, c1, c2, bp⟩ := (HA.out _ HB.out).at_ h1
      have HTK := Lib.hid (take_kv e1)
      have hpn : p.n = p.key.length := bp.1.symm
      have hp9 : p.n ≤ 9223372036854775807 := by have := bp.2.1; unfold maxLen at this; omega
      have HPN := Lib.hid hpn
      have BP := Lib.hid (fun V (h : Below w.heap.size w V) => ((HA.out _ h).2.2.1 k p e1))
      have HBG := Lib.hid (rbegins_any p.A kA p.n kn p.c kc w.heap.size p.key key wr (BP.out _ HB.out) ((HK.out _ HB.out).more (Nat.le_refl _)))
      have hsz := HB.out.size
      clear bp e1 c2 hpn
      go_wp2_with fail
      (with_reducible refine HBG.out.mono ?_)
      rintro e w2 ⟨rfl, q, rfl⟩
      obtain ⟨bb, hbb⟩ : ∃ b, begB p.key key = b := ⟨_, rfl⟩
      rw [hbb]
      have HBB := Lib.hid hbb
      have HLD := Lib.hid (fun q => (HL.out.drewN q : Lst (wr.drewN q) w.heap.size (usedL ((ps.take k).map kvP) key)))
      clear hbb HBG
      cases bb with
      | false =>
        have ho := used_out (L := (ps.take k).map kvP) (p := kvP p) (way := key) (.inl (fun z => by have := beg_take.2 z; rw [HBB.out] at this; cases this))
        have hno : hasN ((ps.take (k + 1)).map kvP) key = hb := by
          rw [HTK.out, hasN_snoc, HF.out.2, decide_eq_false (fun z => by
            have : begB p.key key = true := beg_take.2 (by rw [show p.key = key from z]; exact List.take_length)
            rw [HBB.out] at this; cases this), Bool.or_false]
        have HF2 := Lib.hid (show fanN ((ps.take (k + 1)).map kvP) key = m ∧ hasN ((ps.take (k + 1)).map kvP) key = hb from ⟨by rw [HTK.out, ho.2, HF.out.1], hno⟩)
        have HL2 := Lib.hid (show Lst (wr.drewN q) w.heap.size (usedL ((ps.take (k + 1)).map kvP) key) by rw [HTK.out, ho.1]; exact HLD.out q)
        have HB2 := Lib.hid (show Below w.heap.size w (wr.drewN q) from HB.out.trans (Still.below (w := wr) (w' := wr.drewN q) ⟨q, rfl⟩ _))
        clear ho hno
        go_wp2
        exact ⟨⟨k + 1, m, hb, by omega, by go_num, by go_num, by go_num, hm, HF2, HL2, HB2⟩, by simp [intOf]; omega⟩
      | true =>
        by_cases hle : p.n = kn
        · have hpk : p.key = key := by
            have h2 := beg_take.1 HBB.out
            rw [List.take_of_length_le (by rw [← HPN.out, HKN.out, hle]; exact Nat.le_refl _)] at h2
            exact h2
          have ho := used_out (L := (ps.take k).map kvP) (p := kvP p) (way := key) (.inr (by show p.key[key.length]? = none; rw [hpk]; simp))
          have HF2 := Lib.hid (show fanN ((ps.take (k + 1)).map kvP) key = m ∧ hasN ((ps.take (k + 1)).map kvP) key = true from ⟨by rw [HTK.out, ho.2, HF.out.1], by rw [HTK.out, hasN_snoc, decide_eq_true (show (kvP p).1 = key from hpk), Bool.or_true]⟩)
          have HL2 := Lib.hid (show Lst (wr.drewN q) w.heap.size (usedL ((ps.take (k + 1)).map kvP) key) by rw [HTK.out, ho.1]; exact HLD.out q)
          have HB2 := Lib.hid (show Below w.heap.size w (wr.drewN q) from HB.out.trans (Still.below (w := wr) (w' := wr.drewN q) ⟨q, rfl⟩ _))
          have hle' : ((p.n : Int) == (kn : Int)) = true := by rw [beq_iff_eq]; omega
          clear ho hpk
          go_wp2
          exact ⟨⟨k + 1, m, true, by omega, by go_num, by go_num, by go_num, hm, HF2, HL2, HB2⟩, by simp [intOf]; omega⟩
        · have hlt2 : kn < p.n := by
            have h2 := congrArg List.length (beg_take.1 HBB.out)
            rw [List.length_take] at h2
            have := HPN.out
            have := HKN.out
            omega
          have hle' : ((p.n : Int) == (kn : Int)) = false := by rw [beq_eq_false_iff_ne]; omega
          obtain ⟨ad2, b, hA2, hb0, hb1, hb2⟩ := (BP.out _ HB.out).at_ hlt2
          have ho := used_in (L := (ps.take k).map kvP) (p := kvP p) (way := key) (b := b) (beg_take.1 HBB.out) (by show p.key[key.length]? = some b; rw [HKN.out]; exact hb1)
          have hhn : hasN ((ps.take (k + 1)).map kvP) key = hb := by
            rw [HTK.out, hasN_snoc, HF.out.2, decide_eq_false (fun z => by
              have h2 : p.key = key := z
              have := HPN.out
              rw [h2, HKN.out] at this
              omega), Bool.or_false]
          have hbl := b.toNat_lt
          obtain ⟨ub, hub⟩ : ∃ u, usedB ((ps.take k).map kvP) key b.toNat = u := ⟨_, rfl⟩
          rw [hub] at ho
          have hcell := (HLD.out q).at_ b.toNat
          rw [used_at, hub] at hcell
          have HB2 := Lib.hid (show Below w.heap.size w (wr.drewN q) from HB.out.trans (Still.below (w := wr) (w' := wr.drewN q) ⟨q, rfl⟩ _))
          have hbs : wr.cell? (ad2.add kn) = some (.int .u8 (b.toNat : Int)) := hb2
          obtain ⟨z, hz⟩ : ∃ z : Nat, b.toNat = z := ⟨_, rfl⟩
          rw [hz] at hbs hcell hbl ho
          cases ub with
          | true =>
            have HF2 := Lib.hid (show fanN ((ps.take (k + 1)).map kvP) key = m ∧ hasN ((ps.take (k + 1)).map kvP) key = hb from ⟨by rw [HTK.out, ho.2, HF.out.1]; rfl, hhn⟩)
            have hset : (usedL ((ps.take k).map kvP) key).set z (.bool true) = usedL ((ps.take k).map kvP) key := by
              have h2 := (HLD.out q).at_ z
              rw [hcell] at h2
              obtain ⟨hl, he⟩ := List.getElem?_eq_some_iff.1 h2.symm
              rw [← he]
              exact List.set_getElem_self hl
            have HL2 := Lib.hid (show Lst (wr.drewN q) w.heap.size (usedL ((ps.take (k + 1)).map kvP) key) by rw [HTK.out, ho.1, hset]; exact HLD.out q)
            clear ho hhn hset hb1 hb2 hub
            go_wp2
            exact ⟨⟨k + 1, m, hb, by omega, by go_num, by go_num, by go_num, hm, HF2, HL2, HB2⟩, by simp [intOf]; omega⟩
          | false =>
            have hm2 : m + 1 ≤ 256 := by
              have h2 := ho.2
              have h3 := fan_le ((ps.take (k + 1)).map kvP) key
              rw [HTK.out, h2, HF.out.1] at h3
              simpa using h3
            have HF2 := Lib.hid (show fanN ((ps.take (k + 1)).map kvP) key = m + 1 ∧ hasN ((ps.take (k + 1)).map kvP) key = hb from ⟨by rw [HTK.out, ho.2, HF.out.1]; rfl, hhn⟩)
            have HL2 := Lib.hid (show Lst ((wr.drewN q).setCell ⟨w.heap.size, z, none⟩ (.bool true)) w.heap.size (usedL ((ps.take (k + 1)).map kvP) key) by rw [HTK.out, ho.1]; exact Lst.set1 (HLD.out q) z (.bool true))
            have HB3 := Lib.hid (show Below w.heap.size w ((wr.drewN q).setCell ⟨w.heap.size, z, none⟩ (.bool true)) from HB2.out.trans ((Kept.set_ (D := (· = w.heap.size)) (wr.drewN q) ⟨w.heap.size, z, none⟩ (.bool true) rfl).below HB2.out.size (fun i e => by omega)))
            have hfz : wr.frozen? ⟨w.heap.size, z, none⟩ = false := Blk.fz HL.out _
            clear ho hhn hb1 hb2 hub
            go_wp2
            exact ⟨⟨k + 1, m + 1, hb, by omega, by go_num, by go_num, by go_num, hm2, HF2, HL2, HB3⟩, by simp [intOf]; omega⟩
    · obtain rfl : k = n := by omega
      have hps : ps.take k = ps := List.take_of_length_le (by rw [HN.out]; exact Nat.le_refl _)
      rw [hps] at HF
      go_wp2
      go_ret2
      exact ⟨by rw [HF.out.1, HF.out.2]; rfl, HB.out⟩
end Go.Proofs.YtcfokkojoppmkaaGreatDoor
