/-
  What the document's Put, senc.Other and the document's Other answer.
-/
import Derived.Test.YtdpddkpfllioiaaDoorSenc
namespace Go.Proofs.YtdpddkpfllioiaaDoor
open Go.RowKit

set_option maxHeartbeats 1000000 in
theorem rsput_any (A : Option Addr) (n c B : Nat) (l : List UInt8) (w : World) (ha : Byt w B A n l) (hB : B ≤ w.heap.size) (hn : n ≤ 1099511627776) :
    Calls Tryd.prog 64 #[.slice A n c] w (SlPost w (sputL l)) := by
  have HN := Lib.hid ha.1
  go_enter Tryd.func64, Tryd.ntmps64
  go_wp2
  go_loopw [3, 4] (fun v i wr => ∃ (k m : Nat), k ≤ n ∧ i = .int .i64 k ∧ m = (escL (l.take k)).length ∧ Mine wr w.heap.size 5 v m (escL (l.take k)) ∧ Below w.heap.size w wr) (fun _ i _ => n - (intOf i).toNat)
  case atStart => exact ⟨0, 0, Nat.zero_le _, rfl, rfl, Mine.nil _ _ _, Below.refl _ _⟩
  case round =>
    obtain ⟨k, m, hk, rfl, hm, hmine, hbel⟩ := hrel
    have hm2 : m ≤ 2 * k := by rw [hm]; exact escL_take_le l k
    have hsz := hbel.size
    have HMI := Lib.hid hmine
    have HW := Lib.hid hbel
    have HM := Lib.hid hm
    have HA := Lib.hid (ha.more hB)
    clear hmine hbel hm
    by_cases h1 : k < n
    · obtain ⟨ad, u, rfl, hu1, hu2, hu3⟩ := (HA.out.below HW.out).at_ (k := k) (by omega)
      have HU := Lib.hid hu2
      clear hu2
      by_cases h2 : u = 0
      · subst h2
        go_wp2_with (first
          | (at_builtin
             refine wpList_append_byt _ rfl (.tmp 11) (.tmp 16) _ rfl Tryd.underlying26 info_u8 w.heap.size _ m _ rfl (HMI.out.alloc _) (wr.heap.size + 1) (some ⟨wr.heap.size, 0, none⟩) 1 1 [0] rfl (byt_one wr _ rfl) (by omega) (by simp; omega) ?_
             intro v1 w1 hm1 hg1 _
             have HM1 := Lib.hid hm1
             have HB1 := Lib.hid ((HW.out.alloc hsz _).grown hg1 (by simp; omega) (fun j hj => (HMI.out.lt j hj).1))
             have hs1 := HB1.out.size
             have hc1 : w1.cell? (ad.add k) = some (.int .u8 0) := by
               obtain ⟨ad', u', q1, _, q2, q3⟩ := (HA.out.below HB1.out).at_ (k := k) (by omega)
               injection q1 with q1
               subst q1
               rw [HU.out] at q2
               injection q2 with q2
               subst q2
               exact q3
             clear hm1 hg1)
          | (at_builtin
             refine wpList_append_byt _ rfl (.tmp 23) (.tmp 24) _ rfl Tryd.underlying26 info_u8 w.heap.size _ (m + 1) _ rfl (HM1.out.alloc _) (w1.heap.size + 1) (some ⟨w1.heap.size, 0, none⟩) 1 1 [255] rfl (byt_one w1 _ rfl) (by omega) (by simp; omega) ?_
             intro v2 w2 hm2 hg2 _
             have HM2 := Lib.hid hm2
             have HB2 := Lib.hid ((HB1.out.alloc hs1 _).grown hg2 (by simp; omega) (fun j hj => (HM1.out.lt j hj).1))
             have hs2 := HB2.out.size
             clear hm2 hg2))
        refine ⟨⟨k + 1, m + 1 + 1, by omega, by go_num, by rw [← escL_zero HU.out, HM.out]; simp, ?_, HB2.out⟩, by simp [intOf]; omega⟩
        rw [← escL_zero HU.out]
        exact HM2.out
      · have e2 : ((u.toNat : Int) == 0) = false := ne0 h2
        go_wp2_with (
          at_builtin
          refine wpList_append_byt _ rfl (.tmp 11) (.tmp 16) _ rfl Tryd.underlying26 info_u8 w.heap.size _ m _ rfl (HMI.out.alloc _) (wr.heap.size + 1) (some ⟨wr.heap.size, 0, none⟩) 1 1 [u] rfl (byt_one wr _ rfl) (by omega) (by simp; omega) ?_
          intro v1 w1 hm1 hg1 _
          have HM1 := Lib.hid hm1
          have HB1 := Lib.hid ((HW.out.alloc hsz _).grown hg1 (by simp; omega) (fun j hj => (HMI.out.lt j hj).1))
          have hs1 := HB1.out.size
          have hc1 : w1.cell? (ad.add k) = some (.int .u8 (u.toNat : Int)) := by
            obtain ⟨ad', u', q1, _, q2, q3⟩ := (HA.out.below HB1.out).at_ (k := k) (by omega)
            injection q1 with q1
            subst q1
            rw [HU.out] at q2
            injection q2 with q2
            subst q2
            exact q3
          clear hm1 hg1)
        refine ⟨⟨k + 1, m + 1, by omega, by go_num, by rw [← escL_plain HU.out h2, HM.out]; simp, ?_, HB1.out⟩, by simp [intOf]; omega⟩
        rw [← escL_plain HU.out h2]
        exact HM1.out
    · obtain rfl : k = n := by omega
      go_wp2_with (
        at_builtin
        refine wpList_append_byt _ rfl (.tmp 26) (.tmp 27) _ rfl Tryd.underlying26 info_u8 w.heap.size _ m _ rfl (HMI.out.alloc _) (wr.heap.size + 1) (some ⟨wr.heap.size, 0, none⟩) 2 2 [0, 0] rfl (byt_two wr _ 0 0 rfl rfl) (by omega) (by simp; omega) ?_
        intro v1 w1 hm1 hg1 _
        have HM1 := Lib.hid hm1
        have HB1 := Lib.hid ((HW.out.alloc hsz _).grown hg1 (by simp; omega) (fun j hj => (HMI.out.lt j hj).1))
        have hs1 := HB1.out.size
        clear hm1 hg1)
      go_ret
      exact SlPost.mine HM1.out (by rw [List.take_of_length_le (by have := HN.out; omega)]; rfl) HB1.out

/-- The row that Other fills, behind k bytes. -/
def rowO (l : List UInt8) (n k : Nat) : List UInt8 := othL (l.take k) ++ List.replicate (n - k) 0
theorem rowO_at {l : List UInt8} {n k : Nat} (hn : l.length = n) (hk : k < n) : (rowO l n k)[k]? = some 0 := by
  unfold rowO
  have e : (othL (l.take k)).length = k := by rw [othL_length, List.length_take]; omega
  rw [List.getElem?_append_right (by omega), e, List.getElem?_replicate, if_pos (by omega)]
theorem rowO_step {l : List UInt8} {n k : Nat} {u : UInt8} (hn : l.length = n) (hu : l[k]? = some u) : (rowO l n k).set k (255 - u) = rowO l n (k + 1) := by
  obtain ⟨hk, rfl⟩ := List.getElem?_eq_some_iff.1 hu
  have e : (othL (l.take k)).length = k := by rw [othL_length, List.length_take]; omega
  unfold rowO
  obtain ⟨m, hm⟩ : ∃ m, n - k = m + 1 := ⟨n - k - 1, by omega⟩
  rw [hm, show n - (k + 1) = m from by omega, List.replicate_succ, List.set_append_right _ _ (by omega), e, Nat.sub_self, List.set_cons_zero, List.take_succ_eq_append_getElem hk]
  simp only [othL, List.map_append, List.map_cons, List.map_nil, List.append_assoc, List.cons_append, List.nil_append]
theorem rowO_end {l : List UInt8} {n : Nat} (hn : l.length = n) : rowO l n n = othL l := by
  unfold rowO; rw [Nat.sub_self, List.replicate_zero, List.append_nil, List.take_of_length_le (by omega)]
theorem row_oth {wr : World} {g k n : Nat} {e : TypeId} {l : List UInt8} {u : UInt8} {z : Int} (h : Row wr g e (rowO l n k)) (hn : l.length = n) (hu : l[k]? = some u) (hz : z = ((255 - u).toNat : Int)) :
    Row (wr.setCell ⟨g, k, none⟩ (.int .u8 z)) g e (rowO l n (k + 1)) := by
  subst hz
  rw [← rowO_step hn hu]
  exact h.set_ k (255 - u)
theorem oth_int (u : UInt8) : (255 - (u.toNat : Int)) = ((255 - u).toNat : Int) := by
  have := u.toNat_lt
  rw [oth_toNat]; omega

set_option maxHeartbeats 1000000 in
theorem oth_any (A : Option Addr) (n c B : Nat) (l : List UInt8) (w : World) (ha : Byt w B A n l) (hB : B ≤ w.heap.size) (hn : n ≤ 1099511627776) :
    Calls Tryd.prog 44 #[.slice A n c] w (SlPost w (othL l)) := by
  have HN := Lib.hid ha.1
  have hmk : ∀ W : World, (Instr.makeSlice 26 (.int .i64 (n : Int)) (.int .i64 (n : Int))).run Tryd.prog W = .ok (.slice (some ⟨W.heap.size, 0, none⟩) n n) (W.alloc (.cells (bvs (List.replicate n 0)) 5)) := make_bytes (P := Tryd.prog) Tryd.underlying26 info_u8 n (by omega)
  go_enter Tryd.func44, Tryd.ntmps44
  go_wp2
  go_loopw [11] (fun i wr => ∃ k : Nat, k ≤ n ∧ i = .int .i64 k ∧ Row wr w.heap.size 5 (rowO l n k) ∧ Below w.heap.size w wr) (fun i _ => n - (intOf i).toNat)
  case atStart => exact ⟨0, Nat.zero_le _, rfl, by simpa [rowO, othL] using Row.new w 5 (List.replicate n 0), (Below.refl _ _).alloc (Nat.le_refl _) _⟩
  case round =>
    clear hmk
    obtain ⟨k, hk, rfl, hrow, hbel⟩ := hrel
    by_cases h1 : k < n
    · obtain ⟨ad, u, rfl, hu1, hu2, hu3⟩ := ((ha.more hB).below hbel).at_ h1
      have HU := Lib.hid hu2
      clear hu2
      have hu : (u.toNat : Int) ≤ 255 := by have := u.toNat_lt; omega
      have hc1 := hrow.cell (rowO_at HN.out h1)
      have hf1 := hrow.frozen k
      have HR := Lib.hid hrow
      have HB := Lib.hid hbel
      clear hrow hbel
      go_wp2
      exact ⟨⟨k + 1, by omega, by go_num, row_oth HR.out HN.out HU.out (by first | exact oth_int u | (rw [← oth_int u]; omega)), HB.out.setCell (Nat.le_refl _) _⟩, by simp [intOf]; omega⟩
    · obtain rfl : k = n := by omega
      have HR := Lib.hid hrow
      have HB := Lib.hid hbel
      clear hrow hbel
      go_wp2
      go_ret
      exact SlPost.row HR.out (rowO_end HN.out) (by rw [rowO_end HN.out, othL_length]; exact HN.out) (by unfold maxLen; omega) HB.out

set_option maxHeartbeats 1000000 in
theorem roth_any (A : Option Addr) (n c B : Nat) (l : List UInt8) (w : World) (ha : Byt w B A n l) (hB : B ≤ w.heap.size) (hn : n ≤ 1099511627776) :
    Calls Tryd.prog 46 #[.slice A n c] w (SlPost w (othL l)) := by
  have HN := Lib.hid ha.1
  have hmk : ∀ W : World, (Instr.makeSlice 26 (.int .i64 (n : Int)) (.int .i64 (n : Int))).run Tryd.prog W = .ok (.slice (some ⟨W.heap.size, 0, none⟩) n n) (W.alloc (.cells (bvs (List.replicate n 0)) 5)) := make_bytes (P := Tryd.prog) Tryd.underlying26 info_u8 n (by omega)
  go_enter Tryd.func46, Tryd.ntmps46
  go_wp2
  go_loopw [4] (fun i wr => ∃ k : Nat, k ≤ n ∧ i = .int .i64 k ∧ Row wr w.heap.size 5 (rowO l n k) ∧ Below w.heap.size w wr) (fun i _ => n - (intOf i).toNat)
  case atStart => exact ⟨0, Nat.zero_le _, rfl, by simpa [rowO, othL] using Row.new w 5 (List.replicate n 0), (Below.refl _ _).alloc (Nat.le_refl _) _⟩
  case round =>
    clear hmk
    obtain ⟨k, hk, rfl, hrow, hbel⟩ := hrel
    by_cases h1 : k < n
    · obtain ⟨ad, u, rfl, hu1, hu2, hu3⟩ := ((ha.more hB).below hbel).at_ h1
      have HU := Lib.hid hu2
      clear hu2
      have hu : (u.toNat : Int) ≤ 255 := by have := u.toNat_lt; omega
      have hc1 := hrow.cell (rowO_at HN.out h1)
      have hf1 := hrow.frozen k
      have HR := Lib.hid hrow
      have HB := Lib.hid hbel
      clear hrow hbel
      go_wp2
      exact ⟨⟨k + 1, by omega, by go_num, row_oth HR.out HN.out HU.out (by first | exact oth_int u | (rw [← oth_int u]; omega)), HB.out.setCell (Nat.le_refl _) _⟩, by simp [intOf]; omega⟩
    · obtain rfl : k = n := by omega
      have HR := Lib.hid hrow
      have HB := Lib.hid hbel
      clear hrow hbel
      go_wp2
      go_ret
      exact SlPost.row HR.out (rowO_end HN.out) (by rw [rowO_end HN.out, othL_length]; exact HN.out) (by unfold maxLen; omega) HB.out
end Go.Proofs.YtdpddkpfllioiaaDoor
