/-
  What senc.size, Len, End and the document's Take answer.
  What the document's Put, senc.Other and the document's Other answer.
  What senc.text, Take and the document's Take answer.
-/
import Derived.Test.YtofccfbiappgaaaDoorKeys
import Derived.Test.YtofccfbiappgaaaDoorMem
import Derived.Test.YtofccfbiappgaaaDoorPure
namespace Go.Proofs.YtofccfbiappgaaaDoor
open Go.RowKit

def sizN (u : UInt8) : Nat := if u = 0 then 2 else 1
theorem u0_yes {u : UInt8} (h : ((u.toNat : Int) == 0) = true) : u = 0 := UInt8.toNat_inj.1 (by simp at h; simpa using h)
theorem u0_no {u : UInt8} (h : ((u.toNat : Int) == 0) = false) : u ≠ 0 := fun e => by subst e; simp at h
theorem ne0 {u : UInt8} (h : u ≠ 0) : ((u.toNat : Int) == 0) = false := by have := pos_of_ne h; rw [beq_eq_false_iff_ne]; omega
theorem bne0 {u : UInt8} (h : u ≠ 0) : ((u.toNat : Int) != 0) = true := by have := pos_of_ne h; rw [bne_iff_ne]; omega
theorem ne255 {u : UInt8} (h : u ≠ 255) : ((u.toNat : Int) == 255) = false := by
  rw [beq_eq_false_iff_ne]
  exact fun q => h (UInt8.toNat_inj.1 (by show u.toNat = 255; omega))

set_option maxRecDepth 100000 in
set_option maxHeartbeats 400000 in
theorem size_any (u : UInt8) (w : World) : Calls Tryd.prog 72 #[.int .u8 (u.toNat : Int)] w fun e w' => e = .returned (.int .i64 (sizN u : Int)) ∧ w = w' := by
  by_cases h : u = 0
  · subst h
    go_enter Tryd.func72, Tryd.ntmps72
    go_wp2
    go_ret
    exact ⟨rfl, rfl⟩
  · have h1 : ((u.toNat : Int) == 0) = false := ne0 h
    have hs : (1 : Int) = (sizN u : Int) := by simp [sizN, h]
    go_enter Tryd.func72, Tryd.ntmps72
    go_wp2
    go_ret
    exact ⟨ret_int hs, rfl⟩
set_option maxRecDepth 100000 in
theorem size_0 (w : World) : Calls Tryd.prog 72 #[.int .u8 0] w fun e w' => e = .returned (.int .i64 2) ∧ w = w' := size_any 0 w

theorem ret_ii {a b a' b' : Int} (h : a = a') (h' : b = b') : Ending.returned (.tuple #[.int .i64 a, .int .i64 b]) = .returned (.tuple #[.int .i64 a', .int .i64 b']) := by rw [h, h']
theorem ret_bad {s : Scn} {e : Int} (h : s = .bad e) : Ending.returned (.tuple #[.int .i64 0, .int .i64 e]) = .returned (.tuple #[.int .i64 (s.N : Int), .int .i64 s.E]) := by rw [h]; rfl
theorem ret_good {s : Scn} {t : List UInt8} {k : Nat} (h : s = .ok t (k + 2)) : Ending.returned (.tuple #[.int .i64 ((k : Int) + 2), .int .i64 0]) = .returned (.tuple #[.int .i64 (s.N : Int), .int .i64 s.E]) := by rw [h]; rfl

theorem escL_siz {l : List UInt8} {k : Nat} {u : UInt8} (h : l[k]? = some u) : (escL (l.take (k + 1))).length = (escL (l.take k)).length + sizN u := by
  rw [escL_snoc h, List.length_append]; unfold sizN; split <;> rfl
theorem sizN_le (u : UInt8) : sizN u ≤ 2 := by unfold sizN; split <;> omega
theorem escL_take_le (l : List UInt8) (k : Nat) : (escL (l.take k)).length ≤ 2 * k := by
  have := escL_length (l.take k)
  simp only [List.length_take] at this
  omega

set_option maxRecDepth 100000 in
set_option maxHeartbeats 400000 in
theorem len_any (A : Option Addr) (n c B : Nat) (l : List UInt8) (w : World) (ha : Byt w B A n l) (hn : n ≤ 1099511627776) :
    Calls Tryd.prog 71 #[.slice A n c] w fun e w' => e = .returned (.int .i64 ((sputL l).length : Int)) ∧ Still w w' := by
  have HN := Lib.hid ha.1
  go_enter Tryd.func71, Tryd.ntmps71
  go_wp2
  go_loopw [3, 8] (fun s i wr => ∃ (k m : Nat), k ≤ n ∧ i = .int .i64 k ∧ s = .int .i64 ((m : Int) + 2) ∧ m = (escL (l.take k)).length ∧ Still w wr) (fun _ i _ => n - (intOf i).toNat)
  case atStart => exact ⟨0, 0, Nat.zero_le _, rfl, rfl, rfl, Still.refl _⟩
  case round =>
    obtain ⟨k, m, hk, rfl, rfl, hm, q, rfl⟩ := hrel
    have HM := Lib.hid hm
    have hm2 : m ≤ 2 * k := by rw [hm]; exact escL_take_le l k
    clear hm
    by_cases h1 : k < n
    · obtain ⟨ad, u, rfl, hu1, hu2, hu3⟩ := ha.at_ h1
      have HU := Lib.hid hu2
      clear hu2
      have hz := sizN_le u
      go_wp2_with (go_at_call 72; refine (size_any u _).mono ?_; rintro e w' ⟨rfl, rfl⟩)
      exact ⟨⟨k + 1, m + sizN u, by omega, by go_num, by go_num, by rw [escL_siz HU.out, HM.out], (by repeat (first | exact Still.refl _ | apply Still.step))⟩, by simp [intOf]; omega⟩
    · go_wp2
      go_ret
      exact ⟨ret_int (by rw [sputL_length, HM.out, List.take_of_length_le (by have := HN.out; omega)]; rfl), (by repeat (first | exact Still.refl _ | apply Still.step))⟩

set_option maxRecDepth 100000 in
set_option maxHeartbeats 1000000 in
theorem sput_any (A : Option Addr) (n c B : Nat) (l : List UInt8) (w : World) (ha : Byt w B A n l) (hB : B ≤ w.heap.size) (hn : n ≤ 1099511627776) :
    Calls Tryd.prog 64 #[.slice A n c] w (SlPost w (sputL l)) := by
  have HN := Lib.hid ha.1
  have hlen : (sputL l).length ≤ 2199023255554 := by have := sputL_length l; have := escL_length l; have := ha.1; omega
  have HL := Lib.hid (len_any A n c B l w ha hn)
  generalize (sputL l).length = z at hlen HL
  have hmk : ∀ W : World, (Instr.makeSlice 22 (.int .i64 0) (.int .i64 (z : Int))).run Tryd.prog W = .ok (.slice (some ⟨W.heap.size, 0, none⟩) 0 z) (W.alloc (.cells (bvs (List.replicate z 0)) 5)) := make_room (P := Tryd.prog) Tryd.underlying22 info_u8 z (by omega)
  go_enter Tryd.func64, Tryd.ntmps64
  go_wp2
  refine wp_scope_label 0 (fun a' w' => ∃ (k m : Nat) (v : Value), k ≤ n ∧ m = (escL (l.take k)).length ∧ Mine w' w.heap.size 5 v m (escL (l.take k)) ∧ Below w.heap.size w w' ∧ ∃ (u1 u2 u5 u6 u7 u8 u9 u10 u11 u12 u13 u14 u15 u16 u17 u18 u19 u20 u21 u22 u23 u24 u25 u26 u27 u28 u29 u30 u31 : Value), a' = { tmps := #[.slice A n c, u1, u2, v, .int .i64 (k : Int), u5, u6, u7, u8, u9, u10, u11, u12, u13, u14, u15, u16, u17, u18, u19, u20, u21, u22, u23, u24, u25, u26, u27, u28, u29, u30, u31], defers := [] }) (fun a' _ => n - (intOf (a'.tmps.getD 4 undef)).toNat) rfl ?_ ?_
  · intro HX
    go_wp2_with fail
    refine HL.out.mono ?_
    rintro e w' ⟨rfl, q, rfl⟩
    go_wp2
    go_step3
    rename_i K hK
    exact hK _ _ (HX.out _ _ ⟨0, 0, _, Nat.zero_le _, rfl, Mine.made _ _ _ _ (by unfold maxLen; omega) (by simp), (below_drewN (Below.refl _ _) q).alloc (by simp) _, _, _, _, _, _, _, _, _, _, _, _, _, _, _, _, _, _, _, _, _, _, _, _, _, _, _, _, _, _, rfl⟩)
  · clear hmk HL hlen
    rintro a' wr ⟨k, m, v, hk, hm, hmine, hbel, u1, u2, u5, u6, u7, u8, u9, u10, u11, u12, u13, u14, u15, u16, u17, u18, u19, u20, u21, u22, u23, u24, u25, u26, u27, u28, u29, u30, u31, rfl⟩
    have hm2 : m ≤ 2 * k := by rw [hm]; exact escL_take_le l k
    have hsz := hbel.size
    have HMI := Lib.hid hmine
    have HW := Lib.hid hbel
    have HM := Lib.hid hm
    have HA := Lib.hid (ha.more hB)
    clear hmine hbel hm
    by_cases h1 : k = n
    · subst h1
      go_wp2_with (
        at_builtin
        refine wpList_append_byt _ rfl (.tmp 12) (.tmp 13) _ rfl Tryd.underlying22 info_u8 w.heap.size _ m _ rfl (HMI.out.alloc _) (wr.heap.size + 1) (some ⟨wr.heap.size, 0, none⟩) 2 2 [0, 0] rfl (byt_two wr _ 0 0 rfl rfl) (by omega) (by simp; omega) ?_
        intro v1 w1 hm1 hg1 _
        have HM1 := Lib.hid hm1
        have HB1 := Lib.hid ((HW.out.alloc hsz _).grown hg1 (by simp; omega) (fun j hj => (HMI.out.lt j hj).1))
        clear hm1 hg1)
      simp only [Exit.jump]
      go_ret
      exact SlPost.mine HM1.out (by rw [List.take_of_length_le (by have := HN.out; omega)]; rfl) HB1.out
    · obtain ⟨ad, u, rfl, hu1, hu2, hu3⟩ := (HA.out.below HW.out).at_ (k := k) (by omega)
      have HU := Lib.hid hu2
      clear hu2
      have e1 : ((k : Int) == n) = false := by rw [beq_eq_false_iff_ne]; omega
      by_cases h2 : u = 0
      · subst h2
        go_wp2_with (first
          | (at_builtin
             refine wpList_append_byt _ rfl (.tmp 15) (.tmp 20) _ rfl Tryd.underlying22 info_u8 w.heap.size _ m _ rfl (HMI.out.alloc _) (wr.heap.size + 1) (some ⟨wr.heap.size, 0, none⟩) 1 1 [0] rfl (byt_one wr _ rfl) (by omega) (by simp; omega) ?_
             intro v1 w1 hm1 hg1 _
             have HM1 := Lib.hid hm1
             have HB1 := Lib.hid ((HW.out.alloc hsz _).grown hg1 (by simp; omega) (fun j hj => (HMI.out.lt j hj).1))
             have hs1 := HB1.out.size
             have hc1 : w1.cell? (ad.add k) = some (.int .u8 0) := by
               obtain ⟨ad', u', q1, _, q2, q3⟩ := (HA.out.below HB1.out).at_ (k := k) (by omega)
               injection q1 with q1
               subst q1
               rw [HU.out] at q2
               injection q2 with q2
               subst q2
               exact q3
             clear hm1 hg1)
          | (at_builtin
             refine wpList_append_byt _ rfl (.tmp 27) (.tmp 28) _ rfl Tryd.underlying22 info_u8 w.heap.size _ (m + 1) _ rfl (HM1.out.alloc _) (w1.heap.size + 1) (some ⟨w1.heap.size, 0, none⟩) 1 1 [255] rfl (byt_one w1 _ rfl) (by omega) (by simp; omega) ?_
             intro v2 w2 hm2 hg2 _
             have HM2 := Lib.hid hm2
             have HB2 := Lib.hid ((HB1.out.alloc hs1 _).grown hg2 (by simp; omega) (fun j hj => (HM1.out.lt j hj).1))
             clear hm2 hg2))
        go_step3
        refine ⟨rfl, ⟨k + 1, m + 1 + 1, _, by omega, by rw [← escL_zero HU.out, HM.out]; simp, ?_, HB2.out, _, _, _, _, _, _, _, _, _, _, _, _, _, _, _, _, _, _, _, _, _, _, _, _, _, _, _, _, _, rfl⟩, by simp [intOf]; omega⟩
        rw [← escL_zero HU.out]
        exact HM2.out
      · have e2 : ((u.toNat : Int) == 0) = false := ne0 h2
        go_wp2_with (
          at_builtin
          refine wpList_append_byt _ rfl (.tmp 15) (.tmp 20) _ rfl Tryd.underlying22 info_u8 w.heap.size _ m _ rfl (HMI.out.alloc _) (wr.heap.size + 1) (some ⟨wr.heap.size, 0, none⟩) 1 1 [u] rfl (byt_one wr _ rfl) (by omega) (by simp; omega) ?_
          intro v1 w1 hm1 hg1 _
          have HM1 := Lib.hid hm1
          have HB1 := Lib.hid ((HW.out.alloc hsz _).grown hg1 (by simp; omega) (fun j hj => (HMI.out.lt j hj).1))
          have hc1 : w1.cell? (ad.add k) = some (.int .u8 (u.toNat : Int)) := by
            obtain ⟨ad', u', q1, _, q2, q3⟩ := (HA.out.below HB1.out).at_ (k := k) (by omega)
            injection q1 with q1
            subst q1
            rw [HU.out] at q2
            injection q2 with q2
            subst q2
            exact q3
          clear hm1 hg1)
        go_step3
        refine ⟨rfl, ⟨k + 1, m + 1, _, by omega, by rw [← escL_plain HU.out h2, HM.out]; simp, ?_, HB1.out, _, _, _, _, _, _, _, _, _, _, _, _, _, _, _, _, _, _, _, _, _, _, _, _, _, _, _, _, _, rfl⟩, by simp [intOf]; omega⟩
        rw [← escL_plain HU.out h2]
        exact HM1.out
end Go.Proofs.YtofccfbiappgaaaDoor

namespace Go.Proofs.YtofccfbiappgaaaDoor
open Go.RowKit

set_option maxRecDepth 100000 in
set_option maxHeartbeats 1000000 in
theorem rsput_any (A : Option Addr) (n c B : Nat) (l : List UInt8) (w : World) (ha : Byt w B A n l) (hB : B ≤ w.heap.size) (hn : n ≤ 1099511627776) :
    Calls Tryd.prog 57 #[.slice A n c] w (SlPost w (sputL l)) := by
  have HN := Lib.hid ha.1
  go_enter Tryd.func57, Tryd.ntmps57
  go_wp2
  go_loopw [3, 4] (fun v i wr => ∃ (k m : Nat), k ≤ n ∧ i = .int .i64 k ∧ m = (escL (l.take k)).length ∧ Mine wr w.heap.size 5 v m (escL (l.take k)) ∧ Below w.heap.size w wr) (fun _ i _ => n - (intOf i).toNat)
  case atStart => exact ⟨0, 0, Nat.zero_le _, rfl, rfl, Mine.nil _ _ _, Below.refl _ _⟩
  case round =>
    obtain ⟨k, m, hk, rfl, hm, hmine, hbel⟩ := hrel
    have hm2 : m ≤ 2 * k := by rw [hm]; exact escL_take_le l k
    have hsz := hbel.size
    have HMI := Lib.hid hmine
    have HW := Lib.hid hbel
    have HM := Lib.hid hm
    have HA := Lib.hid (ha.more hB)
    clear hmine hbel hm
    by_cases h1 : k < n
    · obtain ⟨ad, u, rfl, hu1, hu2, hu3⟩ := (HA.out.below HW.out).at_ (k := k) (by omega)
      have HU := Lib.hid hu2
      clear hu2
      by_cases h2 : u = 0
      · subst h2
        go_wp2_with (first
          | (at_builtin
             refine wpList_append_byt _ rfl (.tmp 11) (.tmp 16) _ rfl Tryd.underlying22 info_u8 w.heap.size _ m _ rfl (HMI.out.alloc _) (wr.heap.size + 1) (some ⟨wr.heap.size, 0, none⟩) 1 1 [0] rfl (byt_one wr _ rfl) (by omega) (by simp; omega) ?_
             intro v1 w1 hm1 hg1 _
             have HM1 := Lib.hid hm1
             have HB1 := Lib.hid ((HW.out.alloc hsz _).grown hg1 (by simp; omega) (fun j hj => (HMI.out.lt j hj).1))
             have hs1 := HB1.out.size
             have hc1 : w1.cell? (ad.add k) = some (.int .u8 0) := by
               obtain ⟨ad', u', q1, _, q2, q3⟩ := (HA.out.below HB1.out).at_ (k := k) (by omega)
               injection q1 with q1
               subst q1
               rw [HU.out] at q2
               injection q2 with q2
               subst q2
               exact q3
             clear hm1 hg1)
          | (at_builtin
             refine wpList_append_byt _ rfl (.tmp 23) (.tmp 24) _ rfl Tryd.underlying22 info_u8 w.heap.size _ (m + 1) _ rfl (HM1.out.alloc _) (w1.heap.size + 1) (some ⟨w1.heap.size, 0, none⟩) 1 1 [255] rfl (byt_one w1 _ rfl) (by omega) (by simp; omega) ?_
             intro v2 w2 hm2 hg2 _
             have HM2 := Lib.hid hm2
             have HB2 := Lib.hid ((HB1.out.alloc hs1 _).grown hg2 (by simp; omega) (fun j hj => (HM1.out.lt j hj).1))
             have hs2 := HB2.out.size
             clear hm2 hg2))
        refine ⟨⟨k + 1, m + 1 + 1, by omega, by go_num, by rw [← escL_zero HU.out, HM.out]; simp, ?_, HB2.out⟩, by simp [intOf]; omega⟩
        rw [← escL_zero HU.out]
        exact HM2.out
      · have e2 : ((u.toNat : Int) == 0) = false := ne0 h2
        go_wp2_with (
          at_builtin
          refine wpList_append_byt _ rfl (.tmp 11) (.tmp 16) _ rfl Tryd.underlying22 info_u8 w.heap.size _ m _ rfl (HMI.out.alloc _) (wr.heap.size + 1) (some ⟨wr.heap.size, 0, none⟩) 1 1 [u] rfl (byt_one wr _ rfl) (by omega) (by simp; omega) ?_
          intro v1 w1 hm1 hg1 _
          have HM1 := Lib.hid hm1
          have HB1 := Lib.hid ((HW.out.alloc hsz _).grown hg1 (by simp; omega) (fun j hj => (HMI.out.lt j hj).1))
          have hs1 := HB1.out.size
          have hc1 : w1.cell? (ad.add k) = some (.int .u8 (u.toNat : Int)) := by
            obtain ⟨ad', u', q1, _, q2, q3⟩ := (HA.out.below HB1.out).at_ (k := k) (by omega)
            injection q1 with q1
            subst q1
            rw [HU.out] at q2
            injection q2 with q2
            subst q2
            exact q3
          clear hm1 hg1)
        refine ⟨⟨k + 1, m + 1, by omega, by go_num, by rw [← escL_plain HU.out h2, HM.out]; simp, ?_, HB1.out⟩, by simp [intOf]; omega⟩
        rw [← escL_plain HU.out h2]
        exact HM1.out
    · obtain rfl : k = n := by omega
      go_wp2_with (
        at_builtin
        refine wpList_append_byt _ rfl (.tmp 26) (.tmp 27) _ rfl Tryd.underlying22 info_u8 w.heap.size _ m _ rfl (HMI.out.alloc _) (wr.heap.size + 1) (some ⟨wr.heap.size, 0, none⟩) 2 2 [0, 0] rfl (byt_two wr _ 0 0 rfl rfl) (by omega) (by simp; omega) ?_
        intro v1 w1 hm1 hg1 _
        have HM1 := Lib.hid hm1
        have HB1 := Lib.hid ((HW.out.alloc hsz _).grown hg1 (by simp; omega) (fun j hj => (HMI.out.lt j hj).1))
        have hs1 := HB1.out.size
        clear hm1 hg1)
      go_ret
      exact SlPost.mine HM1.out (by rw [List.take_of_length_le (by have := HN.out; omega)]; rfl) HB1.out

/-- The row that Other fills, behind k bytes. -/
def rowO (l : List UInt8) (n k : Nat) : List UInt8 := othL (l.take k) ++ List.replicate (n - k) 0
theorem rowO_at {l : List UInt8} {n k : Nat} (hn : l.length = n) (hk : k < n) : (rowO l n k)[k]? = some 0 := by
  unfold rowO
  have e : (othL (l.take k)).length = k := by rw [othL_length, List.length_take]; omega
  rw [List.getElem?_append_right (by omega), e, List.getElem?_replicate, if_pos (by omega)]
theorem rowO_step {l : List UInt8} {n k : Nat} {u : UInt8} (hn : l.length = n) (hu : l[k]? = some u) : (rowO l n k).set k (255 - u) = rowO l n (k + 1) := by
  obtain ⟨hk, rfl⟩ := List.getElem?_eq_some_iff.1 hu
  have e : (othL (l.take k)).length = k := by rw [othL_length, List.length_take]; omega
  unfold rowO
  obtain ⟨m, hm⟩ : ∃ m, n - k = m + 1 := ⟨n - k - 1, by omega⟩
  rw [hm, show n - (k + 1) = m from by omega, List.replicate_succ, List.set_append_right _ _ (by omega), e, Nat.sub_self, List.set_cons_zero, List.take_succ_eq_append_getElem hk]
  simp only [othL, List.map_append, List.map_cons, List.map_nil, List.append_assoc, List.cons_append, List.nil_append]
theorem rowO_end {l : List UInt8} {n : Nat} (hn : l.length = n) : rowO l n n = othL l := by
  unfold rowO; rw [Nat.sub_self, List.replicate_zero, List.append_nil, List.take_of_length_le (by omega)]
theorem row_oth {wr : World} {g k n : Nat} {e : TypeId} {l : List UInt8} {u : UInt8} {z : Int} (h : Row wr g e (rowO l n k)) (hn : l.length = n) (hu : l[k]? = some u) (hz : z = ((255 - u).toNat : Int)) :
    Row (wr.setCell ⟨g, k, none⟩ (.int .u8 z)) g e (rowO l n (k + 1)) := by
  subst hz
  rw [← rowO_step hn hu]
  exact h.set_ k (255 - u)
theorem oth_int (u : UInt8) : (255 - (u.toNat : Int)) = ((255 - u).toNat : Int) := by
  have := u.toNat_lt
  rw [oth_toNat]; omega

set_option maxRecDepth 100000 in
set_option maxHeartbeats 1000000 in
theorem oth_any (A : Option Addr) (n c B : Nat) (l : List UInt8) (w : World) (ha : Byt w B A n l) (hB : B ≤ w.heap.size) (hn : n ≤ 1099511627776) :
    Calls Tryd.prog 53 #[.slice A n c] w (SlPost w (othL l)) := by
  have HN := Lib.hid ha.1
  have hmk : ∀ W : World, (Instr.makeSlice 22 (.int .i64 (n : Int)) (.int .i64 (n : Int))).run Tryd.prog W = .ok (.slice (some ⟨W.heap.size, 0, none⟩) n n) (W.alloc (.cells (bvs (List.replicate n 0)) 5)) := make_bytes (P := Tryd.prog) Tryd.underlying22 info_u8 n (by omega)
  go_enter Tryd.func53, Tryd.ntmps53
  go_wp2
  go_loopw [11] (fun i wr => ∃ k : Nat, k ≤ n ∧ i = .int .i64 k ∧ Row wr w.heap.size 5 (rowO l n k) ∧ Below w.heap.size w wr) (fun i _ => n - (intOf i).toNat)
  case atStart => exact ⟨0, Nat.zero_le _, rfl, by simpa [rowO, othL] using Row.new w 5 (List.replicate n 0), (Below.refl _ _).alloc (Nat.le_refl _) _⟩
  case round =>
    clear hmk
    obtain ⟨k, hk, rfl, hrow, hbel⟩ := hrel
    by_cases h1 : k < n
    · obtain ⟨ad, u, rfl, hu1, hu2, hu3⟩ := ((ha.more hB).below hbel).at_ h1
      have HU := Lib.hid hu2
      clear hu2
      have hu : (u.toNat : Int) ≤ 255 := by have := u.toNat_lt; omega
      have hc1 := hrow.cell (rowO_at HN.out h1)
      have hf1 := hrow.frozen k
      have HR := Lib.hid hrow
      have HB := Lib.hid hbel
      clear hrow hbel
      go_wp2
      exact ⟨⟨k + 1, by omega, by go_num, row_oth HR.out HN.out HU.out (by first | exact oth_int u | (rw [← oth_int u]; omega)), HB.out.setCell (Nat.le_refl _) _⟩, by simp [intOf]; omega⟩
    · obtain rfl : k = n := by omega
      have HR := Lib.hid hrow
      have HB := Lib.hid hbel
      clear hrow hbel
      go_wp2
      go_ret
      exact SlPost.row HR.out (rowO_end HN.out) (by rw [rowO_end HN.out, othL_length]; exact HN.out) (by unfold maxLen; omega) HB.out

set_option maxRecDepth 100000 in
set_option maxHeartbeats 1000000 in
theorem roth_any (A : Option Addr) (n c B : Nat) (l : List UInt8) (w : World) (ha : Byt w B A n l) (hB : B ≤ w.heap.size) (hn : n ≤ 1099511627776) :
    Calls Tryd.prog 49 #[.slice A n c] w (SlPost w (othL l)) := by
  have HN := Lib.hid ha.1
  have hmk : ∀ W : World, (Instr.makeSlice 22 (.int .i64 (n : Int)) (.int .i64 (n : Int))).run Tryd.prog W = .ok (.slice (some ⟨W.heap.size, 0, none⟩) n n) (W.alloc (.cells (bvs (List.replicate n 0)) 5)) := make_bytes (P := Tryd.prog) Tryd.underlying22 info_u8 n (by omega)
  go_enter Tryd.func49, Tryd.ntmps49
  go_wp2
  go_loopw [4] (fun i wr => ∃ k : Nat, k ≤ n ∧ i = .int .i64 k ∧ Row wr w.heap.size 5 (rowO l n k) ∧ Below w.heap.size w wr) (fun i _ => n - (intOf i).toNat)
  case atStart => exact ⟨0, Nat.zero_le _, rfl, by simpa [rowO, othL] using Row.new w 5 (List.replicate n 0), (Below.refl _ _).alloc (Nat.le_refl _) _⟩
  case round =>
    clear hmk
    obtain ⟨k, hk, rfl, hrow, hbel⟩ := hrel
    by_cases h1 : k < n
    · obtain ⟨ad, u, rfl, hu1, hu2, hu3⟩ := ((ha.more hB).below hbel).at_ h1
      have HU := Lib.hid hu2
      clear hu2
      have hu : (u.toNat : Int) ≤ 255 := by have := u.toNat_lt; omega
      have hc1 := hrow.cell (rowO_at HN.out h1)
      have hf1 := hrow.frozen k
      have HR := Lib.hid hrow
      have HB := Lib.hid hbel
      clear hrow hbel
      go_wp2
      exact ⟨⟨k + 1, by omega, by go_num, row_oth HR.out HN.out HU.out (by first | exact oth_int u | (rw [← oth_int u]; omega)), HB.out.setCell (Nat.le_refl _) _⟩, by simp [intOf]; omega⟩
    · obtain rfl : k = n := by omega
      have HR := Lib.hid hrow
      have HB := Lib.hid hbel
      clear hrow hbel
      go_wp2
      go_ret
      exact SlPost.row HR.out (rowO_end HN.out) (by rw [rowO_end HN.out, othL_length]; exact HN.out) (by unfold maxLen; omega) HB.out
end Go.Proofs.YtofccfbiappgaaaDoor

namespace Go.Proofs.YtofccfbiappgaaaDoor
open Go.RowKit

/-- What Take leaves: the text, the others, and an error. -/
def STakePost (w : World) (t r : List UInt8) (er : Int) (e : Ending) (w' : World) : Prop :=
  ∃ A n c A' n' c', e = .returned (.tuple #[.slice A n c, .slice A' n' c', .int .i64 er]) ∧ Byt w' w'.heap.size A n t ∧ Byt w' w'.heap.size A' n' r ∧ n ≤ c ∧ n' ≤ c' ∧ Below w.heap.size w w'
theorem STakePost.none_ {w : World} {l : List UInt8} {e : Int} (h : scan l = .bad e) : STakePost w (scan l).T ((scan l).R l) (scan l).E (.returned (.tuple #[.slice none 0 0, .slice none 0 0, .int .i64 e])) w := by
  rw [h]
  exact ⟨_, _, _, _, _, _, rfl, Byt.none_, Byt.none_, Nat.le_refl _, Nat.le_refl _, Below.refl _ _⟩

/-- What the document's Take leaves: the text, how many bytes, and an error. -/
def RTakePost (w : World) (t : List UInt8) (z er : Int) (e : Ending) (w' : World) : Prop :=
  ∃ A n c, e = .returned (.tuple #[.slice A n c, .int .i64 z, .int .i64 er]) ∧ Byt w' w'.heap.size A n t ∧ Below w.heap.size w w' ∧ n ≤ c
theorem RTakePost.bad {w w' : World} {s : Scn} {e : Int} (h : s = .bad e) (hb : Below w.heap.size w w') : RTakePost w s.T s.N s.E (.returned (.tuple #[.slice none 0 0, .int .i64 0, .int .i64 e])) w' := by
  subst h
  exact ⟨_, _, _, rfl, Byt.none_, hb, Nat.le_refl _⟩
theorem RTakePost.ok {w w' : World} {s : Scn} {o : List UInt8} {k m base : Nat} {e : TypeId} {v : Value} (h : s = .ok o (k + 2)) (hm : Mine w' base e v m o) (hb : Below w.heap.size w w') : RTakePost w s.T s.N s.E (.returned (.tuple #[v, .int .i64 ((k : Int) + 2), .int .i64 0])) w' := by
  subst h
  obtain ⟨A, c, rfl⟩ := hm.slice
  exact ⟨_, _, _, rfl, hm.byt, hb, hm.room⟩

end Go.Proofs.YtofccfbiappgaaaDoor
