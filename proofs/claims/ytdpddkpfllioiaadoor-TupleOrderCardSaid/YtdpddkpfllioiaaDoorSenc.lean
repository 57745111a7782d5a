/-
  What senc.size, Len, End and the document's Take answer.
-/
import Derived.Test.YtdpddkpfllioiaaDoorR1
import Derived.Test.YtdpddkpfllioiaaDoorCut
import Derived.Test.YtdpddkpfllioiaaDoorSencPure
import Derived.Test.YtdpddkpfllioiaaDoorJump
namespace Go.Proofs.YtdpddkpfllioiaaDoor
open Go.RowKit

def sizN (u : UInt8) : Nat := if u = 0 then 2 else 1
theorem u0_yes {u : UInt8} (h : ((u.toNat : Int) == 0) = true) : u = 0 := UInt8.toNat_inj.1 (by simp at h; simpa using h)
theorem u0_no {u : UInt8} (h : ((u.toNat : Int) == 0) = false) : u ≠ 0 := fun e => by subst e; simp at h
theorem ne0 {u : UInt8} (h : u ≠ 0) : ((u.toNat : Int) == 0) = false := by have := pos_of_ne h; rw [beq_eq_false_iff_ne]; omega
theorem bne0 {u : UInt8} (h : u ≠ 0) : ((u.toNat : Int) != 0) = true := by have := pos_of_ne h; rw [bne_iff_ne]; omega
theorem ne255 {u : UInt8} (h : u ≠ 255) : ((u.toNat : Int) == 255) = false := by
  rw [beq_eq_false_iff_ne]
  exact fun q => h (UInt8.toNat_inj.1 (by show u.toNat = 255; omega))

set_option maxHeartbeats 400000 in
theorem size_any (u : UInt8) (w : World) : Calls Tryd.prog 102 #[.int .u8 (u.toNat : Int)] w fun e w' => e = .returned (.int .i64 (sizN u : Int)) ∧ w = w' := by
  by_cases h : u = 0
  · subst h
    go_enter Tryd.func102, Tryd.ntmps102
    go_wp2
    go_ret
    exact ⟨rfl, rfl⟩
  · have h1 : ((u.toNat : Int) == 0) = false := ne0 h
    have hs : (1 : Int) = (sizN u : Int) := by simp [sizN, h]
    go_enter Tryd.func102, Tryd.ntmps102
    go_wp2
    go_ret
    exact ⟨ret_int hs, rfl⟩
theorem size_0 (w : World) : Calls Tryd.prog 102 #[.int .u8 0] w fun e w' => e = .returned (.int .i64 2) ∧ w = w' := size_any 0 w

theorem ret_ii {a b a' b' : Int} (h : a = a') (h' : b = b') : Ending.returned (.tuple #[.int .i64 a, .int .i64 b]) = .returned (.tuple #[.int .i64 a', .int .i64 b']) := by rw [h, h']
theorem ret_bad {s : Scn} {e : Int} (h : s = .bad e) : Ending.returned (.tuple #[.int .i64 0, .int .i64 e]) = .returned (.tuple #[.int .i64 (s.N : Int), .int .i64 s.E]) := by rw [h]; rfl
theorem ret_good {s : Scn} {t : List UInt8} {k : Nat} (h : s = .ok t (k + 2)) : Ending.returned (.tuple #[.int .i64 ((k : Int) + 2), .int .i64 0]) = .returned (.tuple #[.int .i64 (s.N : Int), .int .i64 s.E]) := by rw [h]; rfl

set_option maxHeartbeats 400000 in
theorem end_any (A : Option Addr) (n c B : Nat) (l : List UInt8) (w : World) (ha : Byt w B A n l) :
    Calls Tryd.prog 105 #[.slice A n c] w fun e w' => e = .returned (.tuple #[.int .i64 ((scan l).N : Int), .int .i64 (scan l).E]) ∧ w = w' := by
  have na : n ≤ 9223372036854775807 := by have := ha.2.1; unfold maxLen at this; omega
  have HN := Lib.hid ha.1
  go_enter Tryd.func105, Tryd.ntmps105
  go_wp2
  refine wp_scope_label 0 (fun a' w' => ∃ (k : Nat) (o : List UInt8), k ≤ n ∧ At l o k ∧ w = w' ∧ ∃ (u1 u2 u3 u5 u6 u7 u8 u9 u10 u11 u12 u13 u14 u15 u16 u17 u18 u19 u20 u21 u22 u23 u24 u25 u26 u27 u28 u29 u30 u31 u32 u33 u34 : Value), a' = { tmps := #[.slice A n c, u1, u2, u3, .int .i64 (k : Int), u5, u6, u7, u8, u9, u10, u11, u12, u13, u14, u15, u16, u17, u18, u19, u20, u21, u22, u23, u24, u25, u26, u27, u28, u29, u30, u31, u32, u33, u34], defers := [] }) (fun a' _ => n - (intOf (a'.tmps.getD 4 undef)).toNat) rfl ?_ ?_
  · intro HX
    go_wp2
    go_step3
    rename_i K hK
    exact hK _ _ (HX.out _ _ ⟨0, [], Nat.zero_le _, At.start l, rfl, _, _, _, _, _, _, _, _, _, _, _, _, _, _, _, _, _, _, _, _, _, _, _, _, _, _, _, _, _, _, _, _, _, rfl⟩)
  · rintro a' w' ⟨k, o, hk, hat, rfl, u1, u2, u3, u5, u6, u7, u8, u9, u10, u11, u12, u13, u14, u15, u16, u17, u18, u19, u20, u21, u22, u23, u24, u25, u26, u27, u28, u29, u30, u31, u32, u33, u34, rfl⟩
    have HA := Lib.hid hat
    clear hat
    by_cases h1 : k = n
    · subst h1
      go_wp2
      simp only [Exit.jump]
      go_ret2
      exact ⟨ret_bad (HA.out.none_ (Nat.le_of_eq HN.out)), rfl⟩
    · obtain ⟨ad, u, rfl, hu1, hu2, hu3⟩ := ha.at_ (k := k) (by omega)
      have HU := Lib.hid hu2
      clear hu2
      have e1 : ((k : Int) == n) = false := by rw [beq_eq_false_iff_ne]; omega
      by_cases h2 : u = 0
      · subst h2
        by_cases h3 : k + 1 = n
        · have e2 : ((k : Int) + 1 == n) = true := by rw [beq_iff_eq]; omega
          go_wp2
          simp only [Exit.jump]
          go_ret2
          exact ⟨ret_bad (HA.out.half HU.out (by have := HN.out; omega)), rfl⟩
        · have e2 : ((k : Int) + 1 == n) = false := by rw [beq_eq_false_iff_ne]; omega
          obtain ⟨ad', v, hq, hv1, hv2, hv3⟩ := ha.at_ (k := k + 1) (by omega)
          injection hq with hq
          subst hq
          have HV := Lib.hid hv2
          have hv4 : w.cell? ⟨ad.block, ad.off + (k + 1), none⟩ = some (.int .u8 (v.toNat : Int)) := hv3
          clear hv2 hv3
          by_cases h4 : v = 0
          · subst h4
            go_wp2
            simp only [Exit.jump]
            go_ret2
            exact ⟨ret_good (HA.out.done HU.out HV.out), rfl⟩
          · have e3 : ((v.toNat : Int) == 0) = false := ne0 h4
            by_cases h5 : v = 255
            · subst h5
              go_wp2_with (go_at_call 102; refine (size_0 _).mono ?_; rintro e w' ⟨rfl, rfl⟩)
              go_step3
              exact ⟨rfl, ⟨k + 2, _, by omega, HA.out.two HU.out HV.out, rfl, _, _, _, _, _, _, _, _, _, _, _, _, _, _, _, _, _, _, _, _, _, _, _, _, _, _, _, _, _, _, _, _, _, rfl⟩, by simp [intOf]; omega⟩
            · have e4 : ((v.toNat : Int) == 255) = false := ne255 h5
              go_wp2
              simp only [Exit.jump]
              go_ret2
              exact ⟨ret_bad (HA.out.form HU.out HV.out h4 h5), rfl⟩
      · have e2 : ((u.toNat : Int) != 0) = true := bne0 h2
        go_wp2
        go_step3
        exact ⟨rfl, ⟨k + 1, _, by omega, HA.out.one HU.out h2, rfl, _, _, _, _, _, _, _, _, _, _, _, _, _, _, _, _, _, _, _, _, _, _, _, _, _, _, _, _, _, _, _, _, _, rfl⟩, by simp [intOf]; omega⟩

theorem escL_siz {l : List UInt8} {k : Nat} {u : UInt8} (h : l[k]? = some u) : (escL (l.take (k + 1))).length = (escL (l.take k)).length + sizN u := by
  rw [escL_snoc h, List.length_append]; unfold sizN; split <;> rfl
theorem sizN_le (u : UInt8) : sizN u ≤ 2 := by unfold sizN; split <;> omega
theorem escL_take_le (l : List UInt8) (k : Nat) : (escL (l.take k)).length ≤ 2 * k := by
  have := escL_length (l.take k)
  simp only [List.length_take] at this
  omega

set_option maxHeartbeats 400000 in
theorem len_any (A : Option Addr) (n c B : Nat) (l : List UInt8) (w : World) (ha : Byt w B A n l) (hn : n ≤ 1099511627776) :
    Calls Tryd.prog 80 #[.slice A n c] w fun e w' => e = .returned (.int .i64 ((sputL l).length : Int)) ∧ Still w w' := by
  have HN := Lib.hid ha.1
  go_enter Tryd.func80, Tryd.ntmps80
  go_wp2
  go_loopw [3, 8] (fun s i wr => ∃ (k m : Nat), k ≤ n ∧ i = .int .i64 k ∧ s = .int .i64 ((m : Int) + 2) ∧ m = (escL (l.take k)).length ∧ Still w wr) (fun _ i _ => n - (intOf i).toNat)
  case atStart => exact ⟨0, 0, Nat.zero_le _, rfl, rfl, rfl, Still.refl _⟩
  case round =>
    obtain ⟨k, m, hk, rfl, rfl, hm, q, rfl⟩ := hrel
    have HM := Lib.hid hm
    have hm2 : m ≤ 2 * k := by rw [hm]; exact escL_take_le l k
    clear hm
    by_cases h1 : k < n
    · obtain ⟨ad, u, rfl, hu1, hu2, hu3⟩ := ha.at_ h1
      have HU := Lib.hid hu2
      clear hu2
      have hz := sizN_le u
      go_wp2_with (go_at_call 102; refine (size_any u _).mono ?_; rintro e w' ⟨rfl, rfl⟩)
      exact ⟨⟨k + 1, m + sizN u, by omega, by go_num, by go_num, by rw [escL_siz HU.out, HM.out], (by repeat (first | exact Still.refl _ | apply Still.step))⟩, by simp [intOf]; omega⟩
    · go_wp2
      go_ret
      exact ⟨ret_int (by rw [sputL_length, HM.out, List.take_of_length_le (by have := HN.out; omega)]; rfl), (by repeat (first | exact Still.refl _ | apply Still.step))⟩

set_option maxHeartbeats 1000000 in
theorem sput_any (A : Option Addr) (n c B : Nat) (l : List UInt8) (w : World) (ha : Byt w B A n l) (hB : B ≤ w.heap.size) (hn : n ≤ 1099511627776) :
    Calls Tryd.prog 60 #[.slice A n c] w (SlPost w (sputL l)) := by
  have HN := Lib.hid ha.1
  have hlen : (sputL l).length ≤ 2199023255554 := by have := sputL_length l; have := escL_length l; have := ha.1; omega
  have HL := Lib.hid (len_any A n c B l w ha hn)
  generalize (sputL l).length = z at hlen HL
  have hmk : ∀ W : World, (Instr.makeSlice 26 (.int .i64 0) (.int .i64 (z : Int))).run Tryd.prog W = .ok (.slice (some ⟨W.heap.size, 0, none⟩) 0 z) (W.alloc (.cells (bvs (List.replicate z 0)) 5)) := make_room (P := Tryd.prog) Tryd.underlying26 info_u8 z (by omega)
  go_enter Tryd.func60, Tryd.ntmps60
  go_wp2
  refine wp_scope_label 0 (fun a' w' => ∃ (k m : Nat) (v : Value), k ≤ n ∧ m = (escL (l.take k)).length ∧ Mine w' w.heap.size 5 v m (escL (l.take k)) ∧ Below w.heap.size w w' ∧ ∃ (u1 u2 u5 u6 u7 u8 u9 u10 u11 u12 u13 u14 u15 u16 u17 u18 u19 u20 u21 u22 u23 u24 u25 u26 u27 u28 u29 u30 u31 : Value), a' = { tmps := #[.slice A n c, u1, u2, v, .int .i64 (k : Int), u5, u6, u7, u8, u9, u10, u11, u12, u13, u14, u15, u16, u17, u18, u19, u20, u21, u22, u23, u24, u25, u26, u27, u28, u29, u30, u31], defers := [] }) (fun a' _ => n - (intOf (a'.tmps.getD 4 undef)).toNat) rfl ?_ ?_
  · intro HX
    go_wp2_with fail
    refine HL.out.mono ?_
    rintro e w' ⟨rfl, q, rfl⟩
    go_wp2
    go_step3
    rename_i K hK
    exact hK _ _ (HX.out _ _ ⟨0, 0, _, Nat.zero_le _, rfl, Mine.made _ _ _ _ (by unfold maxLen; omega) (by simp), (below_drewN (Below.refl _ _) q).alloc (by simp) _, _, _, _, _, _, _, _, _, _, _, _, _, _, _, _, _, _, _, _, _, _, _, _, _, _, _, _, _, _, rfl⟩)
  · clear hmk HL hlen
    rintro a' wr ⟨k, m, v, hk, hm, hmine, hbel, u1, u2, u5, u6, u7, u8, u9, u10, u11, u12, u13, u14, u15, u16, u17, u18, u19, u20, u21, u22, u23, u24, u25, u26, u27, u28, u29, u30, u31, rfl⟩
    have hm2 : m ≤ 2 * k := by rw [hm]; exact escL_take_le l k
    have hsz := hbel.size
    have HMI := Lib.hid hmine
    have HW := Lib.hid hbel
    have HM := Lib.hid hm
    have HA := Lib.hid (ha.more hB)
    clear hmine hbel hm
    by_cases h1 : k = n
    · subst h1
      go_wp2_with (
        at_builtin
        refine wpList_append_byt _ rfl (.tmp 12) (.tmp 13) _ rfl Tryd.underlying26 info_u8 w.heap.size _ m _ rfl (HMI.out.alloc _) (wr.heap.size + 1) (some ⟨wr.heap.size, 0, none⟩) 2 2 [0, 0] rfl (byt_two wr _ 0 0 rfl rfl) (by omega) (by simp; omega) ?_
        intro v1 w1 hm1 hg1 _
        have HM1 := Lib.hid hm1
        have HB1 := Lib.hid ((HW.out.alloc hsz _).grown hg1 (by simp; omega) (fun j hj => (HMI.out.lt j hj).1))
        clear hm1 hg1)
      simp only [Exit.jump]
      go_ret
      exact SlPost.mine HM1.out (by rw [List.take_of_length_le (by have := HN.out; omega)]; rfl) HB1.out
    · obtain ⟨ad, u, rfl, hu1, hu2, hu3⟩ := (HA.out.below HW.out).at_ (k := k) (by omega)
      have HU := Lib.hid hu2
      clear hu2
      have e1 : ((k : Int) == n) = false := by rw [beq_eq_false_iff_ne]; omega
      by_cases h2 : u = 0
      · subst h2
        go_wp2_with (first
          | (at_builtin
             refine wpList_append_byt _ rfl (.tmp 15) (.tmp 20) _ rfl Tryd.underlying26 info_u8 w.heap.size _ m _ rfl (HMI.out.alloc _) (wr.heap.size + 1) (some ⟨wr.heap.size, 0, none⟩) 1 1 [0] rfl (byt_one wr _ rfl) (by omega) (by simp; omega) ?_
             intro v1 w1 hm1 hg1 _
             have HM1 := Lib.hid hm1
             have HB1 := Lib.hid ((HW.out.alloc hsz _).grown hg1 (by simp; omega) (fun j hj => (HMI.out.lt j hj).1))
             have hs1 := HB1.out.size
             have hc1 : w1.cell? (ad.add k) = some (.int .u8 0) := by
               obtain ⟨ad', u', q1, _, q2, q3⟩ := (HA.out.below HB1.out).at_ (k := k) (by omega)
               injection q1 with q1
               subst q1
               rw [HU.out] at q2
               injection q2 with q2
               subst q2
               exact q3
             clear hm1 hg1)
          | (at_builtin
             refine wpList_append_byt _ rfl (.tmp 27) (.tmp 28) _ rfl Tryd.underlying26 info_u8 w.heap.size _ (m + 1) _ rfl (HM1.out.alloc _) (w1.heap.size + 1) (some ⟨w1.heap.size, 0, none⟩) 1 1 [255] rfl (byt_one w1 _ rfl) (by omega) (by simp; omega) ?_
             intro v2 w2 hm2 hg2 _
             have HM2 := Lib.hid hm2
             have HB2 := Lib.hid ((HB1.out.alloc hs1 _).grown hg2 (by simp; omega) (fun j hj => (HM1.out.lt j hj).1))
             clear hm2 hg2))
        go_step3
        refine ⟨rfl, ⟨k + 1, m + 1 + 1, _, by omega, by rw [← escL_zero HU.out, HM.out]; simp, ?_, HB2.out, _, _, _, _, _, _, _, _, _, _, _, _, _, _, _, _, _, _, _, _, _, _, _, _, _, _, _, _, _, rfl⟩, by simp [intOf]; omega⟩
        rw [← escL_zero HU.out]
        exact HM2.out
      · have e2 : ((u.toNat : Int) == 0) = false := ne0 h2
        go_wp2_with (
          at_builtin
          refine wpList_append_byt _ rfl (.tmp 15) (.tmp 20) _ rfl Tryd.underlying26 info_u8 w.heap.size _ m _ rfl (HMI.out.alloc _) (wr.heap.size + 1) (some ⟨wr.heap.size, 0, none⟩) 1 1 [u] rfl (byt_one wr _ rfl) (by omega) (by simp; omega) ?_
          intro v1 w1 hm1 hg1 _
          have HM1 := Lib.hid hm1
          have HB1 := Lib.hid ((HW.out.alloc hsz _).grown hg1 (by simp; omega) (fun j hj => (HMI.out.lt j hj).1))
          have hc1 : w1.cell? (ad.add k) = some (.int .u8 (u.toNat : Int)) := by
            obtain ⟨ad', u', q1, _, q2, q3⟩ := (HA.out.below HB1.out).at_ (k := k) (by omega)
            injection q1 with q1
            subst q1
            rw [HU.out] at q2
            injection q2 with q2
            subst q2
            exact q3
          clear hm1 hg1)
        go_step3
        refine ⟨rfl, ⟨k + 1, m + 1, _, by omega, by rw [← escL_plain HU.out h2, HM.out]; simp, ?_, HB1.out, _, _, _, _, _, _, _, _, _, _, _, _, _, _, _, _, _, _, _, _, _, _, _, _, _, _, _, _, _, rfl⟩, by simp [intOf]; omega⟩
        rw [← escL_plain HU.out h2]
        exact HM1.out
end Go.Proofs.YtdpddkpfllioiaaDoor
