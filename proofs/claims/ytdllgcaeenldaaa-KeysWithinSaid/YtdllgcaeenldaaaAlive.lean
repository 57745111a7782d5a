/-
  The calls at each statement's end (alive), and far.
-/
import Derived.Test.YtdllgcaeenldaaaParse
namespace Go.Proofs.Ytdllgcaeenldaaa
open Go.RowKit

def farB (vs : List (Option Addr × Nat × Nat)) : Bool := vs.any fun v => decide (300 < v.2.1)
theorem far_yes {vs : List (Option Addr × Nat × Nat)} {k : Nat} {v : Option Addr × Nat × Nat} (h : vs[k]? = some v) (hv : 300 < v.2.1) : true = farB vs := by
  symm
  unfold farB
  rw [List.any_eq_true]
  exact ⟨v, List.mem_of_getElem? h, by simpa using hv⟩
theorem far_no {vs : List (Option Addr × Nat × Nat)} (h : ∀ (j : Nat) (v : Option Addr × Nat × Nat), vs[j]? = some v → v.2.1 ≤ 300) : false = farB vs := by
  symm
  unfold farB
  rw [List.any_eq_false]
  intro v hv
  obtain ⟨j, hj⟩ := List.getElem?_of_mem hv
  have := h j v hj
  simp; omega

set_option maxHeartbeats 400000 in
theorem far_any (g k c : Nat) (vs : List (Option Addr × Nat × Nat)) (w : World) (hl : vs.length = k) (hk : k ≤ 1000)
    (hc : ∀ (j : Nat) (v : Option Addr × Nat × Nat), vs[j]? = some v → w.cell? ⟨g, j, none⟩ = some (.slice v.1 v.2.1 v.2.2)) :
    Calls Try.prog 7 #[.slice (some ⟨g, 0, none⟩) k c] w fun e w' => e = .returned (.bool (farB vs)) ∧ w = w' := by
  have HC := Lib.hid hc
  have HL := Lib.hid hl
  clear hc hl
  go_enter Try.func7, Try.ntmps7
  go_wp2
  go_loop [7] (fun i => ∃ m : Nat, m ≤ k ∧ i = .int .i64 m ∧ ∀ (j : Nat) (v : Option Addr × Nat × Nat), j < m → vs[j]? = some v → v.2.1 ≤ 300) (fun i => k - (intOf i).toNat)
  case atStart => exact ⟨0, Nat.zero_le _, rfl, fun j v hj => absurd hj (by omega)⟩
  case round =>
    obtain ⟨m, hm, rfl, hall⟩ := hrel
    have HALL := Lib.hid hall
    clear hall
    by_cases h1 : m < k
    · obtain ⟨v, hv⟩ : ∃ v, vs[m]? = some v := ⟨_, List.getElem?_eq_getElem (by have := HL.out; omega)⟩
      obtain ⟨A, n, d⟩ := v
      have hcell := HC.out m _ hv
      have HV := Lib.hid hv
      clear hv
      simp only at hcell
      go_wp2
      · go_ret
        exact ⟨ret_bool (far_yes HV.out (by simp only; omega)), rfl⟩
      · exact ⟨⟨m + 1, by omega, by go_num, fun j v hj hv => by
          by_cases q : j = m
          · subst q; rw [HV.out] at hv; injection hv with hv; subst hv; simp only; omega
          · exact HALL.out j v (by omega) hv⟩, by simp [intOf]; omega⟩
    · go_wp2
      go_ret
      exact ⟨ret_bool (far_no fun j v hv => HALL.out j v (by have := (List.getElem?_eq_some_iff.1 hv).1; have := HL.out; omega) hv), rfl⟩

def slv (v : Option Addr × Nat × Nat) : Value := .slice v.1 v.2.1 v.2.2
/-- far of a literal of keys. -/
theorem far_new (vs : List (Option Addr × Nat × Nat)) (w : World) (t : TypeId) (c : Nat) (hk : vs.length ≤ 1000) {cs : Array Value} (hcs : cs = (vs.map slv).toArray) :
    Calls Try.prog 7 #[.slice (some ⟨w.heap.size, 0, none⟩) vs.length c] (w.alloc (.cells cs t)) fun e w' => e = .returned (.bool (farB vs)) ∧ w.alloc (.cells cs t) = w' := by
  subst hcs
  refine far_any _ _ _ vs _ rfl hk (fun j v hv => ?_)
  rw [cell_of_row _ w.heap.size j (vs.map slv).toArray t (0, 0) (heap_alloc_new w _)]
  simp [hv, slv]
theorem far_one (A : Option Addr) (n c : Nat) (w : World) (t : TypeId) (k : Nat) :
    Calls Try.prog 7 #[.slice (some ⟨w.heap.size, 0, none⟩) 1 k] (w.alloc (.cells #[.slice A n c] t)) fun e w' => e = .returned (.bool (farB [(A, n, c)])) ∧ w.alloc (.cells #[.slice A n c] t) = w' :=
  far_new [(A, n, c)] w t k (by simp) rfl
theorem far_two (A : Option Addr) (n c : Nat) (A' : Option Addr) (n' c' : Nat) (w : World) (t : TypeId) (k : Nat) :
    Calls Try.prog 7 #[.slice (some ⟨w.heap.size, 0, none⟩) 2 k] (w.alloc (.cells #[.slice A n c, .slice A' n' c'] t)) fun e w' => e = .returned (.bool (farB [(A, n, c), (A', n', c')])) ∧ w.alloc (.cells #[.slice A n c, .slice A' n' c'] t) = w' :=
  far_new [(A, n, c), (A', n', c')] w t k (by simp) rfl
theorem far_three (A : Option Addr) (n c : Nat) (A' : Option Addr) (n' c' : Nat) (A'' : Option Addr) (n'' c'' : Nat) (w : World) (t : TypeId) (k : Nat) :
    Calls Try.prog 7 #[.slice (some ⟨w.heap.size, 0, none⟩) 3 k] (w.alloc (.cells #[.slice A n c, .slice A' n' c', .slice A'' n'' c''] t)) fun e w' => e = .returned (.bool (farB [(A, n, c), (A', n', c'), (A'', n'', c'')])) ∧ w.alloc (.cells #[.slice A n c, .slice A' n' c', .slice A'' n'' c''] t) = w' :=
  far_new [(A, n, c), (A', n', c'), (A'', n'', c'')] w t k (by simp) rfl
theorem farB_two {A A' : Option Addr} {n n' c c' : Nat} (h : farB [(A, n, c), (A', n', c')] = false) : n ≤ 300 ∧ n' ≤ 300 := by
  simp [farB] at h; omega
theorem farB_three {A A' A'' : Option Addr} {n n' n'' c c' c'' : Nat} (h : farB [(A, n, c), (A', n', c'), (A'', n'', c'')] = false) : n ≤ 300 ∧ n' ≤ 300 ∧ n'' ≤ 300 := by
  simp [farB] at h; omega
theorem farB_one {A : Option Addr} {n c : Nat} (h : farB [(A, n, c)] = false) : n ≤ 300 := by
  simp [farB] at h; omega

set_option maxHeartbeats 400000 in
theorem sorted_nil (w : World) : Calls Try.prog 26 #[.slice none 0 0] w fun e w' => e = .returned (.bool true) ∧ w = w' := by
  go_enter Try.func26, Try.ntmps26
  go_wp2
  go_loop [6] (fun i => i = .int .i64 0) (fun _ => 0)
  case atStart => rfl
  case round =>
    subst hrel
    go_wp2
    go_ret
    exact ⟨rfl, rfl⟩

theorem byt_two (w : World) (e : TypeId) (a b : UInt8) {x y : Int} (hx : x = (a.toNat : Int)) (hy : y = (b.toNat : Int)) : Byt (w.alloc (.cells #[.int .u8 x, .int .u8 y] e)) (w.heap.size + 1) (some ⟨w.heap.size, 0, none⟩) 2 [a, b] := by
  subst hx hy
  exact (Row.new w e [a, b]).byt rfl (by unfold maxLen; omega) (by omega)

set_option maxHeartbeats 1000000 in
theorem alive_any (w : World) : Calls Try.prog 8 #[] w fun e w' => e = .returned (.bool true) ∧ Below w.heap.size w w' := by
  go_enter Try.func8, Try.ntmps8
  go_wp2_with fail
  (with_reducible refine (next_any _ _ _ _ [1, 255] _ (byt_two w 5 1 255 (x := 1) (y := 255) rfl rfl) (by simp) (by omega)).mono ?_)
  rintro e w1 ⟨A1, n1, c1, rfl, hby1, hbel1⟩
  rw [show nextL [1, 255] = [2] from rfl] at hby1
  obtain rfl : n1 = 1 := hby1.1.symm
  obtain ⟨ad1, u1, rfl, hb1, hu1, hc1⟩ := hby1.at_ (k := 0) (by omega)
  obtain rfl : 2 = u1 := by simpa using hu1
  clear hu1
  have hz1 : w.heap.size + 1 ≤ w1.heap.size := by have := hbel1.size; simpa using this
  have HB1 := Lib.hid (((Below.refl w.heap.size w).alloc (Nat.le_refl _) (.cells #[.int .u8 1, .int .u8 255] 5)).trans (hbel1.mono (by simp)))
  have HY1 := Lib.hid hby1
  clear hby1 hbel1 hc1
  rw [show nextB [1, 255] = true from rfl]
  go_wp2_with fail
  have hps : (ByteArray.mk #[48, 97, 102, 102]).size ≤ 9223372036854775807 := by decide
  (with_reducible refine (parse_any _ _ hps).mono ?_)
  clear hps
  rintro e w2 ⟨A2, n2, c2, rfl, hby2, hbel2⟩
  rw [show (parseR (ByteArray.mk #[48, 97, 102, 102]).data.toList) = ([10, 255], 0) from by decide +kernel] at hby2 ⊢
  simp only at hby2 ⊢
  obtain rfl : n2 = 2 := hby2.1.symm
  obtain ⟨ad2, u2, rfl, hb2, hu2, hc2⟩ := hby2.at_ (k := 1) (by omega)
  obtain rfl : 255 = u2 := by simpa using hu2
  clear hu2
  obtain ⟨ad, v1, q1, _, hv1, hd1⟩ := (HY1.out.below hbel2).at_ (k := 0) (by omega)
  injection q1 with q1
  subst q1
  obtain rfl : 2 = v1 := by simpa using hv1
  have hd1' : w2.cell? ad1 = some (.int .u8 2) := by simpa [Addr.add] using hd1
  clear hd1 hv1
  have hz2 : w1.heap.size ≤ w2.heap.size := hbel2.size
  have HB2 := Lib.hid (HB1.out.trans (hbel2.mono (by omega)))
  have HY2 := Lib.hid hby2
  clear hby2 hbel2
  go_wp2_with fail
  have y1 : Byt ((w2.alloc (.cells #[.int .u8 1] 5)).alloc (.cells #[.int .u8 1, .int .u8 0] 5)) (w2.heap.size + 2) (some ⟨w2.heap.size, 0, none⟩) 1 [1] := ((byt_one w2 5 (z := 1) (u := 1) rfl).alloc (by simp) _).more (by omega)
  have y2 : Byt ((w2.alloc (.cells #[.int .u8 1] 5)).alloc (.cells #[.int .u8 1, .int .u8 0] 5)) (w2.heap.size + 2) (some ⟨w2.heap.size + 1, 0, none⟩) 2 [1, 0] := by
    have := (byt_two (w2.alloc (.cells #[.int .u8 1] 5)) 5 1 0 (x := 1) (y := 0) rfl rfl)
    simpa using this
  (with_reducible refine (cmp_any _ _ _ _ _ _ (w2.heap.size + 2) [1] [1, 0] _ y1 y2).mono ?_)
  clear y1 y2
  rintro e w3 ⟨rfl, hst3⟩
  rw [show cmpL [1] [1, 0] = -1 from rfl]
  have hbel3 : Below w2.heap.size w2 w3 := (((Below.refl _ _).alloc (Nat.le_refl _) _).alloc (by simp) _).trans (hst3.below _)
  have hcp : w3.cell? ⟨ad2.block, ad2.off + 1, none⟩ = some (.int .u8 255) := by
    have h := hbel3.cell (p := ad2.add 1) (by rw [block_of_add]; exact hb2)
    rw [hc2] at h
    exact h
  have hz3 : w2.heap.size ≤ w3.heap.size := hbel3.size
  have HB3 := Lib.hid (HB2.out.trans (hbel3.mono (by omega)))
  have HY3 := Lib.hid (HY2.out.below hbel3)
  clear hst3 hbel3 hc2 hd1'
  go_wp2_with fail
  (with_reducible refine (text_any _ _ _ w2.heap.size [10, 255] _ HY3.out (by omega) (by omega)).mono ?_)
  rintro e w4 ⟨rfl, hbel4⟩
  rw [show bstr (textL [10, 255]) = ByteArray.mk #[48, 97, 102, 102] from by decide +kernel]
  have hz4 : w3.heap.size ≤ w4.heap.size := hbel4.size
  have HB4 := Lib.hid (HB3.out.trans (hbel4.mono (by omega)))
  have HY4 := Lib.hid (HY3.out.below (hbel4.mono (by omega)))
  clear hbel4 hcp
  go_wp2_with fail
  (with_reducible refine (common_any _ _ _ _ _ _ w2.heap.size [10, 255] [10, 255] _ HY4.out HY4.out).mono ?_)
  rintro e w5 ⟨rfl, hst5⟩
  rw [show lcp [10, 255] [10, 255] = 2 from rfl]
  have HB5 := Lib.hid (HB4.out.trans (hst5.below _))
  have HY5 := Lib.hid (HY4.out.below (hst5.below _))
  clear hst5
  go_wp2_with fail
  (with_reducible refine (begins_any _ _ _ _ _ _ w2.heap.size [10, 255] [] _ HY5.out Byt.none_).mono ?_)
  rintro e w6 ⟨rfl, hst6⟩
  rw [show begB [10, 255] [] = true from rfl]
  have HB6 := Lib.hid (HB5.out.trans (hst6.below _))
  have HY6 := Lib.hid (HY5.out.below (hst6.below _))
  clear hst6
  go_wp2_with fail
  (with_reducible refine (within_any _ _ _ _ _ _ _ _ _ w2.heap.size [10, 255] [] [] true _ HY6.out Byt.none_ Byt.none_).mono ?_)
  rintro e w7 ⟨rfl, hst7⟩
  rw [show withinB [10, 255] [] [] true = true from rfl]
  have HB7 := Lib.hid (HB6.out.trans (hst7.below _))
  have HY7 := Lib.hid (HY6.out.below (hst7.below _))
  clear hst7
  go_wp2_with fail
  (with_reducible refine (same_any _ _ _ _ _ _ w2.heap.size [10, 255] [10, 255] _ HY7.out HY7.out).mono ?_)
  rintro e w8 ⟨rfl, hst8⟩
  rw [show sameB [10, 255] [10, 255] = true from rfl]
  have HB8 := Lib.hid (HB7.out.trans (hst8.below _))
  clear hst8
  go_wp2_with fail
  (with_reducible refine (sorted_nil _).mono ?_)
  rintro e w9 ⟨rfl, rfl⟩
  go_wp2
  go_ret
  exact ⟨rfl, HB8.out⟩
end Go.Proofs.Ytdllgcaeenldaaa
