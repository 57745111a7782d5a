/-
  What the document's Get, and uenc.Cmp and the document's Cmp answer; the calls at each statement's end (alive).
-/
import Derived.Test.YtlnbbipgfghfeaaUenc
namespace Go.Proofs.Ytlnbbipgfghfeaa
open Go.RowKit

set_option maxHeartbeats 400000 in
theorem rget_any (x : Int) (A : Option Addr) (n c B : Nat) (l : List UInt8) (w : World) (ha : Byt w B A n l) (hnc : n ≤ c) (hB : B ≤ w.heap.size) :
    Calls Try.prog 15 #[.int .i64 x, .slice A n c] w fun e w' => e = .returned (.tuple #[.int .u64 (getN x l : Int), .int .i64 (getE x l)]) ∧ Below w.heap.size w w' := by
  have HN := Lib.hid ha.1
  have HT := Lib.hid (rtake_any x A n c B l w ha hnc hB)
  by_cases hx : wid x = true ∧ x.toNat ≤ n
  · obtain ⟨hx, hm⟩ := hx
    obtain ⟨k, rfl, hk⟩ := wid_nat hx
    simp only [Int.toNat_natCast] at hm
    have HE0 := Lib.hid (show firstN k l = ofL (l.take k) ∧ restL k l = l.drop k ∧ firstE k l = 0 from by simp [firstN, restL, firstE, hx, HN.out, hm])
    rw [HE0.out.1, HE0.out.2.1, HE0.out.2.2] at HT
    have HE := Lib.hid (show (if 0 < (l.drop k).length then (0 : Int) else (ofL (l.take k) : Int)) = getN k l ∧ (if 0 < (l.drop k).length then (8 : Int) else 0) = getE k l from by
      have h := HN.out
      by_cases hkn : k < n
      · simp [getN, getE, hx, h, hkn, show ¬ n = k from by omega, show ¬ n < k from by omega]
        omega
      · obtain rfl : n = k := by omega
        rw [List.take_of_length_le (by omega)]
        simp [getN, getE, hx, h])
    clear hx hk
    go_enter Try.func15, Try.ntmps15
    go_wp2_with fail
    (with_reducible refine HT.out.mono ?_)
    rintro e w1 ⟨A1, n1, c1, rfl, hb1, _, hbel⟩
    have HB := Lib.hid hbel
    have HL := Lib.hid hb1.1
    clear hb1 hbel
    by_cases h0 : 0 < n1
    · go_wp2
      go_ret2
      exact ⟨ret_ui (by rw [← HE.out.1, if_pos (by rw [HL.out]; exact h0)]) (by rw [← HE.out.2, if_pos (by rw [HL.out]; exact h0)]), HB.out⟩
    · go_wp2
      go_ret2
      exact ⟨ret_ui (by rw [← HE.out.1, if_neg (by rw [HL.out]; exact h0)]) (by rw [← HE.out.2, if_neg (by rw [HL.out]; exact h0)]), HB.out⟩
  · have HE := Lib.hid (show firstE x l = getE x l ∧ (0 : Int) = getN x l ∧ firstE x l ≠ 0 from by
      have := HN.out
      by_cases h : wid x = true
      · have h2 : ¬ x.toNat ≤ n := fun q => hx ⟨h, q⟩
        have h3 : n < x.toNat := by omega
        have h4 : ¬ n = x.toNat := by omega
        simp [getE, getN, firstE, h, this, h2, h3, h4]
      · simp [getE, getN, firstE, h])
    have hne : ((firstE x l) != 0) = true := by simpa using HE.out.2.2
    have hne' : ¬ firstE x l = 0 := HE.out.2.2
    clear hx
    go_enter Try.func15, Try.ntmps15
    go_wp2_with fail
    (with_reducible refine HT.out.mono ?_)
    rintro e w1 ⟨A1, n1, c1, rfl, hb1, _, hbel⟩
    have HB := Lib.hid hbel
    clear hb1 hbel
    go_wp2
    go_ret2
    exact ⟨ret_ui HE.out.2.1 HE.out.1, HB.out⟩

set_option maxHeartbeats 400000 in
theorem isNaN_any (a : Int) (w : World) : Calls Try.prog 22 #[.int .u64 a] w fun e w' => e = .returned (.bool false) ∧ w = w' := by
  go_enter Try.func22, Try.ntmps22
  go_wp2
  go_ret
  exact ⟨rfl, rfl⟩

set_option maxHeartbeats 400000 in
theorem compare_any (a b : Nat) (w : World) : Calls Try.prog 21 #[.int .u64 (a : Int), .int .u64 (b : Int)] w fun e w' => e = .returned (.int .i64 (cmpN a b)) ∧ w = w' := by
  by_cases h1 : a < b
  · have HC := Lib.hid (show -1 = cmpN a b from by simp [cmpN, h1])
    go_enter Try.func21, Try.ntmps21
    go_wp2_with (go_at_call 22; refine (isNaN_any _ _).mono ?_; rintro e w' ⟨rfl, rfl⟩)
    go_ret
    exact ⟨ret_int HC.out, rfl⟩
  · by_cases h2 : b < a
    · have HC := Lib.hid (show 1 = cmpN a b from by simp [cmpN, h1, h2])
      go_enter Try.func21, Try.ntmps21
      go_wp2_with (go_at_call 22; refine (isNaN_any _ _).mono ?_; rintro e w' ⟨rfl, rfl⟩)
      go_ret
      exact ⟨ret_int HC.out, rfl⟩
    · have HC := Lib.hid (show 0 = cmpN a b from by simp [cmpN, h1, h2])
      go_enter Try.func21, Try.ntmps21
      go_wp2_with (go_at_call 22; refine (isNaN_any _ _).mono ?_; rintro e w' ⟨rfl, rfl⟩)
      go_ret
      exact ⟨ret_int HC.out, rfl⟩

set_option maxHeartbeats 400000 in
theorem ucmp_any (a b : Nat) (w : World) : Calls Try.prog 17 #[.int .u64 (a : Int), .int .u64 (b : Int)] w fun e w' => e = .returned (.int .i64 (cmpN a b)) ∧ w = w' := by
  go_enter Try.func17, Try.ntmps17
  go_wp2_with fail
  (with_reducible refine (compare_any _ _ _).mono ?_)
  rintro e w' ⟨rfl, rfl⟩
  go_wp2
  go_ret
  exact ⟨rfl, rfl⟩

set_option maxHeartbeats 400000 in
theorem rucmp_any (a b : Nat) (w : World) : Calls Try.prog 18 #[.int .u64 (a : Int), .int .u64 (b : Int)] w fun e w' => e = .returned (.int .i64 (cmpN a b)) ∧ w = w' := by
  by_cases h1 : a < b
  · have HC := Lib.hid (show -1 = cmpN a b from by simp [cmpN, h1])
    go_enter Try.func18, Try.ntmps18
    go_wp2
    go_ret
    exact ⟨ret_int HC.out, rfl⟩
  · by_cases h2 : b < a
    · have HC := Lib.hid (show 1 = cmpN a b from by simp [cmpN, h1, h2])
      go_enter Try.func18, Try.ntmps18
      go_wp2
      go_ret
      exact ⟨ret_int HC.out, rfl⟩
    · have HC := Lib.hid (show 0 = cmpN a b from by simp [cmpN, h1, h2])
      go_enter Try.func18, Try.ntmps18
      go_wp2
      go_ret
      exact ⟨ret_int HC.out, rfl⟩

theorem ucmp_12 (w : World) : Calls Try.prog 17 #[.int .u64 1, .int .u64 2] w fun e w' => e = .returned (.int .i64 (-1)) ∧ w = w' := ucmp_any 1 2 w
theorem put_2_258 (w : World) : Calls Try.prog 6 #[.int .i64 2, .int .u64 258] w (PutPost w [1, 2] 0) := put_any 2 258 w (by omega)
theorem most_1 (w : World) : Calls Try.prog 8 #[.int .i64 1] w fun e w' => e = .returned (.tuple #[.int .u64 255, .int .i64 0]) ∧ w = w' := most_any 1 w
theorem take_2 (A : Option Addr) (c B : Nat) (w : World) (ha : Byt w B A 3 [1, 2, 3]) (hnc : 3 ≤ c) (hB : B ≤ w.heap.size) :
    Calls Try.prog 12 #[.int .i64 2, .slice A 3 c] w (TakePost w 258 [3] 0) := take_any 2 A 3 c B [1, 2, 3] w ha hnc hB (by omega)
theorem get_2 (A : Option Addr) (c B : Nat) (w : World) (ha : Byt w B A 2 [1, 2]) :
    Calls Try.prog 14 #[.int .i64 2, .slice A 2 c] w fun e w' => e = .returned (.tuple #[.int .u64 258, .int .i64 0]) ∧ w = w' := get_any 2 A 2 c B [1, 2] w ha
theorem byt_three (w : World) (e : TypeId) (a b d : UInt8) {x y z : Int} (hx : x = (a.toNat : Int)) (hy : y = (b.toNat : Int)) (hz : z = (d.toNat : Int)) : Byt (w.alloc (.cells #[.int .u8 x, .int .u8 y, .int .u8 z] e)) (w.heap.size + 1) (some ⟨w.heap.size, 0, none⟩) 3 [a, b, d] := by
  subst hx hy hz
  exact (Row.new w e [a, b, d]).byt rfl (by unfold maxLen; omega) (by omega)

set_option maxHeartbeats 1000000 in
theorem alive_any (w : World) : Calls Try.prog 11 #[] w fun e w' => e = .returned (.bool true) ∧ Below w.heap.size w w' := by
  go_enter Try.func11, Try.ntmps11
  go_wp2_with fail
  (with_reducible refine (put_2_258 _).mono ?_)
  rintro e w1 ⟨A1, n1, c1, rfl, hby1, hbel1⟩
  obtain rfl : n1 = 2 := hby1.1.symm
  have HB1 := Lib.hid hbel1
  have HY1 := Lib.hid hby1
  clear hby1 hbel1
  go_wp2_with fail
  (with_reducible refine (take_2 _ _ _ _ (byt_three w1 5 1 2 3 (x := 1) (y := 2) (z := 3) rfl rfl rfl) (by omega) (by simp)).mono ?_)
  rintro e w2 ⟨A2, n2, c2, rfl, hby2, _, hbel2⟩
  obtain rfl : n2 = 1 := hby2.1.symm
  have hbel2' := ((Below.refl w1.heap.size w1).alloc (Nat.le_refl _) (.cells #[.int .u8 1, .int .u8 2, .int .u8 3] 5)).trans (hbel2.mono (by simp))
  have HB2 := Lib.hid (HB1.out.trans (hbel2'.mono HB1.out.size))
  have HY2 := Lib.hid (HY1.out.below hbel2')
  clear hby2 hbel2 hbel2'
  go_wp2_with fail
  (with_reducible refine (most_1 _).mono ?_)
  rintro e w' ⟨rfl, rfl⟩
  go_wp2_with fail
  (with_reducible refine (get_2 _ _ _ _ HY2.out).mono ?_)
  rintro e w' ⟨rfl, rfl⟩
  obtain ⟨ad, u, rfl, _, hu, hc0⟩ := HY2.out.at_ (k := 0) (by omega)
  obtain ⟨ad', u', hq, _, hu', hc1⟩ := HY2.out.at_ (k := 1) (by omega)
  injection hq with hq
  subst hq
  obtain rfl : 1 = u := by simpa using hu
  obtain rfl : 2 = u' := by simpa using hu'
  have hd0 : w2.cell? ad = some (.int .u8 1) := by simpa [Addr.add] using hc0
  have hd1 : w2.cell? ⟨ad.block, ad.off + 1, none⟩ = some (.int .u8 2) := hc1
  clear hc0 hc1 hu hu'
  go_wp2_with (go_at_call 17; refine (ucmp_12 _).mono ?_; rintro e w' ⟨rfl, rfl⟩)
  go_ret
  exact ⟨rfl, HB2.out⟩
end Go.Proofs.Ytlnbbipgfghfeaa
