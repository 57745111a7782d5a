/-
  The document's answers of layer 3, and the order of two numbers with a sign.
-/
import Derived.Test.YtdpddkpfllioiaaDoorIencB
namespace Go.Proofs.YtdpddkpfllioiaaDoor
open Go.RowKit

theorem ret_ii {a b a' b' : Int} (h : a = a') (h' : b = b') : Ending.returned (.tuple #[.int .i64 a, .int .i64 b]) = .returned (.tuple #[.int .i64 a', .int .i64 b']) := by rw [h, h']
set_option maxHeartbeats 400000 in
theorem rimost_any (x : Int) (w : World) : Calls Tryd.prog 83 #[.int .i64 x] w fun e w' => e = .returned (.tuple #[.int .i64 (imostI x), .int .i64 (mostE x)]) ∧ w = w' := by
  by_cases h8 : x = 8
  · subst h8
    go_enter Tryd.func83, Tryd.ntmps83
    go_wp2
    go_ret2
    exact ⟨ret_ii (by decide +kernel) (by decide +kernel), rfl⟩
  by_cases h4 : x = 4
  · subst h4
    go_enter Tryd.func83, Tryd.ntmps83
    go_wp2
    go_ret2
    exact ⟨ret_ii (by decide +kernel) (by decide +kernel), rfl⟩
  by_cases h2 : x = 2
  · subst h2
    go_enter Tryd.func83, Tryd.ntmps83
    go_wp2
    go_ret2
    exact ⟨ret_ii (by decide +kernel) (by decide +kernel), rfl⟩
  by_cases h1 : x = 1
  · subst h1
    go_enter Tryd.func83, Tryd.ntmps83
    go_wp2
    go_ret2
    exact ⟨ret_ii (by decide +kernel) (by decide +kernel), rfl⟩
  have HM := Lib.hid (show (0 : Int) = imostI x ∧ (1 : Int) = mostE x from by simp [imostI, mostE, wid, h8, h4, h2, h1])
  go_enter Tryd.func83, Tryd.ntmps83
  go_wp2
  go_ret2
  exact ⟨ret_ii HM.out.1 HM.out.2, rfl⟩

theorem rimost_yes (x : Int) (w : World) (h : wid x = true) : Calls Tryd.prog 83 #[.int .i64 x] w fun e w' => e = .returned (.tuple #[.int .i64 (imostI x), .int .i64 0]) ∧ w = w' := by
  have := rimost_any x w
  rwa [show mostE x = 0 from by simp [mostE, h]] at this
theorem rimost_no (x : Int) (w : World) (h : wid x = false) : Calls Tryd.prog 83 #[.int .i64 x] w fun e w' => e = .returned (.tuple #[.int .i64 0, .int .i64 1]) ∧ w = w' := by
  have := rimost_any x w
  rwa [show mostE x = 1 from by simp [mostE, h], imostI_no h] at this
set_option maxHeartbeats 400000 in
theorem rleast_any (x : Int) (w : World) : Calls Tryd.prog 82 #[.int .i64 x] w fun e w' => e = .returned (.tuple #[.int .i64 (leastI x), .int .i64 (mostE x)]) ∧ w = w' := by
  by_cases hx : wid x = true
  · have HM := Lib.hid (fun W => rimost_yes x W hx)
    have hlm := least_most hx
    have HE := Lib.hid (show (0 : Int) = mostE x from by simp [mostE, hx])
    have HL := Lib.hid hlm.1
    obtain ⟨m, hm⟩ : ∃ m, imostI x = m := ⟨_, rfl⟩
    rw [hm] at HM hlm HL
    clear hx hm
    go_enter Tryd.func82, Tryd.ntmps82
    go_wp2_with fail
    (with_reducible refine (HM.out _).mono ?_)
    rintro e w' ⟨rfl, rfl⟩
    go_wp2
    go_ret2
    exact ⟨ret_ii (by rw [HL.out]) HE.out, rfl⟩
  · have hx' : wid x = false := by simpa using hx
    have HM := Lib.hid (fun W => rimost_no x W hx')
    have HE := Lib.hid (show (0 : Int) = leastI x ∧ (1 : Int) = mostE x from by simp [mostE, hx', leastI_no hx'])
    clear hx hx'
    go_enter Tryd.func82, Tryd.ntmps82
    go_wp2_with fail
    (with_reducible refine (HM.out _).mono ?_)
    rintro e w' ⟨rfl, rfl⟩
    go_wp2
    go_ret2
    exact ⟨ret_ii HE.out.1 HE.out.2, rfl⟩
theorem rleast_yes (x : Int) (w : World) (h : wid x = true) : Calls Tryd.prog 82 #[.int .i64 x] w fun e w' => e = .returned (.tuple #[.int .i64 (leastI x), .int .i64 0]) ∧ w = w' := by
  have := rleast_any x w
  rwa [show mostE x = 0 from by simp [mostE, h]] at this
theorem rleast_no (x : Int) (w : World) (h : wid x = false) : Calls Tryd.prog 82 #[.int .i64 x] w fun e w' => e = .returned (.tuple #[.int .i64 0, .int .i64 1]) ∧ w = w' := by
  have := rleast_any x w
  rwa [show mostE x = 1 from by simp [mostE, h], leastI_no h] at this

set_option maxHeartbeats 400000 in
theorem riput_any (x n : Int) (w : World) (hn : n ≤ 9223372036854775807) :
    Calls Tryd.prog 63 #[.int .i64 x, .int .i64 n] w (PutPost w (iputL x n) (iputE x n)) := by
  by_cases hx : wid x = true
  · have HM := Lib.hid (fun W => rimost_yes x W hx)
    have HL := Lib.hid (fun W => rleast_yes x W hx)
    obtain ⟨l1, l2, l3, l4⟩ := least_most hx
    by_cases h1 : leastI x ≤ n
    · by_cases h2 : n ≤ imostI x
      · obtain ⟨e1, e2, e3⟩ := iput_yes hx h1 h2
        have HP := Lib.hid (fun W => rput_any x (n - leastI x).toNat W e3)
        rw [e1, e2] at HP
        obtain ⟨q, hq⟩ : ∃ q, (n - leastI x).toNat = q := ⟨_, rfl⟩
        rw [hq] at HP e3
        obtain ⟨m, hm⟩ : ∃ m, imostI x = m := ⟨_, rfl⟩
        obtain ⟨s, hs⟩ : ∃ s, leastI x = s := ⟨_, rfl⟩
        rw [hm] at HM h2 l1 l2 l3 l4
        rw [hs] at HL h1 l1 hq
        clear e1 e2 hx l2 hm hs
        by_cases h0 : 0 ≤ n
        · have HQ := Lib.hid (show n + m + 1 = (q : Int) from by omega)
          clear hq
          go_enter Tryd.func63, Tryd.ntmps63
          go_wp2_with fail
          (with_reducible refine (HL.out _).mono ?_)
          rintro e w' ⟨rfl, rfl⟩
          go_wp2_with fail
          (with_reducible refine (HM.out _).mono ?_)
          rintro e w' ⟨rfl, rfl⟩
          go_wp2_with fail
          rw [HQ.out]
          (with_reducible refine (HP.out _).mono ?_)
          rintro e w3 ⟨A3, n3, c3, rfl, y3, b3⟩
          have B3 := Lib.hid b3
          have Y3 := Lib.hid y3
          clear b3 y3
          go_wp2
          go_ret2
          exact ⟨_, _, _, rfl, Y3.out, B3.out⟩
        · have HQ := Lib.hid (show n - s = (q : Int) from by omega)
          have k1 : -9223372036854775808 ≤ n - s := by omega
          have k2 : n - s ≤ 9223372036854775807 := by omega
          have k3 : 0 ≤ n - s := by omega
          clear hq l1
          go_enter Tryd.func63, Tryd.ntmps63
          go_wp2_with fail
          (with_reducible refine (HL.out _).mono ?_)
          rintro e w' ⟨rfl, rfl⟩
          go_wp2_with fail
          (with_reducible refine (HM.out _).mono ?_)
          rintro e w' ⟨rfl, rfl⟩
          go_wp2_with fail
          rw [HQ.out]
          (with_reducible refine (HP.out _).mono ?_)
          rintro e w3 ⟨A3, n3, c3, rfl, y3, b3⟩
          have B3 := Lib.hid b3
          have Y3 := Lib.hid y3
          clear b3 y3
          go_wp2
          go_ret2
          exact ⟨_, _, _, rfl, Y3.out, B3.out⟩
      · have HE := Lib.hid (show (8 : Int) = iputE x n from by simp [iputE, hx, h2])
        have HN := Lib.hid (show iputL x n = [] from by simp [iputL, h2])
        clear hx l1 l2 l3 l4
        go_enter Tryd.func63, Tryd.ntmps63
        go_wp2_with fail
        (with_reducible refine (HL.out _).mono ?_)
        rintro e w' ⟨rfl, rfl⟩
        go_wp2_with fail
        (with_reducible refine (HM.out _).mono ?_)
        rintro e w' ⟨rfl, rfl⟩
        go_wp2
        go_ret2
        exact PutPost.none_ HN.out HE.out
    · have HE := Lib.hid (show (8 : Int) = iputE x n from by simp [iputE, hx, h1])
      have HN := Lib.hid (show iputL x n = [] from by simp [iputL, h1])
      clear hx l1 l2 l3 l4
      go_enter Tryd.func63, Tryd.ntmps63
      go_wp2_with fail
      (with_reducible refine (HL.out _).mono ?_)
      rintro e w' ⟨rfl, rfl⟩
      go_wp2_with fail
      (with_reducible refine (HM.out _).mono ?_)
      rintro e w' ⟨rfl, rfl⟩
      go_wp2
      go_ret2
      exact PutPost.none_ HN.out HE.out
  · have hx' : wid x = false := by simpa using hx
    have HL := Lib.hid (fun W => rleast_no x W hx')
    have HE := Lib.hid (show (1 : Int) = iputE x n from by simp [iputE, hx])
    have HN := Lib.hid (show iputL x n = [] from by simp [iputL, hx])
    clear hx hx'
    go_enter Tryd.func63, Tryd.ntmps63
    go_wp2_with fail
    (with_reducible refine (HL.out _).mono ?_)
    rintro e w' ⟨rfl, rfl⟩
    go_wp2
    go_ret2
    exact PutPost.none_ HN.out HE.out

theorem ITakePost.out_ {w w' : World} {l : List UInt8} {v m : Int} {f : Nat} {A : Option Addr} {n c : Nat} (hv : (f : Int) + (-m - 1) = v) (hy : Byt w' w'.heap.size A n l) (hc : n ≤ c) (hb : Below w.heap.size w w') :
    ITakePost w v l 0 (.returned (.tuple #[.int .i64 ((f : Int) - m - 1), .slice A n c, .int .i64 0])) w' := by
  obtain rfl : (f : Int) - m - 1 = v := by omega
  exact ⟨_, _, _, rfl, hy, hc, hb⟩
set_option maxHeartbeats 400000 in
theorem ritake_any (x : Int) (A : Option Addr) (n c B : Nat) (l : List UInt8) (w : World) (ha : Byt w B A n l) (hnc : n ≤ c) (hB : B ≤ w.heap.size) :
    Calls Tryd.prog 91 #[.int .i64 x, .slice A n c] w (ITakePost w (itakeN x l) (restL x l) (firstE x l)) := by
  have HU := Lib.hid (rtake_any x A n c B l w ha hnc hB)
  clear ha
  by_cases hx : wid x = true
  · have HM := Lib.hid (fun W => rimost_yes x W hx)
    obtain ⟨l1, l2, l3, l4⟩ := least_most hx
    have hf := firstN_le l hx
    by_cases he : firstE x l = 0
    · have HN := Lib.hid (show (firstN x l : Int) + leastI x = itakeN x l from by simp [itakeN, he])
      rw [he] at HU ⊢
      obtain ⟨f, hff⟩ : ∃ f, firstN x l = f := ⟨_, rfl⟩
      obtain ⟨m, hm⟩ : ∃ m, imostI x = m := ⟨_, rfl⟩
      rw [l1] at HN
      rw [hff] at HU HN hf
      rw [hm] at HM HN l2 l3 l4
      clear hx l1 hm hff he
      rw [l2] at hf
      clear l2
      by_cases hg : m < f
      · go_enter Tryd.func91, Tryd.ntmps91
        go_wp2_with fail
        (with_reducible refine HU.out.mono ?_)
        rintro e w2 ⟨A2, n2, c2, rfl, y2, z2, b2⟩
        have B2 := Lib.hid b2
        have Y2 := Lib.hid y2
        clear b2 y2
        go_wp2_with fail
        (with_reducible refine (HM.out _).mono ?_)
        rintro e w' ⟨rfl, rfl⟩
        go_wp2
        go_ret3
        exact ITakePost.out_ HN.out Y2.out z2 B2.out
      · go_enter Tryd.func91, Tryd.ntmps91
        go_wp2_with fail
        (with_reducible refine HU.out.mono ?_)
        rintro e w2 ⟨A2, n2, c2, rfl, y2, z2, b2⟩
        have B2 := Lib.hid b2
        have Y2 := Lib.hid y2
        clear b2 y2
        go_wp2_with fail
        (with_reducible refine (HM.out _).mono ?_)
        rintro e w' ⟨rfl, rfl⟩
        go_wp2
        go_ret3
        exact ITakePost.out_ HN.out Y2.out z2 B2.out
    · have HN := Lib.hid (show (0 : Int) = itakeN x l from by simp [itakeN, he])
      have HR := Lib.hid (show restL x l = [] from by
        unfold firstE at he
        rw [if_pos hx] at he
        by_cases hc : x.toNat ≤ l.length
        · rw [if_pos hc] at he; exact absurd rfl he
        · rw [restL, if_neg (by simp only [hc, decide_false, Bool.and_false, Bool.false_eq_true, not_false_eq_true])])
      have hne : ((firstE x l) != 0) = true := by simpa using he
      clear hx l1 l2 l3 l4 hf he
      go_enter Tryd.func91, Tryd.ntmps91
      go_wp2_with fail
      (with_reducible refine HU.out.mono ?_)
      rintro e w2 ⟨A2, n2, c2, rfl, y2, z2, b2⟩
      have B2 := Lib.hid b2
      clear b2 y2
      go_wp2
      go_ret3
      exact ITakePost.nil_ HR.out HN.out rfl B2.out
  · have HE := Lib.hid (show (1 : Int) = firstE x l from by simp [firstE, hx])
    have HN := Lib.hid (show (0 : Int) = itakeN x l from by simp [itakeN, firstE, hx])
    have HR := Lib.hid (show restL x l = [] from by simp [restL, hx])
    rw [← HE.out] at HU ⊢
    clear hx
    go_enter Tryd.func91, Tryd.ntmps91
    go_wp2_with fail
    (with_reducible refine HU.out.mono ?_)
    rintro e w2 ⟨A2, n2, c2, rfl, y2, z2, b2⟩
    have B2 := Lib.hid b2
    clear b2 y2
    go_wp2
    go_ret3
    exact ITakePost.nil_ HR.out HN.out rfl B2.out

theorem isNaNI_any (a : Int) (w : World) : Calls Tryd.prog 110 #[.int .i64 a] w fun e w' => e = .returned (.bool false) ∧ w = w' := by
  go_enter Tryd.func110, Tryd.ntmps110
  go_wp2
  go_ret
  exact ⟨rfl, rfl⟩
set_option maxHeartbeats 400000 in
theorem icompare_any (a b : Int) (w : World) : Calls Tryd.prog 100 #[.int .i64 a, .int .i64 b] w fun e w' => e = .returned (.int .i64 (cmpZ a b)) ∧ w = w' := by
  by_cases h1 : a < b
  · have HC := Lib.hid (show -1 = cmpZ a b from by simp [cmpZ, h1])
    go_enter Tryd.func100, Tryd.ntmps100
    go_wp2_with (go_at_call 110; refine (isNaNI_any _ _).mono ?_; rintro e w' ⟨rfl, rfl⟩)
    go_ret
    exact ⟨ret_int HC.out, rfl⟩
  · by_cases h2 : b < a
    · have HC := Lib.hid (show 1 = cmpZ a b from by simp [cmpZ, h1, h2])
      go_enter Tryd.func100, Tryd.ntmps100
      go_wp2_with (go_at_call 110; refine (isNaNI_any _ _).mono ?_; rintro e w' ⟨rfl, rfl⟩)
      go_ret
      exact ⟨ret_int HC.out, rfl⟩
    · have HC := Lib.hid (show 0 = cmpZ a b from by simp [cmpZ, h1, h2])
      go_enter Tryd.func100, Tryd.ntmps100
      go_wp2_with (go_at_call 110; refine (isNaNI_any _ _).mono ?_; rintro e w' ⟨rfl, rfl⟩)
      go_ret
      exact ⟨ret_int HC.out, rfl⟩
theorem icmp_any (a b : Int) (w : World) : Calls Tryd.prog 72 #[.int .i64 a, .int .i64 b] w fun e w' => e = .returned (.int .i64 (cmpZ a b)) ∧ w = w' := by
  go_enter Tryd.func72, Tryd.ntmps72
  go_wp2_with fail
  (with_reducible refine (icompare_any _ _ _).mono ?_)
  rintro e w' ⟨rfl, rfl⟩
  go_wp2
  go_ret
  exact ⟨rfl, rfl⟩
set_option maxHeartbeats 400000 in
theorem ricmp_any (a b : Int) (w : World) : Calls Tryd.prog 76 #[.int .i64 a, .int .i64 b] w fun e w' => e = .returned (.int .i64 (cmpZ a b)) ∧ w = w' := by
  by_cases h1 : a < b
  · have HC := Lib.hid (show -1 = cmpZ a b from by simp [cmpZ, h1])
    go_enter Tryd.func76, Tryd.ntmps76
    go_wp2
    go_ret
    exact ⟨ret_int HC.out, rfl⟩
  · by_cases h2 : b < a
    · have HC := Lib.hid (show 1 = cmpZ a b from by simp [cmpZ, h1, h2])
      go_enter Tryd.func76, Tryd.ntmps76
      go_wp2
      go_ret
      exact ⟨ret_int HC.out, rfl⟩
    · have HC := Lib.hid (show 0 = cmpZ a b from by simp [cmpZ, h1, h2])
      go_enter Tryd.func76, Tryd.ntmps76
      go_wp2
      go_ret
      exact ⟨ret_int HC.out, rfl⟩
end Go.Proofs.YtdpddkpfllioiaaDoor
