/-
  What uenc.Most, Put, first and the document's answer.
-/
import Derived.Test.YtdpddkpfllioiaaDoorR1
import Derived.Test.YtdpddkpfllioiaaDoorCut
import Derived.Test.YtdpddkpfllioiaaDoorUencPure
import Derived.Laws.BitsAllLaws
import Derived.IntWalk
namespace Go.Proofs.YtdpddkpfllioiaaDoor
open Go.RowKit

theorem ret_most {x a b : Int} (h : a = mostI x) (h' : b = mostE x) : Ending.returned (.tuple #[.int .u64 a, .int .i64 b]) = .returned (.tuple #[.int .u64 (mostI x), .int .i64 (mostE x)]) := by rw [h, h']

set_option maxHeartbeats 400000 in
theorem most_any (x : Int) (w : World) : Calls Tryd.prog 77 #[.int .i64 x] w fun e w' => e = .returned (.tuple #[.int .u64 (mostI x), .int .i64 (mostE x)]) ∧ w = w' := by
  by_cases h8 : x = 8
  · subst h8
    go_enter Tryd.func77, Tryd.ntmps77
    go_wp2
    go_ret2
    exact ⟨ret_most (by decide +kernel) (by decide +kernel), rfl⟩
  by_cases h4 : x = 4
  · subst h4
    go_enter Tryd.func77, Tryd.ntmps77
    go_wp2
    go_ret2
    exact ⟨ret_most (by decide +kernel) (by decide +kernel), rfl⟩
  by_cases h2 : x = 2
  · subst h2
    go_enter Tryd.func77, Tryd.ntmps77
    go_wp2
    go_ret2
    exact ⟨ret_most (by decide +kernel) (by decide +kernel), rfl⟩
  by_cases h1 : x = 1
  · subst h1
    go_enter Tryd.func77, Tryd.ntmps77
    go_wp2
    go_ret2
    exact ⟨ret_most (by decide +kernel) (by decide +kernel), rfl⟩
  · have HM := Lib.hid (show (0 : Int) = mostI x ∧ (1 : Int) = mostE x from by simp [mostI, mostE, wid, h8, h4, h2, h1])
    go_enter Tryd.func77, Tryd.ntmps77
    go_wp2
    go_ret2
    exact ⟨ret_most HM.out.1 HM.out.2, rfl⟩

set_option maxHeartbeats 400000 in
theorem rmost_any (x : Int) (w : World) : Calls Tryd.prog 81 #[.int .i64 x] w fun e w' => e = .returned (.tuple #[.int .u64 (mostI x), .int .i64 (mostE x)]) ∧ w = w' := by
  by_cases h8 : x = 8
  · subst h8
    go_enter Tryd.func81, Tryd.ntmps81
    go_wp2
    go_ret2
    exact ⟨ret_most (by decide +kernel) (by decide +kernel), rfl⟩
  by_cases h4 : x = 4
  · subst h4
    go_enter Tryd.func81, Tryd.ntmps81
    go_wp2
    go_ret2
    exact ⟨ret_most (by decide +kernel) (by decide +kernel), rfl⟩
  by_cases h2 : x = 2
  · subst h2
    go_enter Tryd.func81, Tryd.ntmps81
    go_wp2
    go_ret2
    exact ⟨ret_most (by decide +kernel) (by decide +kernel), rfl⟩
  by_cases h1 : x = 1
  · subst h1
    go_enter Tryd.func81, Tryd.ntmps81
    go_wp2
    go_ret2
    exact ⟨ret_most (by decide +kernel) (by decide +kernel), rfl⟩
  · have HM := Lib.hid (show (0 : Int) = mostI x ∧ (1 : Int) = mostE x from by simp [mostI, mostE, wid, h8, h4, h2, h1])
    go_enter Tryd.func81, Tryd.ntmps81
    go_wp2
    go_ret2
    exact ⟨ret_most HM.out.1 HM.out.2, rfl⟩
theorem most_no (x : Int) (w : World) (h : wid x = false) : Calls Tryd.prog 77 #[.int .i64 x] w fun e w' => e = .returned (.tuple #[.int .u64 0, .int .i64 1]) ∧ w = w' := by
  have e1 : mostI x = 0 := by simp [wid] at h; simp [mostI, h]
  have e2 : mostE x = 1 := by simp [mostE, h]
  have := most_any x w
  rwa [e1, e2] at this
theorem most_yes (x : Int) (w : World) (h : wid x = true) : Calls Tryd.prog 77 #[.int .i64 x] w fun e w' => e = .returned (.tuple #[.int .u64 (mostI x), .int .i64 0]) ∧ w = w' := by
  have e2 : mostE x = 0 := by simp [mostE, h]
  have := most_any x w
  rwa [e2] at this
theorem rmost_no (x : Int) (w : World) (h : wid x = false) : Calls Tryd.prog 81 #[.int .i64 x] w fun e w' => e = .returned (.tuple #[.int .u64 0, .int .i64 1]) ∧ w = w' := by
  have e1 : mostI x = 0 := by simp [wid] at h; simp [mostI, h]
  have e2 : mostE x = 1 := by simp [mostE, h]
  have := rmost_any x w
  rwa [e1, e2] at this
theorem rmost_yes (x : Int) (w : World) (h : wid x = true) : Calls Tryd.prog 81 #[.int .i64 x] w fun e w' => e = .returned (.tuple #[.int .u64 (mostI x), .int .i64 0]) ∧ w = w' := by
  have e2 : mostE x = 0 := by simp [mostE, h]
  have := rmost_any x w
  rwa [e2] at this

/-- What Put leaves: bytes in memory of its own, or nil, and an error. -/
def PutPost (w : World) (l : List UInt8) (er : Int) (e : Ending) (w' : World) : Prop :=
  ∃ A n c, e = .returned (.tuple #[.slice A n c, .int .i64 er]) ∧ Byt w' w'.heap.size A n l ∧ Below w.heap.size w w'
theorem PutPost.none_ {w : World} {l : List UInt8} {er : Int} {a : Int} (hl : l = []) (h : a = er) : PutPost w l er (.returned (.tuple #[.slice none 0 0, .int .i64 a])) w := by
  subst hl h
  exact ⟨none, 0, 0, rfl, Byt.none_, Below.refl _ _⟩
theorem PutPost.row {w w' : World} {l : List UInt8} {g k c : Nat} {e : TypeId} (hr : Row w' g e l) (hl : l.length = k) (hk : k ≤ 8) (hb : Below w.heap.size w w') :
    PutPost w l 0 (.returned (.tuple #[.slice (some ⟨g, 0, none⟩) k c, .int .i64 0])) w' :=
  ⟨_, _, _, rfl, hr.byt hl (by unfold maxLen; omega) hr.lt, hb⟩

theorem put_byte (n m : Nat) (hn : n ≤ 18446744073709551615) : bits .and .u64 ((n : Int) / 2 ^ (8 * m)) 255 % 256 = ((UInt8.ofNat (n / 256 ^ m)).toNat : Int) := by
  have e1 : ((n : Int) / 2 ^ (8 * m)) = ((n / 256 ^ m : Nat) : Int) := by
    rw [Int.natCast_ediv, Int.natCast_pow, show ((256 : Nat) : Int) = 2 ^ 8 from rfl, ← Int.pow_mul]
  have h1 : n / 256 ^ m ≤ n := Nat.div_le_self _ _
  have h2 := u64_and_nat (n / 256 ^ m) 255 (by omega) (by omega)
  have h3 : (n / 256 ^ m) &&& 255 = n / 256 ^ m % 256 := Nat.and_two_pow_sub_one_eq_mod _ 8
  rw [e1]
  rw [h3] at h2
  rw [show ((255 : Nat) : Int) = 255 from rfl] at h2
  rw [h2, UInt8.toNat_ofNat']
  omega
theorem cast_div (n m : Nat) : ((n : Int) / 256 ^ m) = ((n / 256 ^ m : Nat) : Int) := by rw [Int.natCast_ediv, Int.natCast_pow]; rfl
theorem rput_rem (n m : Nat) : ((n : Int) / 256 ^ m).tmod 256 % 256 = ((UInt8.ofNat (n / 256 ^ m)).toNat : Int) := by
  rw [cast_div, UInt8.toNat_ofNat']
  generalize n / 256 ^ m = q
  rw [Int.tmod_eq_emod_of_nonneg (by omega)]
  omega
theorem rput_quo (n m : Nat) (hn : n ≤ 18446744073709551615) : IntKind.u64.wrap (((n : Int) / 256 ^ m).tdiv 256) = ((n / 256 ^ (m + 1) : Nat) : Int) := by
  have h1 : n / 256 ^ m ≤ n := Nat.div_le_self _ _
  rw [cast_div, IntKind.wrap_u64, Nat.pow_succ, ← Nat.div_div_eq_div_mul]
  revert h1
  generalize n / 256 ^ m = q
  intro h1
  rw [Int.tdiv_eq_ediv_of_nonneg (by omega)]
  omega
theorem set_mid (j : Nat) (L : List UInt8) (u : UInt8) : (List.replicate (j + 1) 0 ++ L).set j u = List.replicate j 0 ++ (u :: L) := by
  rw [List.replicate_succ', List.append_assoc, List.set_append]
  simp
theorem row_put {wr : World} {g m j n : Nat} {e : TypeId} {z : Int} (h : Row wr g e (List.replicate (j + 1) 0 ++ beL m n)) (hz : z = ((UInt8.ofNat (n / 256 ^ m)).toNat : Int)) :
    Row (wr.setCell ⟨g, j, none⟩ (.int .u8 z)) g e (List.replicate j 0 ++ beL (m + 1) n) := by
  subst hz
  have := h.set_ j (UInt8.ofNat (n / 256 ^ m))
  rwa [set_mid] at this

set_option maxHeartbeats 400000 in
theorem put_any (x : Int) (n : Nat) (w : World) (hn : n ≤ 18446744073709551615) :
    Calls Tryd.prog 56 #[.int .i64 x, .int .u64 (n : Int)] w (PutPost w (putL x n) (putE x n)) := by
  by_cases hx : wid x = true
  · have hmx : Calls Tryd.prog 77 #[.int .i64 x] w fun e w' => e = .returned (.tuple #[.int .u64 (mostI x), .int .i64 0]) ∧ w = w' := most_yes x w hx
    have HM := Lib.hid hmx
    clear hmx
    by_cases hm : (n : Int) ≤ mostI x
    · obtain ⟨k, rfl, hk⟩ := wid_nat hx
      have HL := Lib.hid (show putL k n = beL k n from by simp [putL, hx, hm])
      have HE := Lib.hid (show putE k n = 0 from by simp [putE, hx, hm])
      have hk8 : k ≤ 8 := by omega
      rw [HE.out, HL.out]
      clear hx
      have hmk : ∀ W : World, (Instr.makeSlice 26 (.int .i64 (k : Int)) (.int .i64 (k : Int))).run Tryd.prog W = .ok (.slice (some ⟨W.heap.size, 0, none⟩) k k) (W.alloc (.cells (bvs (List.replicate k 0)) 5)) := make_bytes (P := Tryd.prog) Tryd.underlying26 info_u8 k (by omega)
      go_enter Tryd.func56, Tryd.ntmps56
      go_wp2_with (go_at_call 77; refine HM.out.mono ?_; rintro e w' ⟨rfl, rfl⟩)
      go_loopw [24] (fun i wr => ∃ m : Nat, m ≤ k ∧ i = .int .i64 m ∧ Row wr w.heap.size 5 (List.replicate (k - m) 0 ++ beL m n) ∧ Below w.heap.size w wr) (fun i _ => k - (intOf i).toNat)
      case atStart => exact ⟨0, Nat.zero_le _, rfl, by simpa [beL] using Row.new w 5 (List.replicate k 0), (Below.refl _ _).alloc (Nat.le_refl _) _⟩
      case round =>
        obtain ⟨m, hm1, rfl, hrow, hbel⟩ := hrel
        by_cases hlt : m < k
        · obtain ⟨j, hj⟩ : ∃ j, k = m + (j + 1) := ⟨k - m - 1, by omega⟩
          subst hj
          have q1 : ((m : Int) + (j + 1) - 1 - m) = j := by omega
          have e0 : m + (j + 1) - m = j + 1 := by omega
          rw [e0] at hrow
          have hc := hrow.cell (i := j) (u := 0) (by simp [List.getElem?_append])
          have hf := hrow.frozen j
          have HR := Lib.hid hrow
          have HB := Lib.hid hbel
          clear hrow hbel e0
          go_wp2
          exact ⟨⟨m + 1, by omega, by go_num, by rw [show m + (j + 1) - (m + 1) = j from by omega]; exact row_put HR.out (put_byte n m hn), HB.out.setCell (Nat.le_refl _) _⟩, by simp [intOf]; omega⟩
        · obtain rfl : k = m := by omega
          have HR := Lib.hid hrow
          have HB := Lib.hid hbel
          clear hrow hbel
          go_wp2
          go_ret2
          exact PutPost.row (by have := HR.out; rwa [Nat.sub_self, List.replicate_zero, List.nil_append] at this) (beL_length _ _) hk8 HB.out
    · have HL := Lib.hid (show putL x n = [] from by simp [putL, hm])
      have HE := Lib.hid (show (8 : Int) = putE x n from by simp [putE, hx, hm])
      clear hx
      go_enter Tryd.func56, Tryd.ntmps56
      go_wp2_with (go_at_call 77; refine HM.out.mono ?_; rintro e w' ⟨rfl, rfl⟩)
      go_ret2
      exact PutPost.none_ HL.out HE.out
  · have hx' : wid x = false := by simpa using hx
    have HM := Lib.hid (most_no x w hx')
    have HL := Lib.hid (show putL x n = [] from by simp [putL, hx'])
    have HE := Lib.hid (show (1 : Int) = putE x n from by simp [putE, hx'])
    clear hx hx'
    go_enter Tryd.func56, Tryd.ntmps56
    go_wp2_with (go_at_call 77; refine HM.out.mono ?_; rintro e w' ⟨rfl, rfl⟩)
    go_ret2
    exact PutPost.none_ HL.out HE.out

set_option maxHeartbeats 400000 in
theorem rput_any (x : Int) (n : Nat) (w : World) (hn : n ≤ 18446744073709551615) :
    Calls Tryd.prog 61 #[.int .i64 x, .int .u64 (n : Int)] w (PutPost w (putL x n) (putE x n)) := by
  by_cases hx : wid x = true
  · have HM := Lib.hid (rmost_yes x w hx)
    by_cases hm : (n : Int) ≤ mostI x
    · obtain ⟨k, rfl, hk⟩ := wid_nat hx
      have HL := Lib.hid (show putL k n = beL k n from by simp [putL, hx, hm])
      have HE := Lib.hid (show putE k n = 0 from by simp [putE, hx, hm])
      have hk8 : k ≤ 8 := by omega
      have hk1 : 1 ≤ k := by omega
      rw [HE.out, HL.out]
      clear hx
      have hmk : ∀ W : World, (Instr.makeSlice 26 (.int .i64 (k : Int)) (.int .i64 (k : Int))).run Tryd.prog W = .ok (.slice (some ⟨W.heap.size, 0, none⟩) k k) (W.alloc (.cells (bvs (List.replicate k 0)) 5)) := make_bytes (P := Tryd.prog) Tryd.underlying26 info_u8 k (by omega)
      go_enter Tryd.func61, Tryd.ntmps61
      go_wp2_with (go_at_call 81; refine HM.out.mono ?_; rintro e w' ⟨rfl, rfl⟩)
      go_loopw [1, 9] (fun v i wr => ∃ m : Nat, m ≤ k ∧ i = .int .i64 ((k : Int) - 1 - m) ∧ v = .int .u64 ((n / 256 ^ m : Nat) : Int) ∧ Row wr w.heap.size 5 (List.replicate (k - m) 0 ++ beL m n) ∧ Below w.heap.size w wr) (fun _ i _ => (intOf i + 1).toNat)
      case atStart => exact ⟨0, Nat.zero_le _, by simp, by simp, by simpa [beL] using Row.new w 5 (List.replicate k 0), (Below.refl _ _).alloc (Nat.le_refl _) _⟩
      case round =>
        obtain ⟨m, hm1, rfl, rfl, hrow, hbel⟩ := hrel
        by_cases hlt : m < k
        · obtain ⟨j, hj⟩ : ∃ j, k = m + (j + 1) := ⟨k - m - 1, by omega⟩
          subst hj
          have q1 : ((m : Int) + (j + 1) - 1 - m) = j := by omega
          have e0 : m + (j + 1) - m = j + 1 := by omega
          rw [e0] at hrow
          have hc := hrow.cell (i := j) (u := 0) (by simp [List.getElem?_append])
          have hf := hrow.frozen j
          have HR := Lib.hid hrow
          have HB := Lib.hid hbel
          clear hrow hbel e0
          go_wp2
          exact ⟨⟨m + 1, by omega, by rw [show ((m + (j + 1) : Nat) : Int) - 1 - ((m + 1 : Nat) : Int) = j - 1 from by omega], by rw [rput_quo n m hn], by rw [show m + (j + 1) - (m + 1) = j from by omega]; exact row_put HR.out (rput_rem n m), HB.out.setCell (Nat.le_refl _) _⟩, by simp [intOf]; omega⟩
        · obtain rfl : k = m := by omega
          have HR := Lib.hid hrow
          have HB := Lib.hid hbel
          have q1 : ((k : Int) - 1 - k) = -1 := by omega
          clear hrow hbel
          go_wp2
          go_ret2
          exact PutPost.row (by have := HR.out; rwa [Nat.sub_self, List.replicate_zero, List.nil_append] at this) (beL_length _ _) hk8 HB.out
    · have HL := Lib.hid (show putL x n = [] from by simp [putL, hm])
      have HE := Lib.hid (show (8 : Int) = putE x n from by simp [putE, hx, hm])
      clear hx
      go_enter Tryd.func61, Tryd.ntmps61
      go_wp2_with (go_at_call 81; refine HM.out.mono ?_; rintro e w' ⟨rfl, rfl⟩)
      go_ret2
      exact PutPost.none_ HL.out HE.out
  · have hx' : wid x = false := by simpa using hx
    have HM := Lib.hid (rmost_no x w hx')
    have HL := Lib.hid (show putL x n = [] from by simp [putL, hx'])
    have HE := Lib.hid (show (1 : Int) = putE x n from by simp [putE, hx'])
    clear hx hx'
    go_enter Tryd.func61, Tryd.ntmps61
    go_wp2_with (go_at_call 81; refine HM.out.mono ?_; rintro e w' ⟨rfl, rfl⟩)
    go_ret2
    exact PutPost.none_ HL.out HE.out

theorem ret_ui {a b a' b' : Int} (h : a = a') (h' : b = b') : Ending.returned (.tuple #[.int .u64 a, .int .i64 b]) = .returned (.tuple #[.int .u64 a', .int .i64 b']) := by rw [h, h']

/-- What first answers. -/
theorem ofL_take {l : List UInt8} {m : Nat} {u : UInt8} (h : l[m]? = some u) : ofL (l.take (m + 1)) = 256 * ofL (l.take m) + u.toNat := by
  obtain ⟨hl, rfl⟩ := List.getElem?_eq_some_iff.1 h
  rw [List.take_succ_eq_append_getElem hl, ofL_snoc]
theorem ofL_take_lt (l : List UInt8) {m : Nat} (h : m ≤ 7) : ofL (l.take m) < 72057594037927936 := by
  have h1 := ofL_lt (l.take m)
  have h2 : (256 : Nat) ^ (l.take m).length ≤ 256 ^ 7 := Nat.pow_le_pow_right (by omega) (by simp; omega)
  omega
theorem shl_or (a : Nat) (u : UInt8) (h : a < 72057594037927936) : bits .or .u64 (IntKind.u64.wrap ((a : Int) * 256)) (IntKind.u64.wrap (u.toNat : Int)) = ((256 * a + u.toNat : Nat) : Int) := by
  have hu : u.toNat < 256 := u.toNat_lt
  have e : IntKind.u64.wrap ((a : Int) * 256) = ((256 * a : Nat) : Int) := by rw [IntKind.wrap_u64]; omega
  have e' : IntKind.u64.wrap (u.toNat : Int) = (u.toNat : Int) := by rw [IntKind.wrap_u64]; omega
  rw [e, e', u64_or_nat (256 * a) u.toNat (by omega) (by omega)]
  have := Nat.two_pow_add_eq_or_of_lt (i := 8) (b := u.toNat) (by omega) a
  rw [show (2 : Nat) ^ 8 = 256 from rfl] at this
  rw [this]

set_option maxHeartbeats 400000 in
theorem first_any (x : Int) (A : Option Addr) (n c B : Nat) (l : List UInt8) (w : World) (ha : Byt w B A n l) :
    Calls Tryd.prog 103 #[.int .i64 x, .slice A n c] w fun e w' => e = .returned (.tuple #[.int .u64 (firstN x l : Int), .int .i64 (firstE x l)]) ∧ w = w' := by
  have HN := Lib.hid ha.1
  have hnm : n ≤ 9223372036854775807 := by have := ha.2.1; unfold maxLen at this; omega
  by_cases hx : wid x = true
  · have HM := Lib.hid (most_yes x w hx)
    obtain ⟨k, rfl, hk⟩ := wid_nat hx
    have hk8 : k ≤ 8 := by omega
    by_cases hm : k ≤ n
    · have HF := Lib.hid (show firstN k l = ofL (l.take k) ∧ firstE k l = 0 from by simp [firstN, firstE, hx, HN.out, hm])
      clear hx hk
      rw [HF.out.1, HF.out.2]
      go_enter Tryd.func103, Tryd.ntmps103
      go_wp2_with (go_at_call 77; refine HM.out.mono ?_; rintro e w' ⟨rfl, rfl⟩)
      go_loop [8, 23] (fun v i => ∃ m : Nat, m ≤ k ∧ i = .int .i64 m ∧ v = .int .u64 (ofL (l.take m) : Int)) (fun _ i => k - (intOf i).toNat)
      case atStart => exact ⟨0, Nat.zero_le _, rfl, rfl⟩
      case round =>
        obtain ⟨m, hm1, rfl, rfl⟩ := hrel
        by_cases hlt : m < k
        · obtain ⟨ad, u, rfl, hu1, hu2, hu3⟩ := ha.at_ (k := m) (by omega)
          have HU := Lib.hid (ofL_take hu2)
          clear hu2
          have HT := Lib.hid (shl_or (ofL (l.take m)) u (ofL_take_lt l (m := m) (by omega)))
          go_wp2
          exact ⟨⟨m + 1, by omega, by go_num, by rw [HT.out, HU.out]⟩, by simp [intOf]; omega⟩
        · obtain rfl : k = m := by omega
          go_wp2
          go_ret2
          exact ⟨rfl, rfl⟩
    · have HF := Lib.hid (show 0 = (firstN k l : Int) ∧ 4 = firstE k l from by simp [firstN, firstE, hx, HN.out, hm])
      clear hx hk
      go_enter Tryd.func103, Tryd.ntmps103
      go_wp2_with (go_at_call 77; refine HM.out.mono ?_; rintro e w' ⟨rfl, rfl⟩)
      go_ret2
      exact ⟨ret_ui HF.out.1 HF.out.2, rfl⟩
  · have hx' : wid x = false := by simpa using hx
    have HM := Lib.hid (most_no x w hx')
    have HF := Lib.hid (show 0 = (firstN x l : Int) ∧ 1 = firstE x l from by simp [firstN, firstE, hx'])
    clear hx hx'
    go_enter Tryd.func103, Tryd.ntmps103
    go_wp2_with (go_at_call 77; refine HM.out.mono ?_; rintro e w' ⟨rfl, rfl⟩)
    go_ret2
    exact ⟨ret_ui HF.out.1 HF.out.2, rfl⟩

/-- What Take leaves: a number, the others, and an error. -/
def TakePost (w : World) (v : Int) (l : List UInt8) (er : Int) (e : Ending) (w' : World) : Prop :=
  ∃ A n c, e = .returned (.tuple #[.int .u64 v, .slice A n c, .int .i64 er]) ∧ Byt w' w'.heap.size A n l ∧ n ≤ c ∧ Below w.heap.size w w'
theorem TakePost.none_ {w w' : World} {l : List UInt8} {v er : Int} {a b : Int} (hl : l = []) (hv : b = v) (h : a = er) (hb : Below w.heap.size w w') : TakePost w v l er (.returned (.tuple #[.int .u64 b, .slice none 0 0, .int .i64 a])) w' := by
  subst hl h hv
  exact ⟨none, 0, 0, rfl, Byt.none_, Nat.le_refl _, hb⟩
theorem TakePost.row {w w' : World} {l : List UInt8} {v a er : Int} {g k c : Nat} {e : TypeId} (hr : Row w' g e l) (hl : l.length = k) (hk : k ≤ c) (hm : k ≤ maxLen) (h : a = er) (hb : Below w.heap.size w w') :
    TakePost w v l er (.returned (.tuple #[.int .u64 v, .slice (some ⟨g, 0, none⟩) k c, .int .i64 a])) w' := by
  subst h
  exact ⟨_, _, _, rfl, hr.byt hl hm hr.lt, hk, hb⟩
theorem TakePost.byt {w w' : World} {l : List UInt8} {v b er : Int} {A : Option Addr} {k c : Nat} (hr : Byt w' w'.heap.size A k l) (hk : k ≤ c) (h : b = er) (hb : Below w.heap.size w w') :
    TakePost w v l er (.returned (.tuple #[.int .u64 v, .slice A k c, .int .i64 b])) w' := by
  subst h
  exact ⟨_, _, _, rfl, hr, hk, hb⟩

theorem first_yes (k : Nat) (A : Option Addr) (n c B : Nat) (l : List UInt8) (w : World) (ha : Byt w B A n l) (hx : wid k = true) (hk : k ≤ n) :
    Calls Tryd.prog 103 #[.int .i64 k, .slice A n c] w fun e w' => e = .returned (.tuple #[.int .u64 (ofL (l.take k) : Int), .int .i64 0]) ∧ w = w' := by
  have h := first_any k A n c B l w ha
  have e1 : firstN k l = ofL (l.take k) := by simp [firstN, hx, ha.1, hk]
  have e2 : firstE k l = 0 := by simp [firstE, hx, ha.1, hk]
  rwa [e1, e2] at h

set_option maxHeartbeats 400000 in
theorem take_any (x : Int) (A : Option Addr) (n c B : Nat) (l : List UInt8) (w : World) (ha : Byt w B A n l) (hnc : n ≤ c) (hB : B ≤ w.heap.size) (hs : n ≤ 281474976710656) :
    Calls Tryd.prog 86 #[.int .i64 x, .slice A n c] w (TakePost w (firstN x l) (restL x l) (firstE x l)) := by
  have HN := Lib.hid ha.1
  by_cases hx : wid x = true ∧ x.toNat ≤ n
  · obtain ⟨hx, hm⟩ := hx
    obtain ⟨k, rfl, hk⟩ := wid_nat hx
    simp only [Int.toNat_natCast] at hm
    have HF := Lib.hid (first_yes k A n c B l w ha hx hm)
    have HE := Lib.hid (show firstN k l = ofL (l.take k) ∧ restL k l = l.drop k ∧ firstE k l = 0 from by simp [firstN, restL, firstE, hx, HN.out, hm])
    rw [HE.out.1, HE.out.2.1, HE.out.2.2]
    clear hx
    have hk1 : 1 ≤ k := by omega
    have hk8 : k ≤ 8 := by omega
    clear hk
    obtain ⟨j, hj⟩ : ∃ j, n = k + j := ⟨n - k, by omega⟩
    subst hj
    obtain ⟨ad, u, rfl, _, _, _⟩ := ha.at_ (k := 0) (by omega)
    have q1 : ((k : Int) + j - k) = j := by omega
    have hmk : ∀ W : World, (Instr.makeSlice 26 (.int .i64 (j : Int)) (.int .i64 (j : Int))).run Tryd.prog W = .ok (.slice (some ⟨W.heap.size, 0, none⟩) j j) (W.alloc (.cells (bvs (List.replicate j 0)) 5)) := make_bytes (P := Tryd.prog) Tryd.underlying26 info_u8 j (by omega)
    obtain ⟨A', hsl, hby⟩ := slice_from (P := Tryd.prog) Tryd.underlying26 size_u8 ad k j c hnc
    obtain ⟨w3, hcp, hrow, hbel⟩ := run_copy_byt (P := Tryd.prog) (w.alloc (.cells (bvs (List.replicate j 0)) 5)) (dT := 26) (sT := 26) 3 Tryd.underlying26 size_u8 w.heap.size j j A' j (c - k) B (List.replicate j 0) (l.drop k) (Row.new _ _ _) (by simp) ((hby _ _ _ ha).alloc hB _)
    have hrow' : Row w3 w.heap.size 5 (l.drop k) := by
      rwa [show (List.replicate j (0 : UInt8)).drop j = [] from by simp, List.append_nil, List.take_of_length_le (by have := HN.out; simp; omega)] at hrow
    have HROW := Lib.hid hrow'
    have HB3 := Lib.hid (((Below.refl w.heap.size w).alloc (Nat.le_refl _) _).trans hbel)
    clear hby hrow hrow' hbel
    go_enter Tryd.func86, Tryd.ntmps86
    go_wp2_with fail
    (with_reducible refine HF.out.mono ?_)
    rintro e w' ⟨rfl, rfl⟩
    go_wp2
    go_ret3
    exact TakePost.row HROW.out (by have := HN.out; simp; omega) (Nat.le_refl _) (by unfold maxLen; omega) rfl HB3.out
  · have HE := Lib.hid (show restL x l = [] ∧ firstN x l = 0 ∧ firstE x l ≠ 0 from by
      have := HN.out
      by_cases h : wid x = true
      · have h2 : ¬ x.toNat ≤ n := fun q => hx ⟨h, q⟩
        simp [restL, firstN, firstE, h, this, h2]
      · simp [restL, firstN, firstE, h])
    have HF := Lib.hid (first_any x A n c B l w ha)
    have hne : ((firstE x l) != 0) = true := by simpa using HE.out.2.2
    have hne' : ¬ firstE x l = 0 := HE.out.2.2
    clear hx
    go_enter Tryd.func86, Tryd.ntmps86
    go_wp2_with fail
    (with_reducible refine HF.out.mono ?_)
    rintro e w' ⟨rfl, rfl⟩
    go_wp2
    go_ret3
    exact TakePost.none_ HE.out.1 (by rw [HE.out.2.1]; rfl) rfl (Below.refl _ _)

theorem rmul_add (a : Nat) (u : UInt8) (h : a < 72057594037927936) : IntKind.u64.wrap (IntKind.u64.wrap (256 * (a : Int)) + IntKind.u64.wrap (u.toNat : Int)) = ((256 * a + u.toNat : Nat) : Int) := by
  have hu : u.toNat < 256 := u.toNat_lt
  rw [IntKind.wrap_u64, IntKind.wrap_u64, IntKind.wrap_u64]; omega

set_option maxHeartbeats 400000 in
theorem rtake_any (x : Int) (A : Option Addr) (n c B : Nat) (l : List UInt8) (w : World) (ha : Byt w B A n l) (hnc : n ≤ c) (hB : B ≤ w.heap.size) :
    Calls Tryd.prog 90 #[.int .i64 x, .slice A n c] w (TakePost w (firstN x l) (restL x l) (firstE x l)) := by
  have HN := Lib.hid ha.1
  have hnm : n ≤ 9223372036854775807 := by have := ha.2.1; unfold maxLen at this; omega
  by_cases hx : wid x = true
  · have HM := Lib.hid (rmost_yes x w hx)
    obtain ⟨k, rfl, hk⟩ := wid_nat hx
    have hk8 : k ≤ 8 := by omega
    have hk1 : 1 ≤ k := by omega
    by_cases hm : k ≤ n
    · have HE := Lib.hid (show firstN k l = ofL (l.take k) ∧ restL k l = l.drop k ∧ firstE k l = 0 from by simp [firstN, restL, firstE, hx, HN.out, hm])
      rw [HE.out.1, HE.out.2.1, HE.out.2.2]
      clear hx hk
      obtain ⟨j, hj⟩ : ∃ j, n = k + j := ⟨n - k, by omega⟩
      subst hj
      obtain ⟨ad, u0, rfl, _, _, _⟩ := ha.at_ (k := 0) (by omega)
      obtain ⟨A', hsl, hby⟩ := slice_from (P := Tryd.prog) Tryd.underlying26 size_u8 ad k j c hnc
      have HY := Lib.hid hby
      clear hby
      go_enter Tryd.func90, Tryd.ntmps90
      go_wp2_with (go_at_call 81; refine HM.out.mono ?_; rintro e w' ⟨rfl, rfl⟩)
      go_loop [9, 10] (fun v i => ∃ m : Nat, m ≤ k ∧ i = .int .i64 m ∧ v = .int .u64 (ofL (l.take m) : Int)) (fun _ i => k - (intOf i).toNat)
      case atStart => exact ⟨0, Nat.zero_le _, rfl, rfl⟩
      case round =>
        obtain ⟨m, hm1, rfl, rfl⟩ := hrel
        by_cases hlt : m < k
        · obtain ⟨ad', u, hq, hu1, hu2, hu3⟩ := ha.at_ (k := m) (by omega)
          injection hq with hq
          subst hq
          have HU := Lib.hid (ofL_take hu2)
          clear hu2
          have HT := Lib.hid (rmul_add (ofL (l.take m)) u (ofL_take_lt l (m := m) (by omega)))
          go_wp2
          exact ⟨⟨m + 1, by omega, by go_num, by rw [HT.out, HU.out]⟩, by simp [intOf]; omega⟩
        · obtain rfl : k = m := by omega
          go_wp2
          go_quiet (fail)
          go_wp2
          go_ret3
          exact TakePost.byt (((HY.out _ _ _ ha).drewN _).more hB) (by omega) rfl (below_drewN (Below.refl _ _) _)
    · have HE := Lib.hid (show restL k l = [] ∧ 0 = (firstN k l : Int) ∧ 4 = firstE k l from by simp [restL, firstN, firstE, hx, HN.out, hm])
      clear hx hk
      go_enter Tryd.func90, Tryd.ntmps90
      go_wp2_with (go_at_call 81; refine HM.out.mono ?_; rintro e w' ⟨rfl, rfl⟩)
      go_ret3
      exact TakePost.none_ HE.out.1 HE.out.2.1 HE.out.2.2 (Below.refl _ _)
  · have hx' : wid x = false := by simpa using hx
    have HM := Lib.hid (rmost_no x w hx')
    have HE := Lib.hid (show restL x l = [] ∧ 0 = (firstN x l : Int) ∧ 1 = firstE x l from by simp [restL, firstN, firstE, hx'])
    clear hx hx'
    go_enter Tryd.func90, Tryd.ntmps90
    go_wp2_with (go_at_call 81; refine HM.out.mono ?_; rintro e w' ⟨rfl, rfl⟩)
    go_ret3
    exact TakePost.none_ HE.out.1 HE.out.2.1 HE.out.2.2 (Below.refl _ _)
end Go.Proofs.YtdpddkpfllioiaaDoor
