/-
  What uenc.Most, Put, first and the document's answer.
  What uenc.Cmp and the document's Cmp (layer 2) answer.
  What ienc.look, Least, Most, Put, Take answer, where the table of the widths lies as the program's text lays it.
  What ienc.above, at, Put, Take answer.
  The document's answers of layer 3, and the order of two numbers with a sign.
  What ienc.PutBool, TakeBool and the document's TakeBool answer.
-/
import Derived.Test.YtofccfbiappgaaaDoorKeys
import Derived.Test.YtofccfbiappgaaaDoorMem
import Derived.Test.YtofccfbiappgaaaDoorPure
import Derived.Laws.BitsAllLaws
import Derived.IntWalk
import Derived.Deep.MidRow
import Derived.Laws.ResultCell
namespace Go.Proofs.YtofccfbiappgaaaDoor
open Go.RowKit

theorem ret_most {x a b : Int} (h : a = mostI x) (h' : b = mostE x) : Ending.returned (.tuple #[.int .u64 a, .int .i64 b]) = .returned (.tuple #[.int .u64 (mostI x), .int .i64 (mostE x)]) := by rw [h, h']

set_option maxRecDepth 100000 in
set_option maxHeartbeats 400000 in
theorem most_any (x : Int) (w : World) : Calls Tryd.prog 68 #[.int .i64 x] w fun e w' => e = .returned (.tuple #[.int .u64 (mostI x), .int .i64 (mostE x)]) ∧ w = w' := by
  by_cases h8 : x = 8
  · subst h8
    go_enter Tryd.func68, Tryd.ntmps68
    go_wp2
    go_ret2
    exact ⟨ret_most (by decide +kernel) (by decide +kernel), rfl⟩
  by_cases h4 : x = 4
  · subst h4
    go_enter Tryd.func68, Tryd.ntmps68
    go_wp2
    go_ret2
    exact ⟨ret_most (by decide +kernel) (by decide +kernel), rfl⟩
  by_cases h2 : x = 2
  · subst h2
    go_enter Tryd.func68, Tryd.ntmps68
    go_wp2
    go_ret2
    exact ⟨ret_most (by decide +kernel) (by decide +kernel), rfl⟩
  by_cases h1 : x = 1
  · subst h1
    go_enter Tryd.func68, Tryd.ntmps68
    go_wp2
    go_ret2
    exact ⟨ret_most (by decide +kernel) (by decide +kernel), rfl⟩
  · have HM := Lib.hid (show (0 : Int) = mostI x ∧ (1 : Int) = mostE x from by simp [mostI, mostE, wid, h8, h4, h2, h1])
    go_enter Tryd.func68, Tryd.ntmps68
    go_wp2
    go_ret2
    exact ⟨ret_most HM.out.1 HM.out.2, rfl⟩

set_option maxRecDepth 100000 in
set_option maxHeartbeats 400000 in
theorem rmost_any (x : Int) (w : World) : Calls Tryd.prog 65 #[.int .i64 x] w fun e w' => e = .returned (.tuple #[.int .u64 (mostI x), .int .i64 (mostE x)]) ∧ w = w' := by
  by_cases h8 : x = 8
  · subst h8
    go_enter Tryd.func65, Tryd.ntmps65
    go_wp2
    go_ret2
    exact ⟨ret_most (by decide +kernel) (by decide +kernel), rfl⟩
  by_cases h4 : x = 4
  · subst h4
    go_enter Tryd.func65, Tryd.ntmps65
    go_wp2
    go_ret2
    exact ⟨ret_most (by decide +kernel) (by decide +kernel), rfl⟩
  by_cases h2 : x = 2
  · subst h2
    go_enter Tryd.func65, Tryd.ntmps65
    go_wp2
    go_ret2
    exact ⟨ret_most (by decide +kernel) (by decide +kernel), rfl⟩
  by_cases h1 : x = 1
  · subst h1
    go_enter Tryd.func65, Tryd.ntmps65
    go_wp2
    go_ret2
    exact ⟨ret_most (by decide +kernel) (by decide +kernel), rfl⟩
  · have HM := Lib.hid (show (0 : Int) = mostI x ∧ (1 : Int) = mostE x from by simp [mostI, mostE, wid, h8, h4, h2, h1])
    go_enter Tryd.func65, Tryd.ntmps65
    go_wp2
    go_ret2
    exact ⟨ret_most HM.out.1 HM.out.2, rfl⟩
set_option maxRecDepth 100000 in
theorem most_no (x : Int) (w : World) (h : wid x = false) : Calls Tryd.prog 68 #[.int .i64 x] w fun e w' => e = .returned (.tuple #[.int .u64 0, .int .i64 1]) ∧ w = w' := by
  have e1 : mostI x = 0 := by simp [wid] at h; simp [mostI, h]
  have e2 : mostE x = 1 := by simp [mostE, h]
  have := most_any x w
  rwa [e1, e2] at this
set_option maxRecDepth 100000 in
theorem most_yes (x : Int) (w : World) (h : wid x = true) : Calls Tryd.prog 68 #[.int .i64 x] w fun e w' => e = .returned (.tuple #[.int .u64 (mostI x), .int .i64 0]) ∧ w = w' := by
  have e2 : mostE x = 0 := by simp [mostE, h]
  have := most_any x w
  rwa [e2] at this
set_option maxRecDepth 100000 in
theorem rmost_no (x : Int) (w : World) (h : wid x = false) : Calls Tryd.prog 65 #[.int .i64 x] w fun e w' => e = .returned (.tuple #[.int .u64 0, .int .i64 1]) ∧ w = w' := by
  have e1 : mostI x = 0 := by simp [wid] at h; simp [mostI, h]
  have e2 : mostE x = 1 := by simp [mostE, h]
  have := rmost_any x w
  rwa [e1, e2] at this
set_option maxRecDepth 100000 in
theorem rmost_yes (x : Int) (w : World) (h : wid x = true) : Calls Tryd.prog 65 #[.int .i64 x] w fun e w' => e = .returned (.tuple #[.int .u64 (mostI x), .int .i64 0]) ∧ w = w' := by
  have e2 : mostE x = 0 := by simp [mostE, h]
  have := rmost_any x w
  rwa [e2] at this

/-- What Put leaves: bytes in memory of its own, or nil, and an error. -/
def PutPost (w : World) (l : List UInt8) (er : Int) (e : Ending) (w' : World) : Prop :=
  ∃ A n c, e = .returned (.tuple #[.slice A n c, .int .i64 er]) ∧ Byt w' w'.heap.size A n l ∧ Below w.heap.size w w'
theorem PutPost.none_ {w : World} {l : List UInt8} {er : Int} {a : Int} (hl : l = []) (h : a = er) : PutPost w l er (.returned (.tuple #[.slice none 0 0, .int .i64 a])) w := by
  subst hl h
  exact ⟨none, 0, 0, rfl, Byt.none_, Below.refl _ _⟩
theorem PutPost.row {w w' : World} {l : List UInt8} {g k c : Nat} {e : TypeId} (hr : Row w' g e l) (hl : l.length = k) (hk : k ≤ 8) (hb : Below w.heap.size w w') :
    PutPost w l 0 (.returned (.tuple #[.slice (some ⟨g, 0, none⟩) k c, .int .i64 0])) w' :=
  ⟨_, _, _, rfl, hr.byt hl (by unfold maxLen; omega) hr.lt, hb⟩

theorem put_byte (n m : Nat) (hn : n ≤ 18446744073709551615) : bits .and .u64 ((n : Int) / 2 ^ (8 * m)) 255 % 256 = ((UInt8.ofNat (n / 256 ^ m)).toNat : Int) := by
  have e1 : ((n : Int) / 2 ^ (8 * m)) = ((n / 256 ^ m : Nat) : Int) := by
    rw [Int.natCast_ediv, Int.natCast_pow, show ((256 : Nat) : Int) = 2 ^ 8 from rfl, ← Int.pow_mul]
  have h1 : n / 256 ^ m ≤ n := Nat.div_le_self _ _
  have h2 := u64_and_nat (n / 256 ^ m) 255 (by omega) (by omega)
  have h3 : (n / 256 ^ m) &&& 255 = n / 256 ^ m % 256 := Nat.and_two_pow_sub_one_eq_mod _ 8
  rw [e1]
  rw [h3] at h2
  rw [show ((255 : Nat) : Int) = 255 from rfl] at h2
  rw [h2, UInt8.toNat_ofNat']
  omega
theorem cast_div (n m : Nat) : ((n : Int) / 256 ^ m) = ((n / 256 ^ m : Nat) : Int) := by rw [Int.natCast_ediv, Int.natCast_pow]; rfl
theorem rput_rem (n m : Nat) : ((n : Int) / 256 ^ m).tmod 256 % 256 = ((UInt8.ofNat (n / 256 ^ m)).toNat : Int) := by
  rw [cast_div, UInt8.toNat_ofNat']
  generalize n / 256 ^ m = q
  rw [Int.tmod_eq_emod_of_nonneg (by omega)]
  omega
theorem rput_quo (n m : Nat) (hn : n ≤ 18446744073709551615) : IntKind.u64.wrap (((n : Int) / 256 ^ m).tdiv 256) = ((n / 256 ^ (m + 1) : Nat) : Int) := by
  have h1 : n / 256 ^ m ≤ n := Nat.div_le_self _ _
  rw [cast_div, IntKind.wrap_u64, Nat.pow_succ, ← Nat.div_div_eq_div_mul]
  revert h1
  generalize n / 256 ^ m = q
  intro h1
  rw [Int.tdiv_eq_ediv_of_nonneg (by omega)]
  omega
theorem set_mid (j : Nat) (L : List UInt8) (u : UInt8) : (List.replicate (j + 1) 0 ++ L).set j u = List.replicate j 0 ++ (u :: L) := by
  rw [List.replicate_succ', List.append_assoc, List.set_append]
  simp
theorem row_put {wr : World} {g m j n : Nat} {e : TypeId} {z : Int} (h : Row wr g e (List.replicate (j + 1) 0 ++ beL m n)) (hz : z = ((UInt8.ofNat (n / 256 ^ m)).toNat : Int)) :
    Row (wr.setCell ⟨g, j, none⟩ (.int .u8 z)) g e (List.replicate j 0 ++ beL (m + 1) n) := by
  subst hz
  have := h.set_ j (UInt8.ofNat (n / 256 ^ m))
  rwa [set_mid] at this

set_option maxRecDepth 100000 in
set_option maxHeartbeats 400000 in
theorem put_any (x : Int) (n : Nat) (w : World) (hn : n ≤ 18446744073709551615) :
    Calls Tryd.prog 60 #[.int .i64 x, .int .u64 (n : Int)] w (PutPost w (putL x n) (putE x n)) := by
  by_cases hx : wid x = true
  · have hmx : Calls Tryd.prog 68 #[.int .i64 x] w fun e w' => e = .returned (.tuple #[.int .u64 (mostI x), .int .i64 0]) ∧ w = w' := most_yes x w hx
    have HM := Lib.hid hmx
    clear hmx
    by_cases hm : (n : Int) ≤ mostI x
    · obtain ⟨k, rfl, hk⟩ := wid_nat hx
      have HL := Lib.hid (show putL k n = beL k n from by simp [putL, hx, hm])
      have HE := Lib.hid (show putE k n = 0 from by simp [putE, hx, hm])
      have hk8 : k ≤ 8 := by omega
      rw [HE.out, HL.out]
      clear hx
      have hmk : ∀ W : World, (Instr.makeSlice 22 (.int .i64 (k : Int)) (.int .i64 (k : Int))).run Tryd.prog W = .ok (.slice (some ⟨W.heap.size, 0, none⟩) k k) (W.alloc (.cells (bvs (List.replicate k 0)) 5)) := make_bytes (P := Tryd.prog) Tryd.underlying22 info_u8 k (by omega)
      go_enter Tryd.func60, Tryd.ntmps60
      go_wp2_with (go_at_call 68; refine HM.out.mono ?_; rintro e w' ⟨rfl, rfl⟩)
      go_loopw [24] (fun i wr => ∃ m : Nat, m ≤ k ∧ i = .int .i64 m ∧ Row wr w.heap.size 5 (List.replicate (k - m) 0 ++ beL m n) ∧ Below w.heap.size w wr) (fun i _ => k - (intOf i).toNat)
      case atStart => exact ⟨0, Nat.zero_le _, rfl, by simpa [beL] using Row.new w 5 (List.replicate k 0), (Below.refl _ _).alloc (Nat.le_refl _) _⟩
      case round =>
        obtain ⟨m, hm1, rfl, hrow, hbel⟩ := hrel
        by_cases hlt : m < k
        · obtain ⟨j, hj⟩ : ∃ j, k = m + (j + 1) := ⟨k - m - 1, by omega⟩
          subst hj
          have q1 : ((m : Int) + (j + 1) - 1 - m) = j := by omega
          have e0 : m + (j + 1) - m = j + 1 := by omega
          rw [e0] at hrow
          have hc := hrow.cell (i := j) (u := 0) (by simp [List.getElem?_append])
          have hf := hrow.frozen j
          have HR := Lib.hid hrow
          have HB := Lib.hid hbel
          clear hrow hbel e0
          go_wp2
          exact ⟨⟨m + 1, by omega, by go_num, by rw [show m + (j + 1) - (m + 1) = j from by omega]; exact row_put HR.out (put_byte n m hn), HB.out.setCell (Nat.le_refl _) _⟩, by simp [intOf]; omega⟩
        · obtain rfl : k = m := by omega
          have HR := Lib.hid hrow
          have HB := Lib.hid hbel
          clear hrow hbel
          go_wp2
          go_ret2
          exact PutPost.row (by have := HR.out; rwa [Nat.sub_self, List.replicate_zero, List.nil_append] at this) (beL_length _ _) hk8 HB.out
    · have HL := Lib.hid (show putL x n = [] from by simp [putL, hm])
      have HE := Lib.hid (show (8 : Int) = putE x n from by simp [putE, hx, hm])
      clear hx
      go_enter Tryd.func60, Tryd.ntmps60
      go_wp2_with (go_at_call 68; refine HM.out.mono ?_; rintro e w' ⟨rfl, rfl⟩)
      go_ret2
      exact PutPost.none_ HL.out HE.out
  · have hx' : wid x = false := by simpa using hx
    have HM := Lib.hid (most_no x w hx')
    have HL := Lib.hid (show putL x n = [] from by simp [putL, hx'])
    have HE := Lib.hid (show (1 : Int) = putE x n from by simp [putE, hx'])
    clear hx hx'
    go_enter Tryd.func60, Tryd.ntmps60
    go_wp2_with (go_at_call 68; refine HM.out.mono ?_; rintro e w' ⟨rfl, rfl⟩)
    go_ret2
    exact PutPost.none_ HL.out HE.out

set_option maxRecDepth 100000 in
set_option maxHeartbeats 400000 in
theorem rput_any (x : Int) (n : Nat) (w : World) (hn : n ≤ 18446744073709551615) :
    Calls Tryd.prog 54 #[.int .i64 x, .int .u64 (n : Int)] w (PutPost w (putL x n) (putE x n)) := by
  by_cases hx : wid x = true
  · have HM := Lib.hid (rmost_yes x w hx)
    by_cases hm : (n : Int) ≤ mostI x
    · obtain ⟨k, rfl, hk⟩ := wid_nat hx
      have HL := Lib.hid (show putL k n = beL k n from by simp [putL, hx, hm])
      have HE := Lib.hid (show putE k n = 0 from by simp [putE, hx, hm])
      have hk8 : k ≤ 8 := by omega
      have hk1 : 1 ≤ k := by omega
      rw [HE.out, HL.out]
      clear hx
      have hmk : ∀ W : World, (Instr.makeSlice 22 (.int .i64 (k : Int)) (.int .i64 (k : Int))).run Tryd.prog W = .ok (.slice (some ⟨W.heap.size, 0, none⟩) k k) (W.alloc (.cells (bvs (List.replicate k 0)) 5)) := make_bytes (P := Tryd.prog) Tryd.underlying22 info_u8 k (by omega)
      go_enter Tryd.func54, Tryd.ntmps54
      go_wp2_with (go_at_call 65; refine HM.out.mono ?_; rintro e w' ⟨rfl, rfl⟩)
      go_loopw [1, 9] (fun v i wr => ∃ m : Nat, m ≤ k ∧ i = .int .i64 ((k : Int) - 1 - m) ∧ v = .int .u64 ((n / 256 ^ m : Nat) : Int) ∧ Row wr w.heap.size 5 (List.replicate (k - m) 0 ++ beL m n) ∧ Below w.heap.size w wr) (fun _ i _ => (intOf i + 1).toNat)
      case atStart => exact ⟨0, Nat.zero_le _, by simp, by simp, by simpa [beL] using Row.new w 5 (List.replicate k 0), (Below.refl _ _).alloc (Nat.le_refl _) _⟩
      case round =>
        obtain ⟨m, hm1, rfl, rfl, hrow, hbel⟩ := hrel
        by_cases hlt : m < k
        · obtain ⟨j, hj⟩ : ∃ j, k = m + (j + 1) := ⟨k - m - 1, by omega⟩
          subst hj
          have q1 : ((m : Int) + (j + 1) - 1 - m) = j := by omega
          have e0 : m + (j + 1) - m = j + 1 := by omega
          rw [e0] at hrow
          have hc := hrow.cell (i := j) (u := 0) (by simp [List.getElem?_append])
          have hf := hrow.frozen j
          have HR := Lib.hid hrow
          have HB := Lib.hid hbel
          clear hrow hbel e0
          go_wp2
          exact ⟨⟨m + 1, by omega, by rw [show ((m + (j + 1) : Nat) : Int) - 1 - ((m + 1 : Nat) : Int) = j - 1 from by omega], by rw [rput_quo n m hn], by rw [show m + (j + 1) - (m + 1) = j from by omega]; exact row_put HR.out (rput_rem n m), HB.out.setCell (Nat.le_refl _) _⟩, by simp [intOf]; omega⟩
        · obtain rfl : k = m := by omega
          have HR := Lib.hid hrow
          have HB := Lib.hid hbel
          have q1 : ((k : Int) - 1 - k) = -1 := by omega
          clear hrow hbel
          go_wp2
          go_ret2
          exact PutPost.row (by have := HR.out; rwa [Nat.sub_self, List.replicate_zero, List.nil_append] at this) (beL_length _ _) hk8 HB.out
    · have HL := Lib.hid (show putL x n = [] from by simp [putL, hm])
      have HE := Lib.hid (show (8 : Int) = putE x n from by simp [putE, hx, hm])
      clear hx
      go_enter Tryd.func54, Tryd.ntmps54
      go_wp2_with (go_at_call 65; refine HM.out.mono ?_; rintro e w' ⟨rfl, rfl⟩)
      go_ret2
      exact PutPost.none_ HL.out HE.out
  · have hx' : wid x = false := by simpa using hx
    have HM := Lib.hid (rmost_no x w hx')
    have HL := Lib.hid (show putL x n = [] from by simp [putL, hx'])
    have HE := Lib.hid (show (1 : Int) = putE x n from by simp [putE, hx'])
    clear hx hx'
    go_enter Tryd.func54, Tryd.ntmps54
    go_wp2_with (go_at_call 65; refine HM.out.mono ?_; rintro e w' ⟨rfl, rfl⟩)
    go_ret2
    exact PutPost.none_ HL.out HE.out

theorem ret_ui {a b a' b' : Int} (h : a = a') (h' : b = b') : Ending.returned (.tuple #[.int .u64 a, .int .i64 b]) = .returned (.tuple #[.int .u64 a', .int .i64 b']) := by rw [h, h']

/-- What first answers. -/
theorem ofL_take {l : List UInt8} {m : Nat} {u : UInt8} (h : l[m]? = some u) : ofL (l.take (m + 1)) = 256 * ofL (l.take m) + u.toNat := by
  obtain ⟨hl, rfl⟩ := List.getElem?_eq_some_iff.1 h
  rw [List.take_succ_eq_append_getElem hl, ofL_snoc]
theorem ofL_take_lt (l : List UInt8) {m : Nat} (h : m ≤ 7) : ofL (l.take m) < 72057594037927936 := by
  have h1 := ofL_lt (l.take m)
  have h2 : (256 : Nat) ^ (l.take m).length ≤ 256 ^ 7 := Nat.pow_le_pow_right (by omega) (by simp; omega)
  omega
theorem shl_or (a : Nat) (u : UInt8) (h : a < 72057594037927936) : bits .or .u64 (IntKind.u64.wrap ((a : Int) * 256)) (IntKind.u64.wrap (u.toNat : Int)) = ((256 * a + u.toNat : Nat) : Int) := by
  have hu : u.toNat < 256 := u.toNat_lt
  have e : IntKind.u64.wrap ((a : Int) * 256) = ((256 * a : Nat) : Int) := by rw [IntKind.wrap_u64]; omega
  have e' : IntKind.u64.wrap (u.toNat : Int) = (u.toNat : Int) := by rw [IntKind.wrap_u64]; omega
  rw [e, e', u64_or_nat (256 * a) u.toNat (by omega) (by omega)]
  have := Nat.two_pow_add_eq_or_of_lt (i := 8) (b := u.toNat) (by omega) a
  rw [show (2 : Nat) ^ 8 = 256 from rfl] at this
  rw [this]

/-- What Take leaves: a number, the others, and an error. -/
def TakePost (w : World) (v : Int) (l : List UInt8) (er : Int) (e : Ending) (w' : World) : Prop :=
  ∃ A n c, e = .returned (.tuple #[.int .u64 v, .slice A n c, .int .i64 er]) ∧ Byt w' w'.heap.size A n l ∧ n ≤ c ∧ Below w.heap.size w w'
theorem TakePost.none_ {w w' : World} {l : List UInt8} {v er : Int} {a b : Int} (hl : l = []) (hv : b = v) (h : a = er) (hb : Below w.heap.size w w') : TakePost w v l er (.returned (.tuple #[.int .u64 b, .slice none 0 0, .int .i64 a])) w' := by
  subst hl h hv
  exact ⟨none, 0, 0, rfl, Byt.none_, Nat.le_refl _, hb⟩
theorem TakePost.row {w w' : World} {l : List UInt8} {v a er : Int} {g k c : Nat} {e : TypeId} (hr : Row w' g e l) (hl : l.length = k) (hk : k ≤ c) (hm : k ≤ maxLen) (h : a = er) (hb : Below w.heap.size w w') :
    TakePost w v l er (.returned (.tuple #[.int .u64 v, .slice (some ⟨g, 0, none⟩) k c, .int .i64 a])) w' := by
  subst h
  exact ⟨_, _, _, rfl, hr.byt hl hm hr.lt, hk, hb⟩
theorem TakePost.byt {w w' : World} {l : List UInt8} {v b er : Int} {A : Option Addr} {k c : Nat} (hr : Byt w' w'.heap.size A k l) (hk : k ≤ c) (h : b = er) (hb : Below w.heap.size w w') :
    TakePost w v l er (.returned (.tuple #[.int .u64 v, .slice A k c, .int .i64 b])) w' := by
  subst h
  exact ⟨_, _, _, rfl, hr, hk, hb⟩

theorem rmul_add (a : Nat) (u : UInt8) (h : a < 72057594037927936) : IntKind.u64.wrap (IntKind.u64.wrap (256 * (a : Int)) + IntKind.u64.wrap (u.toNat : Int)) = ((256 * a + u.toNat : Nat) : Int) := by
  have hu : u.toNat < 256 := u.toNat_lt
  rw [IntKind.wrap_u64, IntKind.wrap_u64, IntKind.wrap_u64]; omega

end Go.Proofs.YtofccfbiappgaaaDoor

namespace Go.Proofs.YtofccfbiappgaaaDoor
open Go.RowKit

set_option maxRecDepth 100000 in
set_option maxHeartbeats 400000 in
theorem rucmp_any (a b : Nat) (w : World) : Calls Tryd.prog 58 #[.int .u64 (a : Int), .int .u64 (b : Int)] w fun e w' => e = .returned (.int .i64 (cmpN a b)) ∧ w = w' := by
  by_cases h1 : a < b
  · have HC := Lib.hid (show -1 = cmpN a b from by simp [cmpN, h1])
    go_enter Tryd.func58, Tryd.ntmps58
    go_wp2
    go_ret
    exact ⟨ret_int HC.out, rfl⟩
  · by_cases h2 : b < a
    · have HC := Lib.hid (show 1 = cmpN a b from by simp [cmpN, h1, h2])
      go_enter Tryd.func58, Tryd.ntmps58
      go_wp2
      go_ret
      exact ⟨ret_int HC.out, rfl⟩
    · have HC := Lib.hid (show 0 = cmpN a b from by simp [cmpN, h1, h2])
      go_enter Tryd.func58, Tryd.ntmps58
      go_wp2
      go_ret
      exact ⟨ret_int HC.out, rfl⟩
end Go.Proofs.YtofccfbiappgaaaDoor

namespace Go.Proofs.YtofccfbiappgaaaDoor
open Go.RowKit

/-- The table of the widths: twelve cells in the variable's own block. -/
def Tab (w : World) : Prop := 0 < w.heap.size ∧
  w.cell? ⟨0, 0, none⟩ = some (.int .i64 1) ∧ w.cell? ⟨0, 1, none⟩ = some (.int .i64 (-128)) ∧ w.cell? ⟨0, 2, none⟩ = some (.int .i64 127) ∧
  w.cell? ⟨0, 3, none⟩ = some (.int .i64 2) ∧ w.cell? ⟨0, 4, none⟩ = some (.int .i64 (-32768)) ∧ w.cell? ⟨0, 5, none⟩ = some (.int .i64 32767) ∧
  w.cell? ⟨0, 6, none⟩ = some (.int .i64 4) ∧ w.cell? ⟨0, 7, none⟩ = some (.int .i64 (-2147483648)) ∧ w.cell? ⟨0, 8, none⟩ = some (.int .i64 2147483647) ∧
  w.cell? ⟨0, 9, none⟩ = some (.int .i64 8) ∧ w.cell? ⟨0, 10, none⟩ = some (.int .i64 (-9223372036854775808)) ∧ w.cell? ⟨0, 11, none⟩ = some (.int .i64 9223372036854775807)
theorem Tab.below {w w' : World} (h : Tab w) (hb : Below w.heap.size w w') : Tab w' := by
  obtain ⟨h0, h⟩ := h
  have hc : ∀ i, w'.cell? ⟨0, i, none⟩ = w.cell? ⟨0, i, none⟩ := fun i => hb.cell (p := ⟨0, i, none⟩) h0
  refine ⟨Nat.lt_of_lt_of_le h0 hb.size, ?_⟩
  simp only [hc]
  exact h

theorem ret_look {x a b c d : Int} (h : a = widI x ∧ b = leastI x ∧ c = imostI x ∧ d = mostE x) : Ending.returned (.tuple #[.agg #[.int .i64 a, .int .i64 b, .int .i64 c], .int .i64 d]) = .returned (.tuple #[.agg #[.int .i64 (widI x), .int .i64 (leastI x), .int .i64 (imostI x)], .int .i64 (mostE x)]) := by
  obtain ⟨rfl, rfl, rfl, rfl⟩ := h
  rfl

set_option maxRecDepth 100000 in
theorem num_size : (Tryd.prog.info? 104).map (·.size) = some 3 := by kernel_rfl
set_option maxRecDepth 100000 in
theorem load_num (w : World) (g : Nat) {a b c : Value} (h0 : w.cell? ⟨g, 0, none⟩ = some a) (h1 : w.cell? ⟨g, 1, none⟩ = some b) (h2 : w.cell? ⟨g, 2, none⟩ = some c) :
    (loadVar 104 ⟨g, 0, none⟩).run Tryd.prog w = .ok (.agg #[a, b, c]) w := by
  refine run_loadVar_mid w g 0 104 [a, b, c] _ (fun j v hv => ?_) Tryd.underlying104 rfl num_size
  rw [Nat.zero_add]
  match j, hv with
  | 0, hv => simp at hv; subst hv; exact h0
  | 1, hv => simp at hv; subst hv; exact h1
  | 2, hv => simp at hv; subst hv; exact h2
theorem ne_off (g i j : Nat) (h : i ≠ j) : (⟨g, i, none⟩ : Addr) ≠ ⟨g, j, none⟩ := fun e => h (by injection e)
set_option maxRecDepth 100000 in
theorem set_num {W : World} {g : Nat} {a b c x y z : Value} (h0 : W.cell? ⟨g, 0, none⟩ = some x) (h1 : W.cell? ⟨g, 1, none⟩ = some y) (h2 : W.cell? ⟨g, 2, none⟩ = some z) :
    (loadVar 104 ⟨g, 0, none⟩).run Tryd.prog (((W.setCell ⟨g, 0, none⟩ a).setCell ⟨g, 1, none⟩ b).setCell ⟨g, 2, none⟩ c) = .ok (.agg #[a, b, c]) (((W.setCell ⟨g, 0, none⟩ a).setCell ⟨g, 1, none⟩ b).setCell ⟨g, 2, none⟩ c) := by
  refine load_num _ g ?_ ?_ ?_
  · rw [World.cell?_setCell_other _ _ _ _ (ne_off g 2 0 (by decide)), World.cell?_setCell_other _ _ _ _ (ne_off g 1 0 (by decide)), World.cell?_setCell_same _ _ _ h0]
  · rw [World.cell?_setCell_other _ _ _ _ (ne_off g 2 1 (by decide)), World.cell?_setCell_same _ _ _ (u := y)]
    rw [World.cell?_setCell_other _ _ _ _ (ne_off g 0 1 (by decide)), h1]
  · rw [World.cell?_setCell_same _ _ _ (u := z)]
    rw [World.cell?_setCell_other _ _ _ _ (ne_off g 1 2 (by decide)), World.cell?_setCell_other _ _ _ _ (ne_off g 0 2 (by decide)), h2]
set_option maxRecDepth 100000 in
theorem index_0 (W : World) : (Instr.index 109 (.agg #[.int .i64 1, .int .i64 (-128), .int .i64 127, .int .i64 2, .int .i64 (-32768), .int .i64 32767, .int .i64 4, .int .i64 (-2147483648), .int .i64 2147483647, .int .i64 8, .int .i64 (-9223372036854775808), .int .i64 9223372036854775807]) (.int .i64 0)).run Tryd.prog W = .ok (.agg #[.int .i64 1, .int .i64 (-128), .int .i64 127]) W := by kernel_rfl
set_option maxRecDepth 100000 in
theorem index_1 (W : World) : (Instr.index 109 (.agg #[.int .i64 1, .int .i64 (-128), .int .i64 127, .int .i64 2, .int .i64 (-32768), .int .i64 32767, .int .i64 4, .int .i64 (-2147483648), .int .i64 2147483647, .int .i64 8, .int .i64 (-9223372036854775808), .int .i64 9223372036854775807]) (.int .i64 1)).run Tryd.prog W = .ok (.agg #[.int .i64 2, .int .i64 (-32768), .int .i64 32767]) W := by kernel_rfl
set_option maxRecDepth 100000 in
theorem index_2 (W : World) : (Instr.index 109 (.agg #[.int .i64 1, .int .i64 (-128), .int .i64 127, .int .i64 2, .int .i64 (-32768), .int .i64 32767, .int .i64 4, .int .i64 (-2147483648), .int .i64 2147483647, .int .i64 8, .int .i64 (-9223372036854775808), .int .i64 9223372036854775807]) (.int .i64 2)).run Tryd.prog W = .ok (.agg #[.int .i64 4, .int .i64 (-2147483648), .int .i64 2147483647]) W := by kernel_rfl
set_option maxRecDepth 100000 in
theorem index_3 (W : World) : (Instr.index 109 (.agg #[.int .i64 1, .int .i64 (-128), .int .i64 127, .int .i64 2, .int .i64 (-32768), .int .i64 32767, .int .i64 4, .int .i64 (-2147483648), .int .i64 2147483647, .int .i64 8, .int .i64 (-9223372036854775808), .int .i64 9223372036854775807]) (.int .i64 3)).run Tryd.prog W = .ok (.agg #[.int .i64 8, .int .i64 (-9223372036854775808), .int .i64 9223372036854775807]) W := by kernel_rfl
set_option maxRecDepth 100000 in
set_option maxHeartbeats 1000000 in
theorem look_any (x : Int) (w : World) (hT : Tab w) :
    Calls Tryd.prog 69 #[.int .i64 x] w fun e w' => e = .returned (.tuple #[.agg #[.int .i64 (widI x), .int .i64 (leastI x), .int .i64 (imostI x)], .int .i64 (mostE x)]) ∧ Below w.heap.size w w' := by
  have HT := Lib.hid hT
  obtain ⟨h0, c0, c1, c2, c3, c4, c5, c6, c7, c8, c9, c10, c11⟩ := hT
  go_enter Tryd.func69, Tryd.ntmps69
  go_wp2
  clear c0 c1 c2 c3 c4 c5 c6 c7 c8 c9 c10 c11
  go_loopw [7] (fun i wr => ∃ m : Nat, m ≤ 4 ∧ i = .int .i64 m ∧ (1 ≤ m → x ≠ 1) ∧ (2 ≤ m → x ≠ 2) ∧ (3 ≤ m → x ≠ 4) ∧ (4 ≤ m → x ≠ 8) ∧ Below (w.heap.size + 1) (w.alloc (.cells #[.int .i64 0, .int .i64 0, .int .i64 0] 104)) wr) (fun i _ => 4 - (intOf i).toNat)
  case atStart => exact ⟨0, by omega, rfl, by omega, by omega, by omega, by omega, Below.refl _ _⟩
  case round =>
    obtain ⟨m, hm, rfl, x1, x2, x4, x8, hbel⟩ := hrel
    have hz0 : wr.cell? ⟨w.heap.size, 0, none⟩ = some (.int .i64 0) := (hbel.cell (p := ⟨w.heap.size, 0, none⟩) (by simp)).trans (by rw [cell_of_row _ w.heap.size 0 _ _ (0, 0) (heap_alloc_new w _)]; rfl)
    have hz1 : wr.cell? ⟨w.heap.size, 1, none⟩ = some (.int .i64 0) := (hbel.cell (p := ⟨w.heap.size, 1, none⟩) (by simp)).trans (by rw [cell_of_row _ w.heap.size 1 _ _ (0, 0) (heap_alloc_new w _)]; rfl)
    have hz2 : wr.cell? ⟨w.heap.size, 2, none⟩ = some (.int .i64 0) := (hbel.cell (p := ⟨w.heap.size, 2, none⟩) (by simp)).trans (by rw [cell_of_row _ w.heap.size 2 _ _ (0, 0) (heap_alloc_new w _)]; rfl)
    have hf : ∀ o, wr.frozen? ⟨w.heap.size, o, none⟩ = false := fun o => (hbel.frozen (p := ⟨w.heap.size, o, none⟩) (by simp)).trans (by simp only [World.frozen?, heap_alloc_new]; simp)
    have hs : w.heap.size + 1 ≤ wr.heap.size := by have := hbel.size; simpa using this
    have ba : ∀ ob, Below wr.heap.size wr (wr.alloc ob) := fun ob => (Below.refl _ _).alloc (Nat.le_refl _) ob
    have ga0 : ∀ ob, (wr.alloc ob).cell? ⟨w.heap.size, 0, none⟩ = some (.int .i64 0) := fun ob => ((ba ob).cell (p := ⟨w.heap.size, 0, none⟩) (by simp; omega)).trans hz0
    have ga1 : ∀ ob, (wr.alloc ob).cell? ⟨w.heap.size, 1, none⟩ = some (.int .i64 0) := fun ob => ((ba ob).cell (p := ⟨w.heap.size, 1, none⟩) (by simp; omega)).trans hz1
    have ga2 : ∀ ob, (wr.alloc ob).cell? ⟨w.heap.size, 2, none⟩ = some (.int .i64 0) := fun ob => ((ba ob).cell (p := ⟨w.heap.size, 2, none⟩) (by simp; omega)).trans hz2
    have gf : ∀ ob o, (wr.alloc ob).frozen? ⟨w.heap.size, o, none⟩ = false := fun ob o => ((ba ob).frozen (p := ⟨w.heap.size, o, none⟩) (by simp; omega)).trans (hf o)
    clear ba
    have HW := Lib.hid (((Below.refl w.heap.size w).alloc (Nat.le_refl _) (.cells #[.int .i64 0, .int .i64 0, .int .i64 0] 104)).trans (hbel.mono (Nat.le_succ _)))
    have HB := Lib.hid hbel
    clear hbel
    rcases (by omega : m = 0 ∨ m = 1 ∨ m = 2 ∨ m = 3 ∨ m = 4) with rfl | rfl | rfl | rfl | rfl
    · rw [show ((0 : Nat) : Int) = 0 from rfl]
      have hi := index_0
      by_cases hx : x = 1
      · have HR := Lib.hid (show (1 : Int) = widI x ∧ (-128 : Int) = leastI x ∧ (127 : Int) = imostI x ∧ (0 : Int) = mostE x from by subst hx; decide)
        go_wp2
        (try simp only [Exit.inBlock, Exit.then])
        refine bodyPost_ret (v := .tuple #[.agg #[.int .i64 1, .int .i64 (-128), .int .i64 127], .int .i64 0]) (by rw [results_cell_tmp rfl]; simp [asAddr, Result.andThen, set_num (ga0 _) (ga1 _) (ga2 _)]) rfl ?_
        exact ⟨ret_look HR.out, (((HW.out.alloc (by omega) _).setCell (Nat.le_refl _) _).setCell (Nat.le_refl _) _).setCell (Nat.le_refl _) _⟩
      · go_wp2
        exact ⟨⟨1, by omega, rfl, by omega, by omega, by omega, by omega, HB.out.alloc hs _⟩, by simp [intOf]⟩
    · rw [show ((1 : Nat) : Int) = 1 from rfl]
      have hi := index_1
      by_cases hx : x = 2
      · have HR := Lib.hid (show (2 : Int) = widI x ∧ (-32768 : Int) = leastI x ∧ (32767 : Int) = imostI x ∧ (0 : Int) = mostE x from by subst hx; decide)
        go_wp2
        (try simp only [Exit.inBlock, Exit.then])
        refine bodyPost_ret (v := .tuple #[.agg #[.int .i64 2, .int .i64 (-32768), .int .i64 32767], .int .i64 0]) (by rw [results_cell_tmp rfl]; simp [asAddr, Result.andThen, set_num (ga0 _) (ga1 _) (ga2 _)]) rfl ?_
        exact ⟨ret_look HR.out, (((HW.out.alloc (by omega) _).setCell (Nat.le_refl _) _).setCell (Nat.le_refl _) _).setCell (Nat.le_refl _) _⟩
      · go_wp2
        exact ⟨⟨2, by omega, rfl, by omega, by omega, by omega, by omega, HB.out.alloc hs _⟩, by simp [intOf]⟩
    · rw [show ((2 : Nat) : Int) = 2 from rfl]
      have hi := index_2
      by_cases hx : x = 4
      · have HR := Lib.hid (show (4 : Int) = widI x ∧ (-2147483648 : Int) = leastI x ∧ (2147483647 : Int) = imostI x ∧ (0 : Int) = mostE x from by subst hx; decide)
        go_wp2
        (try simp only [Exit.inBlock, Exit.then])
        refine bodyPost_ret (v := .tuple #[.agg #[.int .i64 4, .int .i64 (-2147483648), .int .i64 2147483647], .int .i64 0]) (by rw [results_cell_tmp rfl]; simp [asAddr, Result.andThen, set_num (ga0 _) (ga1 _) (ga2 _)]) rfl ?_
        exact ⟨ret_look HR.out, (((HW.out.alloc (by omega) _).setCell (Nat.le_refl _) _).setCell (Nat.le_refl _) _).setCell (Nat.le_refl _) _⟩
      · go_wp2
        exact ⟨⟨3, by omega, rfl, by omega, by omega, by omega, by omega, HB.out.alloc hs _⟩, by simp [intOf]⟩
    · rw [show ((3 : Nat) : Int) = 3 from rfl]
      have hi := index_3
      by_cases hx : x = 8
      · have HR := Lib.hid (show (8 : Int) = widI x ∧ (-9223372036854775808 : Int) = leastI x ∧ (9223372036854775807 : Int) = imostI x ∧ (0 : Int) = mostE x from by subst hx; decide)
        go_wp2
        (try simp only [Exit.inBlock, Exit.then])
        refine bodyPost_ret (v := .tuple #[.agg #[.int .i64 8, .int .i64 (-9223372036854775808), .int .i64 9223372036854775807], .int .i64 0]) (by rw [results_cell_tmp rfl]; simp [asAddr, Result.andThen, set_num (ga0 _) (ga1 _) (ga2 _)]) rfl ?_
        exact ⟨ret_look HR.out, (((HW.out.alloc (by omega) _).setCell (Nat.le_refl _) _).setCell (Nat.le_refl _) _).setCell (Nat.le_refl _) _⟩
      · go_wp2
        exact ⟨⟨4, by omega, rfl, by omega, by omega, by omega, by omega, HB.out.alloc hs _⟩, by simp [intOf]⟩
    · rw [show ((4 : Nat) : Int) = 4 from rfl]
      have HR := Lib.hid (show (0 : Int) = widI x ∧ (0 : Int) = leastI x ∧ (0 : Int) = imostI x ∧ (1 : Int) = mostE x from by
        have hw : wid x = false := by simp [wid]; omega
        simp [widI, mostE, hw, leastI_no hw, imostI_no hw])
      go_wp2
      (try simp only [Exit.inBlock, Exit.then])
      refine bodyPost_ret (v := .tuple #[.agg #[.int .i64 0, .int .i64 0, .int .i64 0], .int .i64 1]) (by rw [results_cell_tmp rfl]; simp [asAddr, Result.andThen, set_num hz0 hz1 hz2]) rfl ?_
      exact ⟨ret_look HR.out, ((HW.out.setCell (Nat.le_refl _) _).setCell (Nat.le_refl _) _).setCell (Nat.le_refl _) _⟩
end Go.Proofs.YtofccfbiappgaaaDoor

namespace Go.Proofs.YtofccfbiappgaaaDoor
open Go.RowKit

theorem above_num (a n : Int) (ha : -9223372036854775808 ≤ a) (h : a ≤ n) (hn : n ≤ 9223372036854775807) : IntKind.u64.wrap (IntKind.u64.wrap n - IntKind.u64.wrap a) = ((n - a).toNat : Int) := by
  simp only [IntKind.wrap_u64]
  omega
theorem at_num (f : Nat) (a : Int) (ha : -9223372036854775808 ≤ a) (ha' : a ≤ 0) (hf : (f : Int) + a ≤ 9223372036854775807) (hf' : f ≤ 18446744073709551615) : wrap64 (IntKind.u64.wrap ((f : Int) + IntKind.u64.wrap a)) = (f : Int) + a := by
  simp only [IntKind.wrap_u64, wrap64]
  omega

set_option maxRecDepth 100000 in
theorem above_any (a b c n : Int) (w : World) (hb : -9223372036854775808 ≤ b) (h : b ≤ n) (hn : n ≤ 9223372036854775807) :
    Calls Tryd.prog 70 #[.agg #[.int .i64 a, .int .i64 b, .int .i64 c], .int .i64 n] w fun e w' => e = .returned (.int .u64 ((n - b).toNat : Int)) ∧ Below w.heap.size w w' := by
  have HE := Lib.hid (above_num b n hb h hn)
  clear hb h hn
  go_enter Tryd.func70, Tryd.ntmps70
  go_wp2
  go_ret
  exact ⟨by rw [← HE.out]; rfl, (Below.refl _ _).alloc (Nat.le_refl _) _⟩
theorem PutPost.nil_ {w w' : World} {l : List UInt8} {er : Int} {a : Int} (hl : l = []) (h : a = er) (hb : Below w.heap.size w w') : PutPost w l er (.returned (.tuple #[.slice none 0 0, .int .i64 a])) w' := by
  subst hl h
  exact ⟨none, 0, 0, rfl, Byt.none_, hb⟩
set_option maxRecDepth 100000 in
set_option maxHeartbeats 400000 in
theorem iput_any (x n : Int) (w : World) (hT : Tab w) (hn : n ≤ 9223372036854775807) :
    Calls Tryd.prog 62 #[.int .i64 x, .int .i64 n] w (PutPost w (iputL x n) (iputE x n)) := by
  have HL := Lib.hid (look_any x w hT)
  clear hT
  by_cases hx : wid x = true
  · rw [show mostE x = 0 from by simp [mostE, hx], show widI x = x from by simp [widI, hx]] at HL
    have hlm := least_most hx
    by_cases h1 : leastI x ≤ n
    · by_cases h2 : n ≤ imostI x
      · obtain ⟨e1, e2, e3⟩ := iput_yes hx h1 h2
        have HP := Lib.hid (fun W => put_any x (n - leastI x).toNat W e3)
        rw [e1, e2] at HP
        have HA := Lib.hid (fun W => above_any x (leastI x) (imostI x) n W (by omega) h1 hn)
        obtain ⟨q, hq⟩ : ∃ q, (n - leastI x).toNat = q := ⟨_, rfl⟩
        rw [hq] at HP HA
        clear e1 e2 e3 hx hlm hn hq
        go_enter Tryd.func62, Tryd.ntmps62
        go_wp2_with fail
        (with_reducible refine HL.out.mono ?_)
        rintro e w1 ⟨rfl, b1⟩
        have B1 := Lib.hid b1
        clear b1
        go_wp2_with fail
        (with_reducible refine (HA.out _).mono ?_)
        rintro e w2 ⟨rfl, b2⟩
        have B2 := Lib.hid ((B1.out.alloc B1.out.size _).trans (b2.mono (by have := B1.out.size; simp; omega)))
        clear b2
        go_wp2_with fail
        (with_reducible refine (HP.out _).mono ?_)
        rintro e w3 ⟨A3, n3, c3, rfl, y3, b3⟩
        have B3 := Lib.hid (B2.out.trans (b3.mono B2.out.size))
        have Y3 := Lib.hid y3
        clear b3 y3
        go_wp2
        go_ret2
        exact ⟨_, _, _, rfl, Y3.out, B3.out⟩
      · have HE := Lib.hid (show (8 : Int) = iputE x n from by simp [iputE, hx, h2])
        have HN := Lib.hid (show iputL x n = [] from by simp [iputL, h2])
        clear hx hlm hn
        go_enter Tryd.func62, Tryd.ntmps62
        go_wp2_with fail
        (with_reducible refine HL.out.mono ?_)
        rintro e w1 ⟨rfl, b1⟩
        have B1 := Lib.hid b1
        clear b1
        go_wp2
        go_ret2
        exact PutPost.nil_ HN.out HE.out (B1.out.alloc B1.out.size _)
    · have HE := Lib.hid (show (8 : Int) = iputE x n from by simp [iputE, hx, h1])
      have HN := Lib.hid (show iputL x n = [] from by simp [iputL, h1])
      clear hx hlm hn
      go_enter Tryd.func62, Tryd.ntmps62
      go_wp2_with fail
      (with_reducible refine HL.out.mono ?_)
      rintro e w1 ⟨rfl, b1⟩
      have B1 := Lib.hid b1
      clear b1
      go_wp2
      go_ret2
      exact PutPost.nil_ HN.out HE.out (B1.out.alloc B1.out.size _)
  · rw [show mostE x = 1 from by simp [mostE, hx]] at HL
    have HE := Lib.hid (show (1 : Int) = iputE x n from by simp [iputE, hx])
    have HN := Lib.hid (show iputL x n = [] from by simp [iputL, hx])
    clear hx hn
    go_enter Tryd.func62, Tryd.ntmps62
    go_wp2_with fail
    (with_reducible refine HL.out.mono ?_)
    rintro e w1 ⟨rfl, b1⟩
    have B1 := Lib.hid b1
    clear b1
    go_wp2
    go_ret2
    exact PutPost.nil_ HN.out HE.out (B1.out.alloc B1.out.size _)

/-- What Take leaves: a number, the others in memory of its own or as a part of what came, an error. -/
def ITakePost (w : World) (v : Int) (l : List UInt8) (er : Int) (e : Ending) (w' : World) : Prop :=
  ∃ A n c, e = .returned (.tuple #[.int .i64 v, .slice A n c, .int .i64 er]) ∧ Byt w' w'.heap.size A n l ∧ n ≤ c ∧ Below w.heap.size w w'
theorem ITakePost.nil_ {w w' : World} {l : List UInt8} {v er : Int} {a b : Int} (hl : l = []) (hv : b = v) (h : a = er) (hb : Below w.heap.size w w') : ITakePost w v l er (.returned (.tuple #[.int .i64 b, .slice none 0 0, .int .i64 a])) w' := by
  subst hl hv h
  exact ⟨none, 0, 0, rfl, Byt.none_, Nat.le_refl _, hb⟩

end Go.Proofs.YtofccfbiappgaaaDoor

namespace Go.Proofs.YtofccfbiappgaaaDoor
open Go.RowKit

theorem ret_ii {a b a' b' : Int} (h : a = a') (h' : b = b') : Ending.returned (.tuple #[.int .i64 a, .int .i64 b]) = .returned (.tuple #[.int .i64 a', .int .i64 b']) := by rw [h, h']
set_option maxRecDepth 100000 in
set_option maxHeartbeats 400000 in
theorem rimost_any (x : Int) (w : World) : Calls Tryd.prog 67 #[.int .i64 x] w fun e w' => e = .returned (.tuple #[.int .i64 (imostI x), .int .i64 (mostE x)]) ∧ w = w' := by
  by_cases h8 : x = 8
  · subst h8
    go_enter Tryd.func67, Tryd.ntmps67
    go_wp2
    go_ret2
    exact ⟨ret_ii (by decide +kernel) (by decide +kernel), rfl⟩
  by_cases h4 : x = 4
  · subst h4
    go_enter Tryd.func67, Tryd.ntmps67
    go_wp2
    go_ret2
    exact ⟨ret_ii (by decide +kernel) (by decide +kernel), rfl⟩
  by_cases h2 : x = 2
  · subst h2
    go_enter Tryd.func67, Tryd.ntmps67
    go_wp2
    go_ret2
    exact ⟨ret_ii (by decide +kernel) (by decide +kernel), rfl⟩
  by_cases h1 : x = 1
  · subst h1
    go_enter Tryd.func67, Tryd.ntmps67
    go_wp2
    go_ret2
    exact ⟨ret_ii (by decide +kernel) (by decide +kernel), rfl⟩
  have HM := Lib.hid (show (0 : Int) = imostI x ∧ (1 : Int) = mostE x from by simp [imostI, mostE, wid, h8, h4, h2, h1])
  go_enter Tryd.func67, Tryd.ntmps67
  go_wp2
  go_ret2
  exact ⟨ret_ii HM.out.1 HM.out.2, rfl⟩

set_option maxRecDepth 100000 in
theorem rimost_yes (x : Int) (w : World) (h : wid x = true) : Calls Tryd.prog 67 #[.int .i64 x] w fun e w' => e = .returned (.tuple #[.int .i64 (imostI x), .int .i64 0]) ∧ w = w' := by
  have := rimost_any x w
  rwa [show mostE x = 0 from by simp [mostE, h]] at this
set_option maxRecDepth 100000 in
theorem rimost_no (x : Int) (w : World) (h : wid x = false) : Calls Tryd.prog 67 #[.int .i64 x] w fun e w' => e = .returned (.tuple #[.int .i64 0, .int .i64 1]) ∧ w = w' := by
  have := rimost_any x w
  rwa [show mostE x = 1 from by simp [mostE, h], imostI_no h] at this
set_option maxRecDepth 100000 in
set_option maxHeartbeats 400000 in
theorem rleast_any (x : Int) (w : World) : Calls Tryd.prog 66 #[.int .i64 x] w fun e w' => e = .returned (.tuple #[.int .i64 (leastI x), .int .i64 (mostE x)]) ∧ w = w' := by
  by_cases hx : wid x = true
  · have HM := Lib.hid (fun W => rimost_yes x W hx)
    have hlm := least_most hx
    have HE := Lib.hid (show (0 : Int) = mostE x from by simp [mostE, hx])
    have HL := Lib.hid hlm.1
    obtain ⟨m, hm⟩ : ∃ m, imostI x = m := ⟨_, rfl⟩
    rw [hm] at HM hlm HL
    clear hx hm
    go_enter Tryd.func66, Tryd.ntmps66
    go_wp2_with fail
    (with_reducible refine (HM.out _).mono ?_)
    rintro e w' ⟨rfl, rfl⟩
    go_wp2
    go_ret2
    exact ⟨ret_ii (by rw [HL.out]) HE.out, rfl⟩
  · have hx' : wid x = false := by simpa using hx
    have HM := Lib.hid (fun W => rimost_no x W hx')
    have HE := Lib.hid (show (0 : Int) = leastI x ∧ (1 : Int) = mostE x from by simp [mostE, hx', leastI_no hx'])
    clear hx hx'
    go_enter Tryd.func66, Tryd.ntmps66
    go_wp2_with fail
    (with_reducible refine (HM.out _).mono ?_)
    rintro e w' ⟨rfl, rfl⟩
    go_wp2
    go_ret2
    exact ⟨ret_ii HE.out.1 HE.out.2, rfl⟩
set_option maxRecDepth 100000 in
theorem rleast_yes (x : Int) (w : World) (h : wid x = true) : Calls Tryd.prog 66 #[.int .i64 x] w fun e w' => e = .returned (.tuple #[.int .i64 (leastI x), .int .i64 0]) ∧ w = w' := by
  have := rleast_any x w
  rwa [show mostE x = 0 from by simp [mostE, h]] at this
set_option maxRecDepth 100000 in
theorem rleast_no (x : Int) (w : World) (h : wid x = false) : Calls Tryd.prog 66 #[.int .i64 x] w fun e w' => e = .returned (.tuple #[.int .i64 0, .int .i64 1]) ∧ w = w' := by
  have := rleast_any x w
  rwa [show mostE x = 1 from by simp [mostE, h], leastI_no h] at this

set_option maxRecDepth 100000 in
set_option maxHeartbeats 400000 in
theorem riput_any (x n : Int) (w : World) (hn : n ≤ 9223372036854775807) :
    Calls Tryd.prog 56 #[.int .i64 x, .int .i64 n] w (PutPost w (iputL x n) (iputE x n)) := by
  by_cases hx : wid x = true
  · have HM := Lib.hid (fun W => rimost_yes x W hx)
    have HL := Lib.hid (fun W => rleast_yes x W hx)
    obtain ⟨l1, l2, l3, l4⟩ := least_most hx
    by_cases h1 : leastI x ≤ n
    · by_cases h2 : n ≤ imostI x
      · obtain ⟨e1, e2, e3⟩ := iput_yes hx h1 h2
        have HP := Lib.hid (fun W => rput_any x (n - leastI x).toNat W e3)
        rw [e1, e2] at HP
        obtain ⟨q, hq⟩ : ∃ q, (n - leastI x).toNat = q := ⟨_, rfl⟩
        rw [hq] at HP e3
        obtain ⟨m, hm⟩ : ∃ m, imostI x = m := ⟨_, rfl⟩
        obtain ⟨s, hs⟩ : ∃ s, leastI x = s := ⟨_, rfl⟩
        rw [hm] at HM h2 l1 l2 l3 l4
        rw [hs] at HL h1 l1 hq
        clear e1 e2 hx l2 hm hs
        by_cases h0 : 0 ≤ n
        · have HQ := Lib.hid (show n + m + 1 = (q : Int) from by omega)
          clear hq
          go_enter Tryd.func56, Tryd.ntmps56
          go_wp2_with fail
          (with_reducible refine (HL.out _).mono ?_)
          rintro e w' ⟨rfl, rfl⟩
          go_wp2_with fail
          (with_reducible refine (HM.out _).mono ?_)
          rintro e w' ⟨rfl, rfl⟩
          go_wp2_with fail
          rw [HQ.out]
          (with_reducible refine (HP.out _).mono ?_)
          rintro e w3 ⟨A3, n3, c3, rfl, y3, b3⟩
          have B3 := Lib.hid b3
          have Y3 := Lib.hid y3
          clear b3 y3
          go_wp2
          go_ret2
          exact ⟨_, _, _, rfl, Y3.out, B3.out⟩
        · have HQ := Lib.hid (show n - s = (q : Int) from by omega)
          have k1 : -9223372036854775808 ≤ n - s := by omega
          have k2 : n - s ≤ 9223372036854775807 := by omega
          have k3 : 0 ≤ n - s := by omega
          clear hq l1
          go_enter Tryd.func56, Tryd.ntmps56
          go_wp2_with fail
          (with_reducible refine (HL.out _).mono ?_)
          rintro e w' ⟨rfl, rfl⟩
          go_wp2_with fail
          (with_reducible refine (HM.out _).mono ?_)
          rintro e w' ⟨rfl, rfl⟩
          go_wp2_with fail
          rw [HQ.out]
          (with_reducible refine (HP.out _).mono ?_)
          rintro e w3 ⟨A3, n3, c3, rfl, y3, b3⟩
          have B3 := Lib.hid b3
          have Y3 := Lib.hid y3
          clear b3 y3
          go_wp2
          go_ret2
          exact ⟨_, _, _, rfl, Y3.out, B3.out⟩
      · have HE := Lib.hid (show (8 : Int) = iputE x n from by simp [iputE, hx, h2])
        have HN := Lib.hid (show iputL x n = [] from by simp [iputL, h2])
        clear hx l1 l2 l3 l4
        go_enter Tryd.func56, Tryd.ntmps56
        go_wp2_with fail
        (with_reducible refine (HL.out _).mono ?_)
        rintro e w' ⟨rfl, rfl⟩
        go_wp2_with fail
        (with_reducible refine (HM.out _).mono ?_)
        rintro e w' ⟨rfl, rfl⟩
        go_wp2
        go_ret2
        exact PutPost.none_ HN.out HE.out
    · have HE := Lib.hid (show (8 : Int) = iputE x n from by simp [iputE, hx, h1])
      have HN := Lib.hid (show iputL x n = [] from by simp [iputL, h1])
      clear hx l1 l2 l3 l4
      go_enter Tryd.func56, Tryd.ntmps56
      go_wp2_with fail
      (with_reducible refine (HL.out _).mono ?_)
      rintro e w' ⟨rfl, rfl⟩
      go_wp2_with fail
      (with_reducible refine (HM.out _).mono ?_)
      rintro e w' ⟨rfl, rfl⟩
      go_wp2
      go_ret2
      exact PutPost.none_ HN.out HE.out
  · have hx' : wid x = false := by simpa using hx
    have HL := Lib.hid (fun W => rleast_no x W hx')
    have HE := Lib.hid (show (1 : Int) = iputE x n from by simp [iputE, hx])
    have HN := Lib.hid (show iputL x n = [] from by simp [iputL, hx])
    clear hx hx'
    go_enter Tryd.func56, Tryd.ntmps56
    go_wp2_with fail
    (with_reducible refine (HL.out _).mono ?_)
    rintro e w' ⟨rfl, rfl⟩
    go_wp2
    go_ret2
    exact PutPost.none_ HN.out HE.out

theorem ITakePost.out_ {w w' : World} {l : List UInt8} {v m : Int} {f : Nat} {A : Option Addr} {n c : Nat} (hv : (f : Int) + (-m - 1) = v) (hy : Byt w' w'.heap.size A n l) (hc : n ≤ c) (hb : Below w.heap.size w w') :
    ITakePost w v l 0 (.returned (.tuple #[.int .i64 ((f : Int) - m - 1), .slice A n c, .int .i64 0])) w' := by
  obtain rfl : (f : Int) - m - 1 = v := by omega
  exact ⟨_, _, _, rfl, hy, hc, hb⟩
set_option maxRecDepth 100000 in
set_option maxHeartbeats 400000 in
theorem ricmp_any (a b : Int) (w : World) : Calls Tryd.prog 59 #[.int .i64 a, .int .i64 b] w fun e w' => e = .returned (.int .i64 (cmpZ a b)) ∧ w = w' := by
  by_cases h1 : a < b
  · have HC := Lib.hid (show -1 = cmpZ a b from by simp [cmpZ, h1])
    go_enter Tryd.func59, Tryd.ntmps59
    go_wp2
    go_ret
    exact ⟨ret_int HC.out, rfl⟩
  · by_cases h2 : b < a
    · have HC := Lib.hid (show 1 = cmpZ a b from by simp [cmpZ, h1, h2])
      go_enter Tryd.func59, Tryd.ntmps59
      go_wp2
      go_ret
      exact ⟨ret_int HC.out, rfl⟩
    · have HC := Lib.hid (show 0 = cmpZ a b from by simp [cmpZ, h1, h2])
      go_enter Tryd.func59, Tryd.ntmps59
      go_wp2
      go_ret
      exact ⟨ret_int HC.out, rfl⟩
end Go.Proofs.YtofccfbiappgaaaDoor

namespace Go.Proofs.YtofccfbiappgaaaDoor
open Go.RowKit

/-- The byte of yes or no. -/
def boolB (t : Bool) : UInt8 := if t then 1 else 0
/-- What TakeBool answers. -/
def tbV : List UInt8 → Bool
  | u :: _ => u == 1
  | [] => false
def tbE : List UInt8 → Int
  | u :: _ => if u.toNat ≤ 1 then 0 else 3
  | [] => 4
def tbR : List UInt8 → List UInt8
  | u :: r => if u.toNat ≤ 1 then r else []
  | [] => []

/-- What PutBool leaves: one byte in memory of its own. -/
def PBPost (w : World) (u : UInt8) (e : Ending) (w' : World) : Prop :=
  ∃ A c, e = .returned (.slice A 1 c) ∧ Byt w' w'.heap.size A 1 [u] ∧ 1 ≤ c ∧ Below w.heap.size w w'
set_option maxRecDepth 100000 in
theorem putbool_any (t : Bool) (w : World) : Calls Tryd.prog 63 #[.bool t] w (PBPost w (boolB t)) := by
  cases t
  · go_enter Tryd.func63, Tryd.ntmps63
    go_wp2
    go_ret
    exact ⟨_, _, rfl, by rw [World.size_alloc]; exact byt_one w 5 (u := 0) rfl, Nat.le_refl _, (Below.refl _ _).alloc (Nat.le_refl _) _⟩
  · go_enter Tryd.func63, Tryd.ntmps63
    go_wp2
    go_ret
    exact ⟨_, _, rfl, by rw [World.size_alloc]; exact byt_one w 5 (u := 1) rfl, Nat.le_refl _, (Below.refl _ _).alloc (Nat.le_refl _) _⟩

/-- What TakeBool leaves. -/
def TBPost (w : World) (v : Bool) (l : List UInt8) (er : Int) (e : Ending) (w' : World) : Prop :=
  ∃ A n c, e = .returned (.tuple #[.bool v, .slice A n c, .int .i64 er]) ∧ Byt w' w'.heap.size A n l ∧ Below w.heap.size w w' ∧ n ≤ c
theorem TBPost.nil_ {w w' : World} {l : List UInt8} {v v' : Bool} {er a : Int} (hl : l = []) (hv : v' = v) (h : a = er) (hb : Below w.heap.size w w') : TBPost w v l er (.returned (.tuple #[.bool v', .slice none 0 0, .int .i64 a])) w' := by
  subst hl hv h
  exact ⟨none, 0, 0, rfl, Byt.none_, hb, Nat.le_refl _⟩
theorem TBPost.row {w w' : World} {l : List UInt8} {v v' : Bool} {er a : Int} {g k c : Nat} {e : TypeId} (hr : Row w' g e l) (hl : l.length = k) (hm : k ≤ maxLen) (hv : v' = v) (h : a = er) (hb : Below w.heap.size w w') (hc : k ≤ c := by first | assumption | exact Nat.le_refl _ | omega) :
    TBPost w v l er (.returned (.tuple #[.bool v', .slice (some ⟨g, 0, none⟩) k c, .int .i64 a])) w' := by
  subst hv h
  exact ⟨_, _, _, rfl, hr.byt hl hm hr.lt, hb, hc⟩

theorem TBPost.byt {w w' : World} {l : List UInt8} {v v' : Bool} {er a : Int} {A : Option Addr} {k c : Nat} (hy : Byt w' w'.heap.size A k l) (hv : v' = v) (h : a = er) (hb : Below w.heap.size w w') (hc : k ≤ c := by first | assumption | exact Nat.le_refl _ | omega) :
    TBPost w v l er (.returned (.tuple #[.bool v', .slice A k c, .int .i64 a])) w' := by
  subst hv h
  exact ⟨_, _, _, rfl, hy, hb, hc⟩
end Go.Proofs.YtofccfbiappgaaaDoor
