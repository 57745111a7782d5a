/-
  What ienc.above, at, Put, Take answer.
-/
import Derived.Test.YtdpddkpfllioiaaDoorIenc
namespace Go.Proofs.YtdpddkpfllioiaaDoor
open Go.RowKit

theorem above_num (a n : Int) (ha : -9223372036854775808 ≤ a) (h : a ≤ n) (hn : n ≤ 9223372036854775807) : IntKind.u64.wrap (IntKind.u64.wrap n - IntKind.u64.wrap a) = ((n - a).toNat : Int) := by
  simp only [IntKind.wrap_u64]
  omega
theorem at_num (f : Nat) (a : Int) (ha : -9223372036854775808 ≤ a) (ha' : a ≤ 0) (hf : (f : Int) + a ≤ 9223372036854775807) (hf' : f ≤ 18446744073709551615) : wrap64 (IntKind.u64.wrap ((f : Int) + IntKind.u64.wrap a)) = (f : Int) + a := by
  simp only [IntKind.wrap_u64, wrap64]
  omega

theorem above_any (a b c n : Int) (w : World) (hb : -9223372036854775808 ≤ b) (h : b ≤ n) (hn : n ≤ 9223372036854775807) :
    Calls Tryd.prog 79 #[.agg #[.int .i64 a, .int .i64 b, .int .i64 c], .int .i64 n] w fun e w' => e = .returned (.int .u64 ((n - b).toNat : Int)) ∧ Below w.heap.size w w' := by
  have HE := Lib.hid (above_num b n hb h hn)
  clear hb h hn
  go_enter Tryd.func79, Tryd.ntmps79
  go_wp2
  go_ret
  exact ⟨by rw [← HE.out]; rfl, (Below.refl _ _).alloc (Nat.le_refl _) _⟩
theorem at_any (a b c : Int) (f : Nat) (w : World) (hb : -9223372036854775808 ≤ b) (hb' : b ≤ 0) (h : (f : Int) + b ≤ 9223372036854775807) (hf : f ≤ 18446744073709551615) :
    Calls Tryd.prog 104 #[.agg #[.int .i64 a, .int .i64 b, .int .i64 c], .int .u64 (f : Int)] w fun e w' => e = .returned (.int .i64 ((f : Int) + b)) ∧ Below w.heap.size w w' := by
  have HE := Lib.hid (at_num f b hb hb' h hf)
  clear hb hb' h hf
  go_enter Tryd.func104, Tryd.ntmps104
  go_wp2
  go_ret
  exact ⟨by rw [← HE.out]; rfl, (Below.refl _ _).alloc (Nat.le_refl _) _⟩

theorem PutPost.nil_ {w w' : World} {l : List UInt8} {er : Int} {a : Int} (hl : l = []) (h : a = er) (hb : Below w.heap.size w w') : PutPost w l er (.returned (.tuple #[.slice none 0 0, .int .i64 a])) w' := by
  subst hl h
  exact ⟨none, 0, 0, rfl, Byt.none_, hb⟩
set_option maxHeartbeats 400000 in
theorem iput_any (x n : Int) (w : World) (hT : Tab w) (hn : n ≤ 9223372036854775807) :
    Calls Tryd.prog 58 #[.int .i64 x, .int .i64 n] w (PutPost w (iputL x n) (iputE x n)) := by
  have HL := Lib.hid (look_any x w hT)
  clear hT
  by_cases hx : wid x = true
  · rw [show mostE x = 0 from by simp [mostE, hx], show widI x = x from by simp [widI, hx]] at HL
    have hlm := least_most hx
    by_cases h1 : leastI x ≤ n
    · by_cases h2 : n ≤ imostI x
      · obtain ⟨e1, e2, e3⟩ := iput_yes hx h1 h2
        have HP := Lib.hid (fun W => put_any x (n - leastI x).toNat W e3)
        rw [e1, e2] at HP
        have HA := Lib.hid (fun W => above_any x (leastI x) (imostI x) n W (by omega) h1 hn)
        obtain ⟨q, hq⟩ : ∃ q, (n - leastI x).toNat = q := ⟨_, rfl⟩
        rw [hq] at HP HA
        clear e1 e2 e3 hx hlm hn hq
        go_enter Tryd.func58, Tryd.ntmps58
        go_wp2_with fail
        (with_reducible refine HL.out.mono ?_)
        rintro e w1 ⟨rfl, b1⟩
        have B1 := Lib.hid b1
        clear b1
        go_wp2_with fail
        (with_reducible refine (HA.out _).mono ?_)
        rintro e w2 ⟨rfl, b2⟩
        have B2 := Lib.hid ((B1.out.alloc B1.out.size _).trans (b2.mono (by have := B1.out.size; simp; omega)))
        clear b2
        go_wp2_with fail
        (with_reducible refine (HP.out _).mono ?_)
        rintro e w3 ⟨A3, n3, c3, rfl, y3, b3⟩
        have B3 := Lib.hid (B2.out.trans (b3.mono B2.out.size))
        have Y3 := Lib.hid y3
        clear b3 y3
        go_wp2
        go_ret2
        exact ⟨_, _, _, rfl, Y3.out, B3.out⟩
      · have HE := Lib.hid (show (8 : Int) = iputE x n from by simp [iputE, hx, h2])
        have HN := Lib.hid (show iputL x n = [] from by simp [iputL, h2])
        clear hx hlm hn
        go_enter Tryd.func58, Tryd.ntmps58
        go_wp2_with fail
        (with_reducible refine HL.out.mono ?_)
        rintro e w1 ⟨rfl, b1⟩
        have B1 := Lib.hid b1
        clear b1
        go_wp2
        go_ret2
        exact PutPost.nil_ HN.out HE.out (B1.out.alloc B1.out.size _)
    · have HE := Lib.hid (show (8 : Int) = iputE x n from by simp [iputE, hx, h1])
      have HN := Lib.hid (show iputL x n = [] from by simp [iputL, h1])
      clear hx hlm hn
      go_enter Tryd.func58, Tryd.ntmps58
      go_wp2_with fail
      (with_reducible refine HL.out.mono ?_)
      rintro e w1 ⟨rfl, b1⟩
      have B1 := Lib.hid b1
      clear b1
      go_wp2
      go_ret2
      exact PutPost.nil_ HN.out HE.out (B1.out.alloc B1.out.size _)
  · rw [show mostE x = 1 from by simp [mostE, hx]] at HL
    have HE := Lib.hid (show (1 : Int) = iputE x n from by simp [iputE, hx])
    have HN := Lib.hid (show iputL x n = [] from by simp [iputL, hx])
    clear hx hn
    go_enter Tryd.func58, Tryd.ntmps58
    go_wp2_with fail
    (with_reducible refine HL.out.mono ?_)
    rintro e w1 ⟨rfl, b1⟩
    have B1 := Lib.hid b1
    clear b1
    go_wp2
    go_ret2
    exact PutPost.nil_ HN.out HE.out (B1.out.alloc B1.out.size _)

/-- What Take leaves: a number, the others in memory of its own or as a part of what came, an error. -/
def ITakePost (w : World) (v : Int) (l : List UInt8) (er : Int) (e : Ending) (w' : World) : Prop :=
  ∃ A n c, e = .returned (.tuple #[.int .i64 v, .slice A n c, .int .i64 er]) ∧ Byt w' w'.heap.size A n l ∧ n ≤ c ∧ Below w.heap.size w w'
theorem ITakePost.nil_ {w w' : World} {l : List UInt8} {v er : Int} {a b : Int} (hl : l = []) (hv : b = v) (h : a = er) (hb : Below w.heap.size w w') : ITakePost w v l er (.returned (.tuple #[.int .i64 b, .slice none 0 0, .int .i64 a])) w' := by
  subst hl hv h
  exact ⟨none, 0, 0, rfl, Byt.none_, Nat.le_refl _, hb⟩

set_option maxHeartbeats 400000 in
theorem itake_any (x : Int) (A : Option Addr) (n c B : Nat) (l : List UInt8) (w : World) (hT : Tab w) (ha : Byt w B A n l) (hnc : n ≤ c) (hB : B ≤ w.heap.size) (hs : n ≤ 281474976710656) :
    Calls Tryd.prog 87 #[.int .i64 x, .slice A n c] w (ITakePost w (itakeN x l) (restL x l) (firstE x l)) := by
  have HL := Lib.hid (look_any x w hT)
  clear hT
  have HK := Lib.hid (fun W (h : Below B w W) => ha.below h)
  clear ha
  by_cases hx : wid x = true
  · rw [show mostE x = 0 from by simp [mostE, hx], show widI x = x from by simp [widI, hx]] at HL
    have hlm := least_most hx
    have hf := firstN_le l hx
    have HU := Lib.hid (fun W (h : Below w.heap.size w W) => take_any x A n c B l W (HK.out W (h.mono hB)) hnc (Nat.le_trans hB h.size) hs)
    by_cases he : firstE x l = 0
    · have HN := Lib.hid (show (firstN x l : Int) + leastI x = itakeN x l from by simp [itakeN, he])
      have HA := Lib.hid (fun W => at_any x (leastI x) (imostI x) (firstN x l) W (by omega) (by omega) (by omega) (by omega))
      rw [he] at HU ⊢
      clear hx hlm hf he
      go_enter Tryd.func87, Tryd.ntmps87
      go_wp2_with fail
      (with_reducible refine HL.out.mono ?_)
      rintro e w1 ⟨rfl, b1⟩
      have B1 := Lib.hid b1
      clear b1
      go_wp2_with fail
      (with_reducible refine (HU.out _ (B1.out.alloc B1.out.size _)).mono ?_)
      rintro e w2 ⟨A2, n2, c2, rfl, y2, z2, b2⟩
      have z1 : w1.heap.size + 1 ≤ w2.heap.size := by have := b2.size; simpa using this
      have hc0 : w2.cell? ⟨w1.heap.size, 0, none⟩ = some (.int .i64 x) := (b2.cell (p := ⟨w1.heap.size, 0, none⟩) (by simp)).trans (by rw [cell_of_row _ w1.heap.size 0 _ _ (0, 0) (heap_alloc_new w1 _)]; rfl)
      have hc1 : w2.cell? ⟨w1.heap.size, 1, none⟩ = some (.int .i64 (leastI x)) := (b2.cell (p := ⟨w1.heap.size, 1, none⟩) (by simp)).trans (by rw [cell_of_row _ w1.heap.size 1 _ _ (0, 0) (heap_alloc_new w1 _)]; rfl)
      have hc2 : w2.cell? ⟨w1.heap.size, 2, none⟩ = some (.int .i64 (imostI x)) := (b2.cell (p := ⟨w1.heap.size, 2, none⟩) (by simp)).trans (by rw [cell_of_row _ w1.heap.size 2 _ _ (0, 0) (heap_alloc_new w1 _)]; rfl)
      have B2 := Lib.hid ((B1.out.alloc B1.out.size _).trans (b2.mono (by have := B1.out.size; simp; omega)))
      have Y2 := Lib.hid y2
      clear b2 y2
      go_wp2_with fail
      (with_reducible refine (HA.out _).mono ?_)
      rintro e w3 ⟨rfl, b3⟩
      have B3 := Lib.hid (B2.out.trans (b3.mono B2.out.size))
      have Y3 := Lib.hid ((Y2.out.below b3).more b3.size)
      clear b3
      rw [HN.out]
      go_wp2
      go_ret3
      exact ⟨_, _, _, rfl, Y3.out, z2, B3.out⟩
    · have HN := Lib.hid (show (0 : Int) = itakeN x l from by simp [itakeN, he])
      have HR := Lib.hid (show restL x l = [] from by
        unfold firstE at he
        rw [if_pos hx] at he
        by_cases hc : x.toNat ≤ l.length
        · rw [if_pos hc] at he; exact absurd rfl he
        · rw [restL, if_neg (by simp only [hc, decide_false, Bool.and_false, Bool.false_eq_true, not_false_eq_true])])
      have hne : ((firstE x l) != 0) = true := by simpa using he
      clear hx hlm hf he
      go_enter Tryd.func87, Tryd.ntmps87
      go_wp2_with fail
      (with_reducible refine HL.out.mono ?_)
      rintro e w1 ⟨rfl, b1⟩
      have B1 := Lib.hid b1
      clear b1
      go_wp2_with fail
      (with_reducible refine (HU.out _ (B1.out.alloc B1.out.size _)).mono ?_)
      rintro e w2 ⟨A2, n2, c2, rfl, y2, z2, b2⟩
      have B2 := Lib.hid ((B1.out.alloc B1.out.size _).trans (b2.mono (by have := B1.out.size; simp; omega)))
      clear b2 y2
      go_wp2
      go_ret3
      exact ITakePost.nil_ HR.out HN.out rfl B2.out
  · rw [show mostE x = 1 from by simp [mostE, hx]] at HL
    have HE := Lib.hid (show (1 : Int) = firstE x l from by simp [firstE, hx])
    have HN := Lib.hid (show (0 : Int) = itakeN x l from by simp [itakeN, firstE, hx])
    have HR := Lib.hid (show restL x l = [] from by simp [restL, hx])
    clear hx
    go_enter Tryd.func87, Tryd.ntmps87
    go_wp2_with fail
    (with_reducible refine HL.out.mono ?_)
    rintro e w1 ⟨rfl, b1⟩
    have B1 := Lib.hid b1
    clear b1
    go_wp2
    go_ret3
    exact ITakePost.nil_ HR.out HN.out HE.out (B1.out.alloc B1.out.size _)
end Go.Proofs.YtdpddkpfllioiaaDoor
