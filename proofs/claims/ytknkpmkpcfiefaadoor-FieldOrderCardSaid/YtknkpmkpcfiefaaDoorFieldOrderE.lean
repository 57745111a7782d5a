/-
  The walk of the law FieldOrder, where one of the values has no bytes by the field.
-/
import Derived.Test.YtknkpmkpcfiefaaDoorFieldOrderP
namespace Go.Proofs.YtknkpmkpcfiefaaDoor.fieldOrder
open Go.RowKit

set_option maxRecDepth 100000 in
set_option maxHeartbeats 8000000 in
theorem walk_e (k : Int) (f : Bool) (u : Nat) (i : Int) (A : Option Addr) (n c : Nat) (t : Bool) (l : List UInt8) (u' : Nat) (i' : Int) (A' : Option Addr) (n' c' : Nat) (t' : Bool) (l' : List UInt8) (Ax : Option Addr) (m cx : Nat) (b : List UInt8) (w : World) (hT : Tab w) (hu : u ≤ 18446744073709551615) (hi : i ≤ 9223372036854775807) (ha : Byt w w.heap.size A n l) (_ : n ≤ c) (hu' : u' ≤ 18446744073709551615) (hi' : i' ≤ 9223372036854775807) (ha' : Byt w w.heap.size A' n' l') (hb : Byt w w.heap.size Ax m b) (hn : n ≤ 300) (hn' : n' ≤ 300) (hm : m ≤ 300) (he : fE k u i ≠ 0) :
    Calls Tryd.prog 5 #[.agg #[.int .i64 k, .bool f], .agg #[.int .u64 (u : Int), .int .i64 i, .slice A n c, .bool t, .int .u64 (u' : Int), .int .i64 i', .slice A' n' c', .bool t'], .slice Ax m cx] w fun e w' => e = .returned (.bool true) ∧ Below w.heap.size w w' := by
  have HT := Lib.hid (fun V (h : Below w.heap.size w V) => hT.below h)
  have HK := Lib.hid (fun V (h : Below w.heap.size w V) => And.intro (ha.below h) (And.intro (ha'.below h) (hb.below h)))
  have HCm := Lib.hid (fun V (h : Below w.heap.size w V) => fcmp_any k f u u' i i' A A' n n' c c' _ l l' t t' V (HK.out _ h).1 (HK.out _ h).2.1 h.size)
  have HRc := Lib.hid (fun V (h : Below w.heap.size w V) => rfcmp_any k f u u' i i' A A' n n' c c' _ l l' t t' V (HK.out _ h).1 (HK.out _ h).2.1 h.size)
  have HSm := Lib.hid (fun V (h : Below w.heap.size w V) => fsame_any k f u u' i i' A A' n n' c c' _ l l' t t' V (HK.out _ h).1 (HK.out _ h).2.1 h.size)
  have HP1 := Lib.hid (fun V (h : Below w.heap.size w V) => fput_any k f u i A n c _ l t V hu hi (HT.out _ h) (HK.out _ h).1 h.size (by omega))
  have HP2 := Lib.hid (fun V (h : Below w.heap.size w V) => fput_any k f u' i' A' n' c' _ l' t' V hu' hi' (HT.out _ h) (HK.out _ h).2.1 h.size (by omega))
  have hne : ((fE k u i) != 0) = true := by simpa using he
  have hg1 : ¬ (300 : Int) < (n : Int) := by omega
  have hg2 : ¬ (300 : Int) < (n' : Int) := by omega
  have hg3 : ¬ (300 : Int) < (m : Int) := by omega
  have hd1 : decide ((300 : Int) < (n : Int)) = false := decide_eq_false hg1
  have hd2 : decide ((300 : Int) < (n' : Int)) = false := decide_eq_false hg2
  clear hT ha ha' hb
  generalize fC k f u i l t u' i' l' t' = C at HCm HRc HSm
  go_enter Tryd.func5, Tryd.ntmps5
  go_wp2_with fail
  generalize hW : ((w.alloc (.cells #[.int .i64 k, .bool f] 23)).alloc (.cells #[.int .u64 (u : Int), .int .i64 i, .slice A n c, .bool t, .int .u64 (u' : Int), .int .i64 i', .slice A' n' c', .bool t'] 48)).alloc (.cells #[.int .i64 k, .bool f] 32) = W
  have P0 := Lib.hid (show Two W (w.heap.size) (.int .i64 k) (.bool f) from by subst hW; exact ((Two.new _ _ _ _).alloc _).alloc _)
  have Q0 := Lib.hid (show Blk W (w.heap.size + 1) #[.int .u64 (u : Int), .int .i64 i, .slice A n c, .bool t, .int .u64 (u' : Int), .int .i64 i', .slice A' n' c', .bool t'] from by subst hW; have := (Blk.new (w.alloc (.cells #[.int .i64 k, .bool f] 23)) 48 #[.int .u64 (u : Int), .int .i64 i, .slice A n c, .bool t, .int .u64 (u' : Int), .int .i64 i', .slice A' n' c', .bool t']).alloc (.cells #[.int .i64 k, .bool f] 32); rwa [World.size_alloc] at this)
  have R0 := Lib.hid (show Two W (w.heap.size + 2) (.int .i64 k) (.bool f) from by subst hW; have := Two.new ((w.alloc (.cells #[.int .i64 k, .bool f] 23)).alloc (.cells #[.int .u64 (u : Int), .int .i64 i, .slice A n c, .bool t, .int .u64 (u' : Int), .int .i64 i', .slice A' n' c', .bool t'] 48)) 32 (.int .i64 k) (.bool f); simpa only [World.size_alloc, Nat.add_assoc, Nat.reduceAdd] using this)
  have B0 := Lib.hid (show Below w.heap.size w W from by subst hW; exact (((Below.refl _ _).alloc (Nat.le_refl _) _).alloc (by simp) _).alloc (by simp; omega) _)
  clear hW
  have Bd : Below w.heap.size w W.drew := B0.out.drew
  have Pd : Two W.drew (w.heap.size) (.int .i64 k) (.bool f) := P0.out
  have Qd : Blk W.drew (w.heap.size + 1) #[.int .u64 (u : Int), .int .i64 i, .slice A n c, .bool t, .int .u64 (u' : Int), .int .i64 i', .slice A' n' c', .bool t'] := Q0.out
  have Rd : Two W.drew (w.heap.size + 2) (.int .i64 k) (.bool f) := R0.out
  go_region_held3 (fun w' => w'.cell? ⟨w.heap.size, 0, none⟩ = some (.int .i64 k) ∧ w'.cell? ⟨w.heap.size, 1, none⟩ = some (.bool f) ∧ w'.cell? ⟨w.heap.size + 1, 0, none⟩ = some (.int .u64 (u : Int)) ∧ w'.cell? ⟨w.heap.size + 1, 1, none⟩ = some (.int .i64 i) ∧ w'.cell? ⟨w.heap.size + 1, 2, none⟩ = some (.slice A n c) ∧ w'.cell? ⟨w.heap.size + 1, 3, none⟩ = some (.bool t) ∧ w'.cell? ⟨w.heap.size + 1, 4, none⟩ = some (.int .u64 (u' : Int)) ∧ w'.cell? ⟨w.heap.size + 1, 5, none⟩ = some (.int .i64 i') ∧ w'.cell? ⟨w.heap.size + 1, 6, none⟩ = some (.slice A' n' c') ∧ w'.cell? ⟨w.heap.size + 1, 7, none⟩ = some (.bool t') ∧ w'.cell? ⟨w.heap.size + 2, 0, none⟩ = some (.int .i64 k) ∧ w'.cell? ⟨w.heap.size + 2, 1, none⟩ = some (.bool f))
    (first | (with_reducible exact twelve P0.out Q0.out R0.out) | (with_reducible exact twelve Pd Qd Rd) | (with_reducible exact twelve p1 q1 r1) | (with_reducible exact twelve p2 q2 r2) | (with_reducible exact twelve p3 q3 r3))
    (first
      | (go_at_call 8; (with_reducible refine (theirs_any u i A n c t W.drew).mono ?_); rintro e x1 ⟨rfl, h1⟩; have b1 : Below w.heap.size w x1 := Bd.trans (h1.mono Bd.size); have p1 := Pd.below h1 Pd.lt; have q1 := Qd.below h1 Qd.lt; have r1 := Rd.below h1 Rd.lt)
      | (go_at_call 8; (with_reducible refine (theirs_any u' i' A' n' c' t' x1).mono ?_); rintro e x2 ⟨rfl, h2⟩; have b2 : Below w.heap.size w x2 := b1.trans (h2.mono b1.size); have p2 := p1.below h2 p1.lt; have q2 := q1.below h2 q1.lt; have r2 := r1.below h2 r1.lt)
      | (go_at_call 17; (with_reducible refine (HCm.out _ b2).mono ?_); rintro e x3 ⟨rfl, h3⟩; have b3 : Below w.heap.size w x3 := b2.trans (h3.mono b2.size); have p3 := p2.below h3 p2.lt; have q3 := q2.below h3 q2.lt; have r3 := r2.below h3 r2.lt))
  have P1 := Lib.hid p3
  have Q1 := Lib.hid q3
  have R1 := Lib.hid r3
  have B1 := Lib.hid b3
  clear Bd Pd Qd Rd p1 q1 r1 b1 h1 p2 q2 r2 b2 h2 p3 q3 r3 b3 h3
  generalize x3 = W1 at *
  go_wp2_with fail
  have Bd : Below w.heap.size w W1.drew := B1.out.drew
  have Pd : Two W1.drew (w.heap.size) (.int .i64 k) (.bool f) := P1.out
  have Qd : Blk W1.drew (w.heap.size + 1) #[.int .u64 (u : Int), .int .i64 i, .slice A n c, .bool t, .int .u64 (u' : Int), .int .i64 i', .slice A' n' c', .bool t'] := Q1.out
  have Rd : Two W1.drew (w.heap.size + 2) (.int .i64 k) (.bool f) := R1.out
  go_region_held3 (fun w' => w'.cell? ⟨w.heap.size, 0, none⟩ = some (.int .i64 k) ∧ w'.cell? ⟨w.heap.size, 1, none⟩ = some (.bool f) ∧ w'.cell? ⟨w.heap.size + 1, 0, none⟩ = some (.int .u64 (u : Int)) ∧ w'.cell? ⟨w.heap.size + 1, 1, none⟩ = some (.int .i64 i) ∧ w'.cell? ⟨w.heap.size + 1, 2, none⟩ = some (.slice A n c) ∧ w'.cell? ⟨w.heap.size + 1, 3, none⟩ = some (.bool t) ∧ w'.cell? ⟨w.heap.size + 1, 4, none⟩ = some (.int .u64 (u' : Int)) ∧ w'.cell? ⟨w.heap.size + 1, 5, none⟩ = some (.int .i64 i') ∧ w'.cell? ⟨w.heap.size + 1, 6, none⟩ = some (.slice A' n' c') ∧ w'.cell? ⟨w.heap.size + 1, 7, none⟩ = some (.bool t') ∧ w'.cell? ⟨w.heap.size + 2, 0, none⟩ = some (.int .i64 k) ∧ w'.cell? ⟨w.heap.size + 2, 1, none⟩ = some (.bool f))
    (first | (with_reducible exact twelve P1.out Q1.out R1.out) | (with_reducible exact twelve Pd Qd Rd) | (with_reducible exact twelve p1 q1 r1) | (with_reducible exact twelve p2 q2 r2) | (with_reducible exact twelve p3 q3 r3) | (with_reducible exact twelve p4 q4 r4))
    (first
      | (go_at_call 18; (with_reducible refine (HRc.out _ Bd).mono ?_); rintro e x1 ⟨rfl, h1⟩; have b1 : Below w.heap.size w x1 := Bd.trans (h1.mono Bd.size); have p1 := Pd.below h1 Pd.lt; have q1 := Qd.below h1 Qd.lt; have r1 := Rd.below h1 Rd.lt)
      | (go_at_call 8; (with_reducible refine (theirs_any u i A n c t x1).mono ?_); rintro e x2 ⟨rfl, h2⟩; have b2 : Below w.heap.size w x2 := b1.trans (h2.mono b1.size); have p2 := p1.below h2 p1.lt; have q2 := q1.below h2 q1.lt; have r2 := r1.below h2 r1.lt)
      | (go_at_call 8; (with_reducible refine (theirs_any u' i' A' n' c' t' x2).mono ?_); rintro e x3 ⟨rfl, h3⟩; have b3 : Below w.heap.size w x3 := b2.trans (h3.mono b2.size); have p3 := p2.below h3 p2.lt; have q3 := q2.below h3 q2.lt; have r3 := r2.below h3 r2.lt)
      | (go_at_call 19; (with_reducible refine (HSm.out _ b3).mono ?_); rintro e x4 ⟨rfl, h4⟩; have b4 : Below w.heap.size w x4 := b3.trans (h4.mono b3.size); have p4 := p3.below h4 p3.lt; have q4 := q3.below h4 q3.lt; have r4 := r3.below h4 r3.lt))
  have P2 := Lib.hid p4
  have Q2 := Lib.hid q4
  have R2 := Lib.hid r4
  have B2 := Lib.hid b4
  clear Bd Pd Qd Rd p1 q1 r1 b1 h1 p2 q2 r2 b2 h2 p3 q3 r3 b3 h3 p4 q4 r4 b4 h4
  generalize x4 = W2 at *
  go_wp2_with fail
  have Bd : Below w.heap.size w W2.drew := B2.out.drew
  have Pd : Two W2.drew (w.heap.size) (.int .i64 k) (.bool f) := P2.out
  have Qd : Blk W2.drew (w.heap.size + 1) #[.int .u64 (u : Int), .int .i64 i, .slice A n c, .bool t, .int .u64 (u' : Int), .int .i64 i', .slice A' n' c', .bool t'] := Q2.out
  have Rd : Two W2.drew (w.heap.size + 2) (.int .i64 k) (.bool f) := R2.out
  go_region_held3 (fun w' => w'.cell? ⟨w.heap.size, 0, none⟩ = some (.int .i64 k) ∧ w'.cell? ⟨w.heap.size, 1, none⟩ = some (.bool f) ∧ w'.cell? ⟨w.heap.size + 1, 0, none⟩ = some (.int .u64 (u : Int)) ∧ w'.cell? ⟨w.heap.size + 1, 1, none⟩ = some (.int .i64 i) ∧ w'.cell? ⟨w.heap.size + 1, 2, none⟩ = some (.slice A n c) ∧ w'.cell? ⟨w.heap.size + 1, 3, none⟩ = some (.bool t) ∧ w'.cell? ⟨w.heap.size + 1, 4, none⟩ = some (.int .u64 (u' : Int)) ∧ w'.cell? ⟨w.heap.size + 1, 5, none⟩ = some (.int .i64 i') ∧ w'.cell? ⟨w.heap.size + 1, 6, none⟩ = some (.slice A' n' c') ∧ w'.cell? ⟨w.heap.size + 1, 7, none⟩ = some (.bool t') ∧ w'.cell? ⟨w.heap.size + 2, 0, none⟩ = some (.int .i64 k) ∧ w'.cell? ⟨w.heap.size + 2, 1, none⟩ = some (.bool f))
    (first | (with_reducible exact twelve P2.out Q2.out R2.out) | (with_reducible exact twelve Pd Qd Rd) | (with_reducible exact twelve p1 q1 r1) | (with_reducible exact twelve p2 q2 r2))
    (first
      | (go_at_call 8; (with_reducible refine (theirs_any u i A n c t W2.drew).mono ?_); rintro e x1 ⟨rfl, h1⟩; have b1 : Below w.heap.size w x1 := Bd.trans (h1.mono Bd.size); have p1 := Pd.below h1 Pd.lt; have q1 := Qd.below h1 Qd.lt; have r1 := Rd.below h1 Rd.lt)
      | (go_at_call 7; (with_reducible refine (HP1.out _ b1).mono ?_); rintro e x2 ⟨Aa, na, ca, rfl, ya, h2⟩; have b2 : Below w.heap.size w x2 := b1.trans (h2.mono b1.size); have p2 := p1.below h2 p1.lt; have q2 := q1.below h2 q1.lt; have r2 := r1.below h2 r1.lt))
  have P3 := Lib.hid p2
  have Q3 := Lib.hid q2
  have R3 := Lib.hid r2
  have B3 := Lib.hid b2
  have YA := Lib.hid ya
  clear ya
  clear Bd Pd Qd Rd p1 q1 r1 b1 h1 p2 q2 r2 b2 h2
  generalize x2 = W3 at *
  go_wp2_with fail
  have Bd : Below w.heap.size w W3.drew := B3.out.drew
  have Pd : Two W3.drew (w.heap.size) (.int .i64 k) (.bool f) := P3.out
  have Qd : Blk W3.drew (w.heap.size + 1) #[.int .u64 (u : Int), .int .i64 i, .slice A n c, .bool t, .int .u64 (u' : Int), .int .i64 i', .slice A' n' c', .bool t'] := Q3.out
  have Rd : Two W3.drew (w.heap.size + 2) (.int .i64 k) (.bool f) := R3.out
  go_region_held3 (fun w' => w'.cell? ⟨w.heap.size, 0, none⟩ = some (.int .i64 k) ∧ w'.cell? ⟨w.heap.size, 1, none⟩ = some (.bool f) ∧ w'.cell? ⟨w.heap.size + 1, 0, none⟩ = some (.int .u64 (u : Int)) ∧ w'.cell? ⟨w.heap.size + 1, 1, none⟩ = some (.int .i64 i) ∧ w'.cell? ⟨w.heap.size + 1, 2, none⟩ = some (.slice A n c) ∧ w'.cell? ⟨w.heap.size + 1, 3, none⟩ = some (.bool t) ∧ w'.cell? ⟨w.heap.size + 1, 4, none⟩ = some (.int .u64 (u' : Int)) ∧ w'.cell? ⟨w.heap.size + 1, 5, none⟩ = some (.int .i64 i') ∧ w'.cell? ⟨w.heap.size + 1, 6, none⟩ = some (.slice A' n' c') ∧ w'.cell? ⟨w.heap.size + 1, 7, none⟩ = some (.bool t') ∧ w'.cell? ⟨w.heap.size + 2, 0, none⟩ = some (.int .i64 k) ∧ w'.cell? ⟨w.heap.size + 2, 1, none⟩ = some (.bool f))
    (first | (with_reducible exact twelve P3.out Q3.out R3.out) | (with_reducible exact twelve Pd Qd Rd) | (with_reducible exact twelve p1 q1 r1) | (with_reducible exact twelve p2 q2 r2))
    (first
      | (go_at_call 8; (with_reducible refine (theirs_any u' i' A' n' c' t' W3.drew).mono ?_); rintro e x1 ⟨rfl, h1⟩; have b1 : Below w.heap.size w x1 := Bd.trans (h1.mono Bd.size); have p1 := Pd.below h1 Pd.lt; have q1 := Qd.below h1 Qd.lt; have r1 := Rd.below h1 Rd.lt)
      | (go_at_call 7; (with_reducible refine (HP2.out _ b1).mono ?_); rintro e x2 ⟨Ab, nb, cb, rfl, yb, h2⟩; have b2 : Below w.heap.size w x2 := b1.trans (h2.mono b1.size); have p2 := p1.below h2 p1.lt; have q2 := q1.below h2 q1.lt; have r2 := r1.below h2 r1.lt))
  have P4 := Lib.hid p2
  have Q4 := Lib.hid q2
  have R4 := Lib.hid r2
  have B4 := Lib.hid b2
  have D34 : Below W3.heap.size W3 x2 := ((Below.refl _ _).drew.trans (h1.mono (Nat.le_refl _))).trans (h2.mono h1.size)
  have YA4 := Lib.hid ((YA.out.below D34).more D34.size)
  have YB := Lib.hid yb
  clear yb D34 YA
  clear Bd Pd Qd Rd p1 q1 r1 b1 h1 p2 q2 r2 b2 h2
  generalize x2 = W4 at *
  go_wp2_with fail
  (with_reducible refine (alive_any _ (HT.out _ B4.out)).mono ?_)
  rintro e z1 ⟨rfl, hz⟩
  have BZ := Lib.hid (B4.out.trans (hz.mono B4.out.size))
  clear hz
  go_wp2
  go_ret
  exact ⟨rfl, BZ.out⟩
set_option maxRecDepth 100000 in
set_option maxHeartbeats 8000000 in
theorem walk_g (k : Int) (f : Bool) (u : Nat) (i : Int) (A : Option Addr) (n c : Nat) (t : Bool) (l : List UInt8) (u' : Nat) (i' : Int) (A' : Option Addr) (n' c' : Nat) (t' : Bool) (l' : List UInt8) (Ax : Option Addr) (m cx : Nat) (b : List UInt8) (w : World) (hT : Tab w) (hu : u ≤ 18446744073709551615) (hi : i ≤ 9223372036854775807) (ha : Byt w w.heap.size A n l) (_ : n ≤ c) (hu' : u' ≤ 18446744073709551615) (hi' : i' ≤ 9223372036854775807) (ha' : Byt w w.heap.size A' n' l') (hb : Byt w w.heap.size Ax m b) (hn : n ≤ 300) (hn' : n' ≤ 300) (hm : m ≤ 300) (he : fE k u i = 0) (hg : fE k u' i' ≠ 0) :
    Calls Tryd.prog 5 #[.agg #[.int .i64 k, .bool f], .agg #[.int .u64 (u : Int), .int .i64 i, .slice A n c, .bool t, .int .u64 (u' : Int), .int .i64 i', .slice A' n' c', .bool t'], .slice Ax m cx] w fun e w' => e = .returned (.bool true) ∧ Below w.heap.size w w' := by
  have HT := Lib.hid (fun V (h : Below w.heap.size w V) => hT.below h)
  have HK := Lib.hid (fun V (h : Below w.heap.size w V) => And.intro (ha.below h) (And.intro (ha'.below h) (hb.below h)))
  have HCm := Lib.hid (fun V (h : Below w.heap.size w V) => fcmp_any k f u u' i i' A A' n n' c c' _ l l' t t' V (HK.out _ h).1 (HK.out _ h).2.1 h.size)
  have HRc := Lib.hid (fun V (h : Below w.heap.size w V) => rfcmp_any k f u u' i i' A A' n n' c c' _ l l' t t' V (HK.out _ h).1 (HK.out _ h).2.1 h.size)
  have HSm := Lib.hid (fun V (h : Below w.heap.size w V) => fsame_any k f u u' i i' A A' n n' c c' _ l l' t t' V (HK.out _ h).1 (HK.out _ h).2.1 h.size)
  have HP1 := Lib.hid (fun V (h : Below w.heap.size w V) => fput_any k f u i A n c _ l t V hu hi (HT.out _ h) (HK.out _ h).1 h.size (by omega))
  have HP2 := Lib.hid (fun V (h : Below w.heap.size w V) => fput_any k f u' i' A' n' c' _ l' t' V hu' hi' (HT.out _ h) (HK.out _ h).2.1 h.size (by omega))
  have hne : ((fE k u' i') != 0) = true := by simpa using hg
  rw [he] at HP1
  have hg1 : ¬ (300 : Int) < (n : Int) := by omega
  have hg2 : ¬ (300 : Int) < (n' : Int) := by omega
  have hg3 : ¬ (300 : Int) < (m : Int) := by omega
  have hd1 : decide ((300 : Int) < (n : Int)) = false := decide_eq_false hg1
  have hd2 : decide ((300 : Int) < (n' : Int)) = false := decide_eq_false hg2
  clear hT ha ha' hb
  generalize fC k f u i l t u' i' l' t' = C at HCm HRc HSm
  go_enter Tryd.func5, Tryd.ntmps5
  go_wp2_with fail
  generalize hW : ((w.alloc (.cells #[.int .i64 k, .bool f] 23)).alloc (.cells #[.int .u64 (u : Int), .int .i64 i, .slice A n c, .bool t, .int .u64 (u' : Int), .int .i64 i', .slice A' n' c', .bool t'] 48)).alloc (.cells #[.int .i64 k, .bool f] 32) = W
  have P0 := Lib.hid (show Two W (w.heap.size) (.int .i64 k) (.bool f) from by subst hW; exact ((Two.new _ _ _ _).alloc _).alloc _)
  have Q0 := Lib.hid (show Blk W (w.heap.size + 1) #[.int .u64 (u : Int), .int .i64 i, .slice A n c, .bool t, .int .u64 (u' : Int), .int .i64 i', .slice A' n' c', .bool t'] from by subst hW; have := (Blk.new (w.alloc (.cells #[.int .i64 k, .bool f] 23)) 48 #[.int .u64 (u : Int), .int .i64 i, .slice A n c, .bool t, .int .u64 (u' : Int), .int .i64 i', .slice A' n' c', .bool t']).alloc (.cells #[.int .i64 k, .bool f] 32); rwa [World.size_alloc] at this)
  have R0 := Lib.hid (show Two W (w.heap.size + 2) (.int .i64 k) (.bool f) from by subst hW; have := Two.new ((w.alloc (.cells #[.int .i64 k, .bool f] 23)).alloc (.cells #[.int .u64 (u : Int), .int .i64 i, .slice A n c, .bool t, .int .u64 (u' : Int), .int .i64 i', .slice A' n' c', .bool t'] 48)) 32 (.int .i64 k) (.bool f); simpa only [World.size_alloc, Nat.add_assoc, Nat.reduceAdd] using this)
  have B0 := Lib.hid (show Below w.heap.size w W from by subst hW; exact (((Below.refl _ _).alloc (Nat.le_refl _) _).alloc (by simp) _).alloc (by simp; omega) _)
  clear hW
  have Bd : Below w.heap.size w W.drew := B0.out.drew
  have Pd : Two W.drew (w.heap.size) (.int .i64 k) (.bool f) := P0.out
  have Qd : Blk W.drew (w.heap.size + 1) #[.int .u64 (u : Int), .int .i64 i, .slice A n c, .bool t, .int .u64 (u' : Int), .int .i64 i', .slice A' n' c', .bool t'] := Q0.out
  have Rd : Two W.drew (w.heap.size + 2) (.int .i64 k) (.bool f) := R0.out
  go_region_held3 (fun w' => w'.cell? ⟨w.heap.size, 0, none⟩ = some (.int .i64 k) ∧ w'.cell? ⟨w.heap.size, 1, none⟩ = some (.bool f) ∧ w'.cell? ⟨w.heap.size + 1, 0, none⟩ = some (.int .u64 (u : Int)) ∧ w'.cell? ⟨w.heap.size + 1, 1, none⟩ = some (.int .i64 i) ∧ w'.cell? ⟨w.heap.size + 1, 2, none⟩ = some (.slice A n c) ∧ w'.cell? ⟨w.heap.size + 1, 3, none⟩ = some (.bool t) ∧ w'.cell? ⟨w.heap.size + 1, 4, none⟩ = some (.int .u64 (u' : Int)) ∧ w'.cell? ⟨w.heap.size + 1, 5, none⟩ = some (.int .i64 i') ∧ w'.cell? ⟨w.heap.size + 1, 6, none⟩ = some (.slice A' n' c') ∧ w'.cell? ⟨w.heap.size + 1, 7, none⟩ = some (.bool t') ∧ w'.cell? ⟨w.heap.size + 2, 0, none⟩ = some (.int .i64 k) ∧ w'.cell? ⟨w.heap.size + 2, 1, none⟩ = some (.bool f))
    (first | (with_reducible exact twelve P0.out Q0.out R0.out) | (with_reducible exact twelve Pd Qd Rd) | (with_reducible exact twelve p1 q1 r1) | (with_reducible exact twelve p2 q2 r2) | (with_reducible exact twelve p3 q3 r3))
    (first
      | (go_at_call 8; (with_reducible refine (theirs_any u i A n c t W.drew).mono ?_); rintro e x1 ⟨rfl, h1⟩; have b1 : Below w.heap.size w x1 := Bd.trans (h1.mono Bd.size); have p1 := Pd.below h1 Pd.lt; have q1 := Qd.below h1 Qd.lt; have r1 := Rd.below h1 Rd.lt)
      | (go_at_call 8; (with_reducible refine (theirs_any u' i' A' n' c' t' x1).mono ?_); rintro e x2 ⟨rfl, h2⟩; have b2 : Below w.heap.size w x2 := b1.trans (h2.mono b1.size); have p2 := p1.below h2 p1.lt; have q2 := q1.below h2 q1.lt; have r2 := r1.below h2 r1.lt)
      | (go_at_call 17; (with_reducible refine (HCm.out _ b2).mono ?_); rintro e x3 ⟨rfl, h3⟩; have b3 : Below w.heap.size w x3 := b2.trans (h3.mono b2.size); have p3 := p2.below h3 p2.lt; have q3 := q2.below h3 q2.lt; have r3 := r2.below h3 r2.lt))
  have P1 := Lib.hid p3
  have Q1 := Lib.hid q3
  have R1 := Lib.hid r3
  have B1 := Lib.hid b3
  clear Bd Pd Qd Rd p1 q1 r1 b1 h1 p2 q2 r2 b2 h2 p3 q3 r3 b3 h3
  generalize x3 = W1 at *
  go_wp2_with fail
  have Bd : Below w.heap.size w W1.drew := B1.out.drew
  have Pd : Two W1.drew (w.heap.size) (.int .i64 k) (.bool f) := P1.out
  have Qd : Blk W1.drew (w.heap.size + 1) #[.int .u64 (u : Int), .int .i64 i, .slice A n c, .bool t, .int .u64 (u' : Int), .int .i64 i', .slice A' n' c', .bool t'] := Q1.out
  have Rd : Two W1.drew (w.heap.size + 2) (.int .i64 k) (.bool f) := R1.out
  go_region_held3 (fun w' => w'.cell? ⟨w.heap.size, 0, none⟩ = some (.int .i64 k) ∧ w'.cell? ⟨w.heap.size, 1, none⟩ = some (.bool f) ∧ w'.cell? ⟨w.heap.size + 1, 0, none⟩ = some (.int .u64 (u : Int)) ∧ w'.cell? ⟨w.heap.size + 1, 1, none⟩ = some (.int .i64 i) ∧ w'.cell? ⟨w.heap.size + 1, 2, none⟩ = some (.slice A n c) ∧ w'.cell? ⟨w.heap.size + 1, 3, none⟩ = some (.bool t) ∧ w'.cell? ⟨w.heap.size + 1, 4, none⟩ = some (.int .u64 (u' : Int)) ∧ w'.cell? ⟨w.heap.size + 1, 5, none⟩ = some (.int .i64 i') ∧ w'.cell? ⟨w.heap.size + 1, 6, none⟩ = some (.slice A' n' c') ∧ w'.cell? ⟨w.heap.size + 1, 7, none⟩ = some (.bool t') ∧ w'.cell? ⟨w.heap.size + 2, 0, none⟩ = some (.int .i64 k) ∧ w'.cell? ⟨w.heap.size + 2, 1, none⟩ = some (.bool f))
    (first | (with_reducible exact twelve P1.out Q1.out R1.out) | (with_reducible exact twelve Pd Qd Rd) | (with_reducible exact twelve p1 q1 r1) | (with_reducible exact twelve p2 q2 r2) | (with_reducible exact twelve p3 q3 r3) | (with_reducible exact twelve p4 q4 r4))
    (first
      | (go_at_call 18; (with_reducible refine (HRc.out _ Bd).mono ?_); rintro e x1 ⟨rfl, h1⟩; have b1 : Below w.heap.size w x1 := Bd.trans (h1.mono Bd.size); have p1 := Pd.below h1 Pd.lt; have q1 := Qd.below h1 Qd.lt; have r1 := Rd.below h1 Rd.lt)
      | (go_at_call 8; (with_reducible refine (theirs_any u i A n c t x1).mono ?_); rintro e x2 ⟨rfl, h2⟩; have b2 : Below w.heap.size w x2 := b1.trans (h2.mono b1.size); have p2 := p1.below h2 p1.lt; have q2 := q1.below h2 q1.lt; have r2 := r1.below h2 r1.lt)
      | (go_at_call 8; (with_reducible refine (theirs_any u' i' A' n' c' t' x2).mono ?_); rintro e x3 ⟨rfl, h3⟩; have b3 : Below w.heap.size w x3 := b2.trans (h3.mono b2.size); have p3 := p2.below h3 p2.lt; have q3 := q2.below h3 q2.lt; have r3 := r2.below h3 r2.lt)
      | (go_at_call 19; (with_reducible refine (HSm.out _ b3).mono ?_); rintro e x4 ⟨rfl, h4⟩; have b4 : Below w.heap.size w x4 := b3.trans (h4.mono b3.size); have p4 := p3.below h4 p3.lt; have q4 := q3.below h4 q3.lt; have r4 := r3.below h4 r3.lt))
  have P2 := Lib.hid p4
  have Q2 := Lib.hid q4
  have R2 := Lib.hid r4
  have B2 := Lib.hid b4
  clear Bd Pd Qd Rd p1 q1 r1 b1 h1 p2 q2 r2 b2 h2 p3 q3 r3 b3 h3 p4 q4 r4 b4 h4
  generalize x4 = W2 at *
  go_wp2_with fail
  have Bd : Below w.heap.size w W2.drew := B2.out.drew
  have Pd : Two W2.drew (w.heap.size) (.int .i64 k) (.bool f) := P2.out
  have Qd : Blk W2.drew (w.heap.size + 1) #[.int .u64 (u : Int), .int .i64 i, .slice A n c, .bool t, .int .u64 (u' : Int), .int .i64 i', .slice A' n' c', .bool t'] := Q2.out
  have Rd : Two W2.drew (w.heap.size + 2) (.int .i64 k) (.bool f) := R2.out
  go_region_held3 (fun w' => w'.cell? ⟨w.heap.size, 0, none⟩ = some (.int .i64 k) ∧ w'.cell? ⟨w.heap.size, 1, none⟩ = some (.bool f) ∧ w'.cell? ⟨w.heap.size + 1, 0, none⟩ = some (.int .u64 (u : Int)) ∧ w'.cell? ⟨w.heap.size + 1, 1, none⟩ = some (.int .i64 i) ∧ w'.cell? ⟨w.heap.size + 1, 2, none⟩ = some (.slice A n c) ∧ w'.cell? ⟨w.heap.size + 1, 3, none⟩ = some (.bool t) ∧ w'.cell? ⟨w.heap.size + 1, 4, none⟩ = some (.int .u64 (u' : Int)) ∧ w'.cell? ⟨w.heap.size + 1, 5, none⟩ = some (.int .i64 i') ∧ w'.cell? ⟨w.heap.size + 1, 6, none⟩ = some (.slice A' n' c') ∧ w'.cell? ⟨w.heap.size + 1, 7, none⟩ = some (.bool t') ∧ w'.cell? ⟨w.heap.size + 2, 0, none⟩ = some (.int .i64 k) ∧ w'.cell? ⟨w.heap.size + 2, 1, none⟩ = some (.bool f))
    (first | (with_reducible exact twelve P2.out Q2.out R2.out) | (with_reducible exact twelve Pd Qd Rd) | (with_reducible exact twelve p1 q1 r1) | (with_reducible exact twelve p2 q2 r2))
    (first
      | (go_at_call 8; (with_reducible refine (theirs_any u i A n c t W2.drew).mono ?_); rintro e x1 ⟨rfl, h1⟩; have b1 : Below w.heap.size w x1 := Bd.trans (h1.mono Bd.size); have p1 := Pd.below h1 Pd.lt; have q1 := Qd.below h1 Qd.lt; have r1 := Rd.below h1 Rd.lt)
      | (go_at_call 7; (with_reducible refine (HP1.out _ b1).mono ?_); rintro e x2 ⟨Aa, na, ca, rfl, ya, h2⟩; have b2 : Below w.heap.size w x2 := b1.trans (h2.mono b1.size); have p2 := p1.below h2 p1.lt; have q2 := q1.below h2 q1.lt; have r2 := r1.below h2 r1.lt))
  have P3 := Lib.hid p2
  have Q3 := Lib.hid q2
  have R3 := Lib.hid r2
  have B3 := Lib.hid b2
  have YA := Lib.hid ya
  clear ya
  clear Bd Pd Qd Rd p1 q1 r1 b1 h1 p2 q2 r2 b2 h2
  generalize x2 = W3 at *
  go_wp2_with fail
  have Bd : Below w.heap.size w W3.drew := B3.out.drew
  have Pd : Two W3.drew (w.heap.size) (.int .i64 k) (.bool f) := P3.out
  have Qd : Blk W3.drew (w.heap.size + 1) #[.int .u64 (u : Int), .int .i64 i, .slice A n c, .bool t, .int .u64 (u' : Int), .int .i64 i', .slice A' n' c', .bool t'] := Q3.out
  have Rd : Two W3.drew (w.heap.size + 2) (.int .i64 k) (.bool f) := R3.out
  go_region_held3 (fun w' => w'.cell? ⟨w.heap.size, 0, none⟩ = some (.int .i64 k) ∧ w'.cell? ⟨w.heap.size, 1, none⟩ = some (.bool f) ∧ w'.cell? ⟨w.heap.size + 1, 0, none⟩ = some (.int .u64 (u : Int)) ∧ w'.cell? ⟨w.heap.size + 1, 1, none⟩ = some (.int .i64 i) ∧ w'.cell? ⟨w.heap.size + 1, 2, none⟩ = some (.slice A n c) ∧ w'.cell? ⟨w.heap.size + 1, 3, none⟩ = some (.bool t) ∧ w'.cell? ⟨w.heap.size + 1, 4, none⟩ = some (.int .u64 (u' : Int)) ∧ w'.cell? ⟨w.heap.size + 1, 5, none⟩ = some (.int .i64 i') ∧ w'.cell? ⟨w.heap.size + 1, 6, none⟩ = some (.slice A' n' c') ∧ w'.cell? ⟨w.heap.size + 1, 7, none⟩ = some (.bool t') ∧ w'.cell? ⟨w.heap.size + 2, 0, none⟩ = some (.int .i64 k) ∧ w'.cell? ⟨w.heap.size + 2, 1, none⟩ = some (.bool f))
    (first | (with_reducible exact twelve P3.out Q3.out R3.out) | (with_reducible exact twelve Pd Qd Rd) | (with_reducible exact twelve p1 q1 r1) | (with_reducible exact twelve p2 q2 r2))
    (first
      | (go_at_call 8; (with_reducible refine (theirs_any u' i' A' n' c' t' W3.drew).mono ?_); rintro e x1 ⟨rfl, h1⟩; have b1 : Below w.heap.size w x1 := Bd.trans (h1.mono Bd.size); have p1 := Pd.below h1 Pd.lt; have q1 := Qd.below h1 Qd.lt; have r1 := Rd.below h1 Rd.lt)
      | (go_at_call 7; (with_reducible refine (HP2.out _ b1).mono ?_); rintro e x2 ⟨Ab, nb, cb, rfl, yb, h2⟩; have b2 : Below w.heap.size w x2 := b1.trans (h2.mono b1.size); have p2 := p1.below h2 p1.lt; have q2 := q1.below h2 q1.lt; have r2 := r1.below h2 r1.lt))
  have P4 := Lib.hid p2
  have Q4 := Lib.hid q2
  have R4 := Lib.hid r2
  have B4 := Lib.hid b2
  have D34 : Below W3.heap.size W3 x2 := ((Below.refl _ _).drew.trans (h1.mono (Nat.le_refl _))).trans (h2.mono h1.size)
  have YA4 := Lib.hid ((YA.out.below D34).more D34.size)
  have YB := Lib.hid yb
  clear yb D34 YA
  clear Bd Pd Qd Rd p1 q1 r1 b1 h1 p2 q2 r2 b2 h2
  generalize x2 = W4 at *
  go_wp2_with fail
  (with_reducible refine (alive_any _ (HT.out _ B4.out)).mono ?_)
  rintro e z1 ⟨rfl, hz⟩
  have BZ := Lib.hid (B4.out.trans (hz.mono B4.out.size))
  clear hz
  go_wp2
  go_ret
  exact ⟨rfl, BZ.out⟩
end Go.Proofs.YtknkpmkpcfiefaaDoor.fieldOrder
