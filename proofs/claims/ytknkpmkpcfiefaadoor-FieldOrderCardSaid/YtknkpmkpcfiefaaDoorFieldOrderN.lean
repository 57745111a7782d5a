/-
  The walk of the law FieldOrder, where both values have bytes, and are not the same by the field.
-/
import Derived.Test.YtknkpmkpcfiefaaDoorFieldOrderP
namespace Go.Proofs.YtknkpmkpcfiefaaDoor.fieldOrder
open Go.RowKit

set_option maxRecDepth 100000 in
set_option maxHeartbeats 8000000 in
theorem walk_n (k : Int) (f : Bool) (u : Nat) (i : Int) (A : Option Addr) (n c : Nat) (t : Bool) (l : List UInt8) (u' : Nat) (i' : Int) (A' : Option Addr) (n' c' : Nat) (t' : Bool) (l' : List UInt8) (Ax : Option Addr) (m cx : Nat) (b : List UInt8) (w : World) (hT : Tab w) (hu : u ≤ 18446744073709551615) (hi : i ≤ 9223372036854775807) (ha : Byt w w.heap.size A n l) (hnc : n ≤ c) (hu' : u' ≤ 18446744073709551615) (hi' : i' ≤ 9223372036854775807) (ha' : Byt w w.heap.size A' n' l') (hb : Byt w w.heap.size Ax m b) (hn : n ≤ 300) (hn' : n' ≤ 300) (hm : m ≤ 300) (he : fE k u i = 0) (hg : fE k u' i' = 0) (hc : fC k f u i l t u' i' l' t' ≠ 0) :
    Calls Tryd.prog 5 #[.agg #[.int .i64 k, .bool f], .agg #[.int .u64 (u : Int), .int .i64 i, .slice A n c, .bool t, .int .u64 (u' : Int), .int .i64 i', .slice A' n' c', .bool t'], .slice Ax m cx] w fun e w' => e = .returned (.bool true) ∧ Below w.heap.size w w' := by
  have HT := Lib.hid (fun V (h : Below w.heap.size w V) => hT.below h)
  have HK := Lib.hid (fun V (h : Below w.heap.size w V) => And.intro (ha.below h) (And.intro (ha'.below h) (hb.below h)))
  have HCm := Lib.hid (fun V (h : Below w.heap.size w V) => fcmp_any k f u u' i i' A A' n n' c c' _ l l' t t' V (HK.out _ h).1 (HK.out _ h).2.1 h.size)
  have HRc := Lib.hid (fun V (h : Below w.heap.size w V) => rfcmp_any k f u u' i i' A A' n n' c c' _ l l' t t' V (HK.out _ h).1 (HK.out _ h).2.1 h.size)
  have HSm := Lib.hid (fun V (h : Below w.heap.size w V) => fsame_any k f u u' i i' A A' n n' c c' _ l l' t t' V (HK.out _ h).1 (HK.out _ h).2.1 h.size)
  have HP1 := Lib.hid (fun V (h : Below w.heap.size w V) => fput_any k f u i A n c _ l t V hu hi (HT.out _ h) (HK.out _ h).1 h.size (by omega))
  have HP2 := Lib.hid (fun V (h : Below w.heap.size w V) => fput_any k f u' i' A' n' c' _ l' t' V hu' hi' (HT.out _ h) (HK.out _ h).2.1 h.size (by omega))
  rw [he] at HP1
  rw [hg] at HP2
  have HCM := Lib.hid (order k f u u' i i' l l' t t' he hg)
  have HRb := Lib.hid (fun V (h : Below w.heap.size w V) => rbare_any k f u i A n c _ l t V (HK.out _ h).1 h.size hnc)
  have hxl : (turn f (fR k u i l t)).length ≤ 608 := by rw [turn_length]; have := fR_length k u i l t; have := ha.1; omega
  have HTk := Lib.hid (fun V A4 n4 c4 (h : Below w.heap.size w V) (h4 : Byt V V.heap.size A4 n4 (turn f (fR k u i l t) ++ b)) (hc4 : n4 ≤ c4) => ftake_any k f A4 n4 c4 _ _ V (HT.out _ h) h4 hc4 (Nat.le_refl _) (by have q := h4.1; rw [List.length_append] at q; have := hb.1; omega))
  obtain ⟨e1, e2, e3, e4, e5, e6⟩ := back_turned k f u i l t b he
  rw [e1, e2, e3, e4, e5, e6] at HTk
  clear e1 e2 e3 e4 e5 e6
  obtain ⟨hbg1, hbg2⟩ := begins k f u u' i i' l l' t t' he hg hc
  have HBG1 := Lib.hid hbg1
  have HBG2 := Lib.hid hbg2
  clear hbg1 hbg2
  have hne : ((fC k f u i l t u' i' l' t') != 0) = true := by simpa using hc
  have hg1 : ¬ (300 : Int) < (n : Int) := by omega
  have hg2 : ¬ (300 : Int) < (n' : Int) := by omega
  have hg3 : ¬ (300 : Int) < (m : Int) := by omega
  have hd1 : decide ((300 : Int) < (n : Int)) = false := decide_eq_false hg1
  have hd2 : decide ((300 : Int) < (n' : Int)) = false := decide_eq_false hg2
  clear hT ha ha' hb
  generalize turn f (fR k u i l t) = X at HP1 HCM HTk hxl HBG1 HBG2
  generalize turn f (fR k u' i' l' t') = X' at HP2 HCM HBG1 HBG2
  generalize bU k u = U at HRb HTk
  generalize bI k i = I at HRb HTk
  generalize bL k l = LL at HRb HTk
  generalize bT k t = Q at HRb HTk
  generalize fC k f u i l t u' i' l' t' = C at HCm HRc HSm HCM hne hc
  go_enter Tryd.func5, Tryd.ntmps5
  go_wp2_with fail
  generalize hW : ((w.alloc (.cells #[.int .i64 k, .bool f] 23)).alloc (.cells #[.int .u64 (u : Int), .int .i64 i, .slice A n c, .bool t, .int .u64 (u' : Int), .int .i64 i', .slice A' n' c', .bool t'] 48)).alloc (.cells #[.int .i64 k, .bool f] 32) = W
  have P0 := Lib.hid (show Two W (w.heap.size) (.int .i64 k) (.bool f) from by subst hW; exact ((Two.new _ _ _ _).alloc _).alloc _)
  have Q0 := Lib.hid (show Blk W (w.heap.size + 1) #[.int .u64 (u : Int), .int .i64 i, .slice A n c, .bool t, .int .u64 (u' : Int), .int .i64 i', .slice A' n' c', .bool t'] from by subst hW; have := (Blk.new (w.alloc (.cells #[.int .i64 k, .bool f] 23)) 48 #[.int .u64 (u : Int), .int .i64 i, .slice A n c, .bool t, .int .u64 (u' : Int), .int .i64 i', .slice A' n' c', .bool t']).alloc (.cells #[.int .i64 k, .bool f] 32); rwa [World.size_alloc] at this)
  have R0 := Lib.hid (show Two W (w.heap.size + 2) (.int .i64 k) (.bool f) from by subst hW; have := Two.new ((w.alloc (.cells #[.int .i64 k, .bool f] 23)).alloc (.cells #[.int .u64 (u : Int), .int .i64 i, .slice A n c, .bool t, .int .u64 (u' : Int), .int .i64 i', .slice A' n' c', .bool t'] 48)) 32 (.int .i64 k) (.bool f); simpa only [World.size_alloc, Nat.add_assoc, Nat.reduceAdd] using this)
  have B0 := Lib.hid (show Below w.heap.size w W from by subst hW; exact (((Below.refl _ _).alloc (Nat.le_refl _) _).alloc (by simp) _).alloc (by simp; omega) _)
  clear hW
  have Bd : Below w.heap.size w W.drew := B0.out.drew
  have Pd : Two W.drew (w.heap.size) (.int .i64 k) (.bool f) := P0.out
  have Qd : Blk W.drew (w.heap.size + 1) #[.int .u64 (u : Int), .int .i64 i, .slice A n c, .bool t, .int .u64 (u' : Int), .int .i64 i', .slice A' n' c', .bool t'] := Q0.out
  have Rd : Two W.drew (w.heap.size + 2) (.int .i64 k) (.bool f) := R0.out
  go_region_held3 (fun w' => w'.cell? ⟨w.heap.size, 0, none⟩ = some (.int .i64 k) ∧ w'.cell? ⟨w.heap.size, 1, none⟩ = some (.bool f) ∧ w'.cell? ⟨w.heap.size + 1, 0, none⟩ = some (.int .u64 (u : Int)) ∧ w'.cell? ⟨w.heap.size + 1, 1, none⟩ = some (.int .i64 i) ∧ w'.cell? ⟨w.heap.size + 1, 2, none⟩ = some (.slice A n c) ∧ w'.cell? ⟨w.heap.size + 1, 3, none⟩ = some (.bool t) ∧ w'.cell? ⟨w.heap.size + 1, 4, none⟩ = some (.int .u64 (u' : Int)) ∧ w'.cell? ⟨w.heap.size + 1, 5, none⟩ = some (.int .i64 i') ∧ w'.cell? ⟨w.heap.size + 1, 6, none⟩ = some (.slice A' n' c') ∧ w'.cell? ⟨w.heap.size + 1, 7, none⟩ = some (.bool t') ∧ w'.cell? ⟨w.heap.size + 2, 0, none⟩ = some (.int .i64 k) ∧ w'.cell? ⟨w.heap.size + 2, 1, none⟩ = some (.bool f))
    (first | (with_reducible exact twelve P0.out Q0.out R0.out) | (with_reducible exact twelve Pd Qd Rd) | (with_reducible exact twelve p1 q1 r1) | (with_reducible exact twelve p2 q2 r2) | (with_reducible exact twelve p3 q3 r3))
    (first
      | (go_at_call 8; (with_reducible refine (theirs_any u i A n c t W.drew).mono ?_); rintro e x1 ⟨rfl, h1⟩; have b1 : Below w.heap.size w x1 := Bd.trans (h1.mono Bd.size); have p1 := Pd.below h1 Pd.lt; have q1 := Qd.below h1 Qd.lt; have r1 := Rd.below h1 Rd.lt)
      | (go_at_call 8; (with_reducible refine (theirs_any u' i' A' n' c' t' x1).mono ?_); rintro e x2 ⟨rfl, h2⟩; have b2 : Below w.heap.size w x2 := b1.trans (h2.mono b1.size); have p2 := p1.below h2 p1.lt; have q2 := q1.below h2 q1.lt; have r2 := r1.below h2 r1.lt)
      | (go_at_call 17; (with_reducible refine (HCm.out _ b2).mono ?_); rintro e x3 ⟨rfl, h3⟩; have b3 : Below w.heap.size w x3 := b2.trans (h3.mono b2.size); have p3 := p2.below h3 p2.lt; have q3 := q2.below h3 q2.lt; have r3 := r2.below h3 r2.lt))
  have P1 := Lib.hid p3
  have Q1 := Lib.hid q3
  have R1 := Lib.hid r3
  have B1 := Lib.hid b3
  clear Bd Pd Qd Rd p1 q1 r1 b1 h1 p2 q2 r2 b2 h2 p3 q3 r3 b3 h3
  generalize x3 = W1 at *
  go_wp2_with fail
  have Bd : Below w.heap.size w W1.drew := B1.out.drew
  have Pd : Two W1.drew (w.heap.size) (.int .i64 k) (.bool f) := P1.out
  have Qd : Blk W1.drew (w.heap.size + 1) #[.int .u64 (u : Int), .int .i64 i, .slice A n c, .bool t, .int .u64 (u' : Int), .int .i64 i', .slice A' n' c', .bool t'] := Q1.out
  have Rd : Two W1.drew (w.heap.size + 2) (.int .i64 k) (.bool f) := R1.out
  go_region_held3 (fun w' => w'.cell? ⟨w.heap.size, 0, none⟩ = some (.int .i64 k) ∧ w'.cell? ⟨w.heap.size, 1, none⟩ = some (.bool f) ∧ w'.cell? ⟨w.heap.size + 1, 0, none⟩ = some (.int .u64 (u : Int)) ∧ w'.cell? ⟨w.heap.size + 1, 1, none⟩ = some (.int .i64 i) ∧ w'.cell? ⟨w.heap.size + 1, 2, none⟩ = some (.slice A n c) ∧ w'.cell? ⟨w.heap.size + 1, 3, none⟩ = some (.bool t) ∧ w'.cell? ⟨w.heap.size + 1, 4, none⟩ = some (.int .u64 (u' : Int)) ∧ w'.cell? ⟨w.heap.size + 1, 5, none⟩ = some (.int .i64 i') ∧ w'.cell? ⟨w.heap.size + 1, 6, none⟩ = some (.slice A' n' c') ∧ w'.cell? ⟨w.heap.size + 1, 7, none⟩ = some (.bool t') ∧ w'.cell? ⟨w.heap.size + 2, 0, none⟩ = some (.int .i64 k) ∧ w'.cell? ⟨w.heap.size + 2, 1, none⟩ = some (.bool f))
    (first | (with_reducible exact twelve P1.out Q1.out R1.out) | (with_reducible exact twelve Pd Qd Rd) | (with_reducible exact twelve p1 q1 r1) | (with_reducible exact twelve p2 q2 r2) | (with_reducible exact twelve p3 q3 r3) | (with_reducible exact twelve p4 q4 r4))
    (first
      | (go_at_call 18; (with_reducible refine (HRc.out _ Bd).mono ?_); rintro e x1 ⟨rfl, h1⟩; have b1 : Below w.heap.size w x1 := Bd.trans (h1.mono Bd.size); have p1 := Pd.below h1 Pd.lt; have q1 := Qd.below h1 Qd.lt; have r1 := Rd.below h1 Rd.lt)
      | (go_at_call 8; (with_reducible refine (theirs_any u i A n c t x1).mono ?_); rintro e x2 ⟨rfl, h2⟩; have b2 : Below w.heap.size w x2 := b1.trans (h2.mono b1.size); have p2 := p1.below h2 p1.lt; have q2 := q1.below h2 q1.lt; have r2 := r1.below h2 r1.lt)
      | (go_at_call 8; (with_reducible refine (theirs_any u' i' A' n' c' t' x2).mono ?_); rintro e x3 ⟨rfl, h3⟩; have b3 : Below w.heap.size w x3 := b2.trans (h3.mono b2.size); have p3 := p2.below h3 p2.lt; have q3 := q2.below h3 q2.lt; have r3 := r2.below h3 r2.lt)
      | (go_at_call 19; (with_reducible refine (HSm.out _ b3).mono ?_); rintro e x4 ⟨rfl, h4⟩; have b4 : Below w.heap.size w x4 := b3.trans (h4.mono b3.size); have p4 := p3.below h4 p3.lt; have q4 := q3.below h4 q3.lt; have r4 := r3.below h4 r3.lt))
  have P2 := Lib.hid p4
  have Q2 := Lib.hid q4
  have R2 := Lib.hid r4
  have B2 := Lib.hid b4
  clear Bd Pd Qd Rd p1 q1 r1 b1 h1 p2 q2 r2 b2 h2 p3 q3 r3 b3 h3 p4 q4 r4 b4 h4
  generalize x4 = W2 at *
  go_wp2_with fail
  have Bd : Below w.heap.size w W2.drew := B2.out.drew
  have Pd : Two W2.drew (w.heap.size) (.int .i64 k) (.bool f) := P2.out
  have Qd : Blk W2.drew (w.heap.size + 1) #[.int .u64 (u : Int), .int .i64 i, .slice A n c, .bool t, .int .u64 (u' : Int), .int .i64 i', .slice A' n' c', .bool t'] := Q2.out
  have Rd : Two W2.drew (w.heap.size + 2) (.int .i64 k) (.bool f) := R2.out
  go_region_held3 (fun w' => w'.cell? ⟨w.heap.size, 0, none⟩ = some (.int .i64 k) ∧ w'.cell? ⟨w.heap.size, 1, none⟩ = some (.bool f) ∧ w'.cell? ⟨w.heap.size + 1, 0, none⟩ = some (.int .u64 (u : Int)) ∧ w'.cell? ⟨w.heap.size + 1, 1, none⟩ = some (.int .i64 i) ∧ w'.cell? ⟨w.heap.size + 1, 2, none⟩ = some (.slice A n c) ∧ w'.cell? ⟨w.heap.size + 1, 3, none⟩ = some (.bool t) ∧ w'.cell? ⟨w.heap.size + 1, 4, none⟩ = some (.int .u64 (u' : Int)) ∧ w'.cell? ⟨w.heap.size + 1, 5, none⟩ = some (.int .i64 i') ∧ w'.cell? ⟨w.heap.size + 1, 6, none⟩ = some (.slice A' n' c') ∧ w'.cell? ⟨w.heap.size + 1, 7, none⟩ = some (.bool t') ∧ w'.cell? ⟨w.heap.size + 2, 0, none⟩ = some (.int .i64 k) ∧ w'.cell? ⟨w.heap.size + 2, 1, none⟩ = some (.bool f))
    (first | (with_reducible exact twelve P2.out Q2.out R2.out) | (with_reducible exact twelve Pd Qd Rd) | (with_reducible exact twelve p1 q1 r1) | (with_reducible exact twelve p2 q2 r2))
    (first
      | (go_at_call 8; (with_reducible refine (theirs_any u i A n c t W2.drew).mono ?_); rintro e x1 ⟨rfl, h1⟩; have b1 : Below w.heap.size w x1 := Bd.trans (h1.mono Bd.size); have p1 := Pd.below h1 Pd.lt; have q1 := Qd.below h1 Qd.lt; have r1 := Rd.below h1 Rd.lt)
      | (go_at_call 7; (with_reducible refine (HP1.out _ b1).mono ?_); rintro e x2 ⟨Aa, na, ca, rfl, ya, h2⟩; have b2 : Below w.heap.size w x2 := b1.trans (h2.mono b1.size); have p2 := p1.below h2 p1.lt; have q2 := q1.below h2 q1.lt; have r2 := r1.below h2 r1.lt))
  have P3 := Lib.hid p2
  have Q3 := Lib.hid q2
  have R3 := Lib.hid r2
  have B3 := Lib.hid b2
  have YA := Lib.hid ya
  clear ya
  clear Bd Pd Qd Rd p1 q1 r1 b1 h1 p2 q2 r2 b2 h2
  generalize x2 = W3 at *
  go_wp2_with fail
  have Bd : Below w.heap.size w W3.drew := B3.out.drew
  have Pd : Two W3.drew (w.heap.size) (.int .i64 k) (.bool f) := P3.out
  have Qd : Blk W3.drew (w.heap.size + 1) #[.int .u64 (u : Int), .int .i64 i, .slice A n c, .bool t, .int .u64 (u' : Int), .int .i64 i', .slice A' n' c', .bool t'] := Q3.out
  have Rd : Two W3.drew (w.heap.size + 2) (.int .i64 k) (.bool f) := R3.out
  go_region_held3 (fun w' => w'.cell? ⟨w.heap.size, 0, none⟩ = some (.int .i64 k) ∧ w'.cell? ⟨w.heap.size, 1, none⟩ = some (.bool f) ∧ w'.cell? ⟨w.heap.size + 1, 0, none⟩ = some (.int .u64 (u : Int)) ∧ w'.cell? ⟨w.heap.size + 1, 1, none⟩ = some (.int .i64 i) ∧ w'.cell? ⟨w.heap.size + 1, 2, none⟩ = some (.slice A n c) ∧ w'.cell? ⟨w.heap.size + 1, 3, none⟩ = some (.bool t) ∧ w'.cell? ⟨w.heap.size + 1, 4, none⟩ = some (.int .u64 (u' : Int)) ∧ w'.cell? ⟨w.heap.size + 1, 5, none⟩ = some (.int .i64 i') ∧ w'.cell? ⟨w.heap.size + 1, 6, none⟩ = some (.slice A' n' c') ∧ w'.cell? ⟨w.heap.size + 1, 7, none⟩ = some (.bool t') ∧ w'.cell? ⟨w.heap.size + 2, 0, none⟩ = some (.int .i64 k) ∧ w'.cell? ⟨w.heap.size + 2, 1, none⟩ = some (.bool f))
    (first | (with_reducible exact twelve P3.out Q3.out R3.out) | (with_reducible exact twelve Pd Qd Rd) | (with_reducible exact twelve p1 q1 r1) | (with_reducible exact twelve p2 q2 r2))
    (first
      | (go_at_call 8; (with_reducible refine (theirs_any u' i' A' n' c' t' W3.drew).mono ?_); rintro e x1 ⟨rfl, h1⟩; have b1 : Below w.heap.size w x1 := Bd.trans (h1.mono Bd.size); have p1 := Pd.below h1 Pd.lt; have q1 := Qd.below h1 Qd.lt; have r1 := Rd.below h1 Rd.lt)
      | (go_at_call 7; (with_reducible refine (HP2.out _ b1).mono ?_); rintro e x2 ⟨Ab, nb, cb, rfl, yb, h2⟩; have b2 : Below w.heap.size w x2 := b1.trans (h2.mono b1.size); have p2 := p1.below h2 p1.lt; have q2 := q1.below h2 q1.lt; have r2 := r1.below h2 r1.lt))
  have P4 := Lib.hid p2
  have Q4 := Lib.hid q2
  have R4 := Lib.hid r2
  have B4 := Lib.hid b2
  have D34 : Below W3.heap.size W3 x2 := ((Below.refl _ _).drew.trans (h1.mono (Nat.le_refl _))).trans (h2.mono h1.size)
  have YA4 := Lib.hid ((YA.out.below D34).more D34.size)
  have YB := Lib.hid yb
  clear yb D34 YA
  clear Bd Pd Qd Rd p1 q1 r1 b1 h1 p2 q2 r2 b2 h2
  generalize x2 = W4 at *
  have hna : na ≤ 608 := by have := YA4.out.1; omega
  have hl4 := R4.out.lt
  have Bd : Below w.heap.size w W4.drew := B4.out.drew
  have Pd : Two W4.drew (w.heap.size) (.int .i64 k) (.bool f) := P4.out
  have Qd : Blk W4.drew (w.heap.size + 1) #[.int .u64 (u : Int), .int .i64 i, .slice A n c, .bool t, .int .u64 (u' : Int), .int .i64 i', .slice A' n' c', .bool t'] := Q4.out
  have Rd : Two W4.drew (w.heap.size + 2) (.int .i64 k) (.bool f) := R4.out
  have Ba : Below w.heap.size w (W4.alloc (.cells #[.int .u64 0, .int .i64 0, .slice none 0 0, .bool false] 33)).drew := (B4.out.alloc B4.out.size _).drew
  have Pb : Two (W4.alloc (.cells #[.int .u64 0, .int .i64 0, .slice none 0 0, .bool false] 33)) (w.heap.size) (.int .i64 k) (.bool f) := P4.out.alloc _
  have Qb : Blk (W4.alloc (.cells #[.int .u64 0, .int .i64 0, .slice none 0 0, .bool false] 33)) (w.heap.size + 1) #[.int .u64 (u : Int), .int .i64 i, .slice A n c, .bool t, .int .u64 (u' : Int), .int .i64 i', .slice A' n' c', .bool t'] := Q4.out.alloc _
  have Rb : Two (W4.alloc (.cells #[.int .u64 0, .int .i64 0, .slice none 0 0, .bool false] 33)) (w.heap.size + 2) (.int .i64 k) (.bool f) := R4.out.alloc _
  have Pa : Two (W4.alloc (.cells #[.int .u64 0, .int .i64 0, .slice none 0 0, .bool false] 33)).drew (w.heap.size) (.int .i64 k) (.bool f) := P4.out.alloc _
  have Qa : Blk (W4.alloc (.cells #[.int .u64 0, .int .i64 0, .slice none 0 0, .bool false] 33)).drew (w.heap.size + 1) #[.int .u64 (u : Int), .int .i64 i, .slice A n c, .bool t, .int .u64 (u' : Int), .int .i64 i', .slice A' n' c', .bool t'] := Q4.out.alloc _
  have Ra : Two (W4.alloc (.cells #[.int .u64 0, .int .i64 0, .slice none 0 0, .bool false] 33)).drew (w.heap.size + 2) (.int .i64 k) (.bool f) := R4.out.alloc _
  have Za : Four (W4.alloc (.cells #[.int .u64 0, .int .i64 0, .slice none 0 0, .bool false] 33)).drew W4.heap.size (.int .u64 0) (.int .i64 0) (.slice none 0 0) (.bool false) := Four.new W4 _ _ _ _ _
  have Dd : Below W4.heap.size W4 W4.drew := (Below.refl _ _).drew
  have Da : Below W4.heap.size W4 (W4.alloc (.cells #[.int .u64 0, .int .i64 0, .slice none 0 0, .bool false] 33)).drew := ((Below.refl _ _).alloc (Nat.le_refl _) _).drew
  have sza : (W4.alloc (.cells #[.int .u64 0, .int .i64 0, .slice none 0 0, .bool false] 33)).drew.heap.size = W4.heap.size + 1 := World.size_alloc W4 _
  have KX := Lib.hid (show ∀ Z, Below W4.heap.size W4 Z → Byt Z W4.heap.size Aa na X ∧ Byt Z W4.heap.size Ab nb X' from fun Z h => ⟨YA4.out.below h, YB.out.below h⟩)
  have hw4 : w.heap.size ≤ W4.heap.size := B4.out.size
  have HL := Lib.hid (show ∀ Z, Below W4.heap.size W4 Z → Below w.heap.size w Z from fun Z h => B4.out.trans (h.mono hw4))
  go_wp2_with fail
  go_region_held3 (fun w' => w'.cell? ⟨w.heap.size, 0, none⟩ = some (.int .i64 k) ∧ w'.cell? ⟨w.heap.size, 1, none⟩ = some (.bool f) ∧ w'.cell? ⟨w.heap.size + 1, 0, none⟩ = some (.int .u64 (u : Int)) ∧ w'.cell? ⟨w.heap.size + 1, 1, none⟩ = some (.int .i64 i) ∧ w'.cell? ⟨w.heap.size + 1, 2, none⟩ = some (.slice A n c) ∧ w'.cell? ⟨w.heap.size + 1, 3, none⟩ = some (.bool t) ∧ w'.cell? ⟨w.heap.size + 1, 4, none⟩ = some (.int .u64 (u' : Int)) ∧ w'.cell? ⟨w.heap.size + 1, 5, none⟩ = some (.int .i64 i') ∧ w'.cell? ⟨w.heap.size + 1, 6, none⟩ = some (.slice A' n' c') ∧ w'.cell? ⟨w.heap.size + 1, 7, none⟩ = some (.bool t') ∧ w'.cell? ⟨w.heap.size + 2, 0, none⟩ = some (.int .i64 k) ∧ w'.cell? ⟨w.heap.size + 2, 1, none⟩ = some (.bool f))
    (first | (with_reducible exact twelve P4.out Q4.out R4.out) | (with_reducible exact twelve Pd Qd Rd) | (with_reducible exact twelve Pb Qb Rb) | (with_reducible exact twelve Pa Qa Ra) | (with_reducible exact twelve p3 q3 r3) | (with_reducible exact twelve p4 q4 r4) | (with_reducible exact twelve p5 q5 r5) | (with_reducible exact twelve (p3.alloc _) (q3.alloc _) (r3.alloc _)) | (with_reducible exact twelve (p4.alloc _) (q4.alloc _) (r4.alloc _)) | (with_reducible exact twelve (p5.alloc _) (q5.alloc _) (r5.alloc _)) | (with_reducible exact twelve (p5.far4 hn0 _ _ _ _) (q5.far4 hn1 _ _ _ _) (r5.far4 hn2 _ _ _ _)))
    (first
      | (rw [if_pos (by rfl)]; (with_reducible refine wp_append_byt W4.drew (.const (.slice none 0 0)) (.tmp 89) _ rfl Tryd.underlying25 info_u8 W4.heap.size (.slice none 0 0) 0 [] rfl (Mine.nil _ _ _) W4.heap.size Aa na ca X rfl (KX.out _ Dd).1 (by omega) Dd.size ?_); intro v3 w3 hm3 hg3 ho3; rw [Nat.zero_add, List.nil_append] at hm3; obtain ⟨A3, c3, rfl⟩ := hm3.slice; have d3 : Below W4.heap.size W4 w3 := Dd.grown hg3 Dd.size (fun j hj => by cases hj); have p3 := grown_blk Pd hg3 (by rw [none_own]; simp); have q3 := grown_blk Qd hg3 (by rw [none_own]; simp); have r3 := grown_blk Rd hg3 (by rw [none_own]; simp); have l3 := hm3.lt; have n30 : ∀ j, j < W4.heap.size → (Value.slice A3 na c3).ownBlock ≠ some j := (fun j hj he => by have := (l3 j he).1; omega))
      | (rw [if_pos (by rfl)]; (with_reducible refine wp_append_byt (W4.alloc (.cells #[.int .u64 0, .int .i64 0, .slice none 0 0, .bool false] 33)).drew (.const (.slice none 0 0)) (.tmp 89) _ rfl Tryd.underlying25 info_u8 W4.heap.size (.slice none 0 0) 0 [] rfl (Mine.nil _ _ _) W4.heap.size Aa na ca X rfl (KX.out _ Da).1 (by omega) Da.size ?_); intro v3 w3 hm3 hg3 ho3; rw [Nat.zero_add, List.nil_append] at hm3; obtain ⟨A3, c3, rfl⟩ := hm3.slice; have d3 : Below W4.heap.size W4 w3 := Da.grown hg3 Da.size (fun j hj => by cases hj); have p3 := grown_blk Pa hg3 (by rw [none_own]; simp); have q3 := grown_blk Qa hg3 (by rw [none_own]; simp); have r3 := grown_blk Ra hg3 (by rw [none_own]; simp); have l3 := hm3.lt; have n30 : ∀ j, j < W4.heap.size → (Value.slice A3 na c3).ownBlock ≠ some j := (fun j hj he => by have := (l3 j he).1; omega); have z3 := grown_blk Za hg3 (by rw [none_own]; simp); have nz3 : (Value.slice A3 na c3).ownBlock ≠ some W4.heap.size := (fun he => by rcases ho3 with q | q <;> rw [he] at q; cases q; injection q with q; rw [sza] at q; omega))
      | (rw [if_pos (by rfl)]; have z := z3; have nz := nz3; (with_reducible refine wp_append_byt w3 (.tmp 90) (.tmp 91) _ rfl Tryd.underlying25 info_u8 W4.heap.size (.slice A3 na c3) na X rfl hm3 w.heap.size Ax m cx b rfl (HK.out _ (HL.out _ d3)).2.2 (by omega) d3.size ?_); intro v4 w4 hm4 hg4 _; obtain ⟨A4, c4, rfl⟩ := hm4.slice; have d4 : Below W4.heap.size W4 w4 := d3.grown hg4 d3.size (fun j hj => (l3 j hj).1); have p4 := grown_blk p3 hg4 (n30 _ (by omega)); have q4 := grown_blk q3 hg4 (n30 _ (by omega)); have r4 := grown_blk r3 hg4 (n30 _ (by omega)); have z4 := grown_blk z hg4 nz)
      | (rw [if_pos (by rfl)]; (with_reducible refine wp_append_byt w3 (.tmp 90) (.tmp 91) _ rfl Tryd.underlying25 info_u8 W4.heap.size (.slice A3 na c3) na X rfl hm3 w.heap.size Ax m cx b rfl (HK.out _ (HL.out _ d3)).2.2 (by omega) d3.size ?_); intro v4 w4 hm4 hg4 _; obtain ⟨A4, c4, rfl⟩ := hm4.slice; have d4 : Below W4.heap.size W4 w4 := d3.grown hg4 d3.size (fun j hj => (l3 j hj).1); have p4 := grown_blk p3 hg4 (n30 _ (by omega)); have q4 := grown_blk q3 hg4 (n30 _ (by omega)); have r4 := grown_blk r3 hg4 (n30 _ (by omega)))
      | (rw [if_pos (by rfl)]; (with_reducible refine wp_append_byt (w3.alloc (.cells #[.int .u64 0, .int .i64 0, .slice none 0 0, .bool false] 33)) (.tmp 90) (.tmp 91) _ rfl Tryd.underlying25 info_u8 W4.heap.size (.slice A3 na c3) na X rfl (hm3.alloc _) w.heap.size Ax m cx b rfl (HK.out _ (HL.out _ (d3.alloc d3.size _))).2.2 (by omega) (d3.alloc d3.size _).size ?_); intro v4 w4 hm4 hg4 _; obtain ⟨A4, c4, rfl⟩ := hm4.slice; have d4 : Below W4.heap.size W4 w4 := (d3.alloc d3.size _).grown hg4 (d3.alloc d3.size _).size (fun j hj => (l3 j hj).1); have p4 := grown_blk (p3.alloc _) hg4 (n30 _ (by omega)); have q4 := grown_blk (q3.alloc _) hg4 (n30 _ (by omega)); have r4 := grown_blk (r3.alloc _) hg4 (n30 _ (by omega)); have z4' : Four w4 w3.heap.size (.int .u64 0) (.int .i64 0) (.slice none 0 0) (.bool false) := grown_blk (Four.new w3 _ _ _ _ _) hg4 (fun he => absurd (l3 _ he).2 (Nat.lt_irrefl _)))
      | (go_at_call 15; have z := z4; (with_reducible refine (HTk.out _ A4 _ c4 (HL.out _ d4) hm4.byt hm4.room).mono ?_); rintro e x5 ⟨A5, n5, c5, A6, n6, c6, rfl, y5, y6, h5⟩; have d5 : Below W4.heap.size W4 x5 := d4.trans (h5.mono d4.size); have p5 := p4.below h5 p4.lt; have q5 := q4.below h5 q4.lt; have r5 := r4.below h5 r4.lt; have s5 := d5.size; have z5 : Four x5 W4.heap.size (.int .u64 0) (.int .i64 0) (.slice none 0 0) (.bool false) := z.below h5 z.lt; have hn0 : w.heap.size ≠ W4.heap.size := (by omega); have hn1 : w.heap.size + 1 ≠ W4.heap.size := (by omega); have hn2 : w.heap.size + 2 ≠ W4.heap.size := (by omega); have f0 := z5.c0; have f1 := z5.c1; have f2 := z5.c2; have f3 := z5.c3; have ff := z5.fz)
      | (go_at_call 15; have z := z4'; (with_reducible refine (HTk.out _ A4 _ c4 (HL.out _ d4) hm4.byt hm4.room).mono ?_); rintro e x5 ⟨A5, n5, c5, A6, n6, c6, rfl, y5, y6, h5⟩; have d5 : Below W4.heap.size W4 x5 := d4.trans (h5.mono d4.size); have p5 := p4.below h5 p4.lt; have q5 := q4.below h5 q4.lt; have r5 := r4.below h5 r4.lt; have s5 := d5.size; have s3 := d3.size; have z5 : Four x5 w3.heap.size (.int .u64 0) (.int .i64 0) (.slice none 0 0) (.bool false) := z.below h5 z.lt; have hn0 : w.heap.size ≠ w3.heap.size := (by omega); have hn1 : w.heap.size + 1 ≠ w3.heap.size := (by omega); have hn2 : w.heap.size + 2 ≠ w3.heap.size := (by omega); have f0 := z5.c0; have f1 := z5.c1; have f2 := z5.c2; have f3 := z5.c3; have ff := z5.fz)
      | (go_at_call 15; (with_reducible refine (HTk.out _ A4 _ c4 (HL.out _ d4) hm4.byt hm4.room).mono ?_); rintro e x5 ⟨A5, n5, c5, A6, n6, c6, rfl, y5, y6, h5⟩; have d5 : Below W4.heap.size W4 x5 := d4.trans (h5.mono d4.size); have p5 := p4.below h5 p4.lt; have q5 := q4.below h5 q4.lt; have r5 := r4.below h5 r4.lt; have s5 := d5.size)
      | (go_at_call 15; (with_reducible refine (HTk.out _ A4 _ c4 (HL.out _ (d4.alloc d4.size _)) (hm4.alloc _).byt hm4.room).mono ?_); rintro e x5 ⟨A5, n5, c5, A6, n6, c6, rfl, y5, y6, h5⟩; have s4 := d4.size; have hsz4 := World.size_alloc w4 (.cells #[.int .u64 0, .int .i64 0, .slice none 0 0, .bool false] 33); have d5 : Below W4.heap.size W4 x5 := (d4.alloc d4.size _).trans (h5.mono (by rw [hsz4]; omega)); have p5 := (p4.alloc _).below h5 (p4.alloc _).lt; have q5 := (q4.alloc _).below h5 (q4.alloc _).lt; have r5 := (r4.alloc _).below h5 (r4.alloc _).lt; have s5 := d5.size; have z5 : Four x5 w4.heap.size (.int .u64 0) (.int .i64 0) (.slice none 0 0) (.bool false) := (Four.new w4 _ _ _ _ _).below h5 (by rw [hsz4]; exact Nat.lt_succ_self _); have hn0 : w.heap.size ≠ w4.heap.size := (by omega); have hn1 : w.heap.size + 1 ≠ w4.heap.size := (by omega); have hn2 : w.heap.size + 2 ≠ w4.heap.size := (by omega); have f0 := z5.c0; have f1 := z5.c1; have f2 := z5.c2; have f3 := z5.c3; have ff := z5.fz))
  · have hwd := hl4
    generalize hV : x5.alloc (.cells #[.int .u64 (U : Int), .int .i64 I, .slice A5 n5 c5, .bool Q] 33) = V
    have SV := Lib.hid (show Four V (x5.heap.size) (.int .u64 (U : Int)) (.int .i64 I) (.slice A5 n5 c5) (.bool Q) from by subst hV; exact Four.new _ _ _ _ _ _)
    have PV := Lib.hid (show Two V (w.heap.size) (.int .i64 k) (.bool f) from by subst hV; exact p5.alloc _)
    have QV := Lib.hid (show Blk V (w.heap.size + 1) #[.int .u64 (u : Int), .int .i64 i, .slice A n c, .bool t, .int .u64 (u' : Int), .int .i64 i', .slice A' n' c', .bool t'] from by subst hV; exact q5.alloc _)
    have DV := Lib.hid (show Below W4.heap.size W4 V from by subst hV; exact d5.alloc s5 _)
    have Y5 := Lib.hid (show Byt V V.heap.size A5 n5 LL from by subst hV; exact (y5.alloc (Nat.le_refl _) _).more (by simp))
    have Y6 := Lib.hid (show Byt V V.heap.size A6 n6 b from by subst hV; exact (y6.alloc (Nat.le_refl _) _).more (by simp))
    have hwV := DV.out.size
    have KY := Lib.hid (show ∀ Z, Below V.heap.size V Z → (Byt Z V.heap.size Aa na X ∧ Byt Z V.heap.size Ab nb X') ∧ Byt Z V.heap.size A5 n5 LL ∧ Byt Z V.heap.size A6 n6 b ∧ Byt Z V.heap.size Ax m b from fun Z h =>
      have hd : Below W4.heap.size W4 Z := DV.out.trans (h.mono hwV)
      ⟨⟨(KX.out _ hd).1.more hwV, (KX.out _ hd).2.more hwV⟩, Y5.out.below h, Y6.out.below h, (HK.out _ (HL.out _ hd)).2.2.more (Nat.le_trans hw4 hwV)⟩)
    have HLV := Lib.hid (show ∀ Z, Below V.heap.size V Z → Below w.heap.size w Z from fun Z h => HL.out _ (DV.out.trans (h.mono hwV)))
    clear hV h5 y5 y6 hm3 hg3 ho3 hm4 hg4 d3 d4 d5 p3 q3 r3 p4 q4 r4 p5 q5 r5 l3 n30 Pd Qd Rd Bd Pa Qa Ra Ba Pb Qb Rb Za Dd Da sza
    go_wp2_with fail
    (with_reducible refine (rbegins_any _ _ _ _ _ _ V.heap.size X X' _ (KY.out _ (Below.refl _ _)).1.1 (KY.out _ (Below.refl _ _)).1.2).mono ?_)
    rintro e y1 ⟨rfl, h1⟩
    rw [HBG1.out]
    have D1 := Lib.hid (h1.below V.heap.size)
    clear h1
    go_wp2_with fail
    (with_reducible refine (rbegins_any _ _ _ _ _ _ V.heap.size X' X _ (KY.out _ D1.out).1.2 (KY.out _ D1.out).1.1).mono ?_)
    rintro e y2 ⟨rfl, h2⟩
    rw [HBG2.out]
    have D2 := Lib.hid (D1.out.trans (h2.below V.heap.size))
    clear h2
    have PY := Lib.hid (PV.out.below D2.out PV.out.lt)
    have QY := Lib.hid (QV.out.below D2.out QV.out.lt)
    have SY := Lib.hid (SV.out.below D2.out SV.out.lt)
    go_wp2_with fail
    have Tb : Below V.heap.size V y2.drew := D2.out.drew
    have Pd : Two y2.drew (w.heap.size) (.int .i64 k) (.bool f) := PY.out
    have Qd : Blk y2.drew (w.heap.size + 1) #[.int .u64 (u : Int), .int .i64 i, .slice A n c, .bool t, .int .u64 (u' : Int), .int .i64 i', .slice A' n' c', .bool t'] := QY.out
    have Sd : Four y2.drew (x5.heap.size) (.int .u64 (U : Int)) (.int .i64 I) (.slice A5 n5 c5) (.bool Q) := SY.out
    go_region_held3 (fun w' => w'.cell? ⟨w.heap.size, 0, none⟩ = some (.int .i64 k) ∧ w'.cell? ⟨w.heap.size, 1, none⟩ = some (.bool f) ∧ w'.cell? ⟨w.heap.size + 1, 0, none⟩ = some (.int .u64 (u : Int)) ∧ w'.cell? ⟨w.heap.size + 1, 1, none⟩ = some (.int .i64 i) ∧ w'.cell? ⟨w.heap.size + 1, 2, none⟩ = some (.slice A n c) ∧ w'.cell? ⟨w.heap.size + 1, 3, none⟩ = some (.bool t) ∧ w'.cell? ⟨w.heap.size + 1, 4, none⟩ = some (.int .u64 (u' : Int)) ∧ w'.cell? ⟨w.heap.size + 1, 5, none⟩ = some (.int .i64 i') ∧ w'.cell? ⟨w.heap.size + 1, 6, none⟩ = some (.slice A' n' c') ∧ w'.cell? ⟨w.heap.size + 1, 7, none⟩ = some (.bool t') ∧ w'.cell? ⟨x5.heap.size, 0, none⟩ = some (.int .u64 (U : Int)) ∧ w'.cell? ⟨x5.heap.size, 1, none⟩ = some (.int .i64 I) ∧ w'.cell? ⟨x5.heap.size, 2, none⟩ = some (.slice A5 n5 c5) ∧ w'.cell? ⟨x5.heap.size, 3, none⟩ = some (.bool Q))
      (first | (with_reducible exact fourteen PY.out QY.out SY.out) | (with_reducible exact fourteen Pd Qd Sd) | (with_reducible exact fourteen tp1 tq1 ts1) | (with_reducible exact fourteen tp2 tq2 ts2) | (with_reducible exact fourteen tp3 tq3 ts3) | (with_reducible exact fourteen tp4 tq4 ts4) | (with_reducible exact fourteen tp5 tq5 ts5))
      (first
        | (go_at_call 21; (with_reducible refine (rcmp_any _ _ _ _ _ _ V.heap.size X X' _ (KY.out _ Tb).1.1 (KY.out _ Tb).1.2).mono ?_); rintro e t1 ⟨rfl, h1⟩; rw [HCM.out]; have tb1 : Below V.heap.size V t1 := Tb.trans (h1.below _); have tp1 := PV.out.below tb1 PV.out.lt; have tq1 := QV.out.below tb1 QV.out.lt; have ts1 := SV.out.below tb1 SV.out.lt)
        | (go_at_call 14; (with_reducible refine (HRb.out _ (HLV.out _ tb1)).mono ?_); rintro e t2 ⟨A7, n7, c7, rfl, y7, _, h2⟩; have tb2 : Below V.heap.size V t2 := tb1.trans (h2.mono tb1.size); have tp2 := PV.out.below tb2 PV.out.lt; have tq2 := QV.out.below tb2 QV.out.lt; have ts2 := SV.out.below tb2 SV.out.lt)
        | (go_at_call 13; (with_reducible refine (same_yes _ _ _ _ _ _ _ _ _ LL _ _ ((KY.out _ tb2).2.1.more tb2.size) y7 (Nat.le_refl _)).mono ?_); rintro e t3 ⟨rfl, h3⟩; have tb3 : Below V.heap.size V t3 := tb2.trans (h3.mono tb2.size); have tp3 := PV.out.below tb3 PV.out.lt; have tq3 := QV.out.below tb3 QV.out.lt; have ts3 := SV.out.below tb3 SV.out.lt)
        | (go_at_call 11; (with_reducible refine (rsame_any _ _ _ _ _ _ V.heap.size b b _ (KY.out _ tb3).2.2.1 (KY.out _ tb3).2.2.2).mono ?_); rintro e t4 ⟨rfl, h4⟩; rw [show sameB b b = true from by simp [sameB]]; have tb4 : Below V.heap.size V t4 := tb3.trans (h4.below _); have tp4 := PV.out.below tb4 PV.out.lt; have tq4 := QV.out.below tb4 QV.out.lt; have ts4 := SV.out.below tb4 SV.out.lt)
        | (go_at_call 6; (with_reducible refine (alive_any _ (HT.out _ (HLV.out _ tb4))).mono ?_); rintro e t5 ⟨rfl, h5⟩; have tb5 : Below V.heap.size V t5 := tb4.trans (h5.mono tb4.size); have tp5 := PV.out.below tb5 PV.out.lt; have tq5 := QV.out.below tb5 QV.out.lt; have ts5 := SV.out.below tb5 SV.out.lt))
    go_wp2
    go_ret
    exact ⟨by simp, HLV.out _ tb5⟩
  · have hwd := hl4
    generalize hV : (((x5.setCell ⟨w4.heap.size, 0, none⟩ (.int .u64 (U : Int))).setCell ⟨w4.heap.size, 1, none⟩ (.int .i64 I)).setCell ⟨w4.heap.size, 2, none⟩ (.slice A5 n5 c5)).setCell ⟨w4.heap.size, 3, none⟩ (.bool Q) = V
    have SV := Lib.hid (show Four V (w4.heap.size) (.int .u64 (U : Int)) (.int .i64 I) (.slice A5 n5 c5) (.bool Q) from by subst hV; exact z5.set4 _ _ _ _)
    have PV := Lib.hid (show Two V (w.heap.size) (.int .i64 k) (.bool f) from by subst hV; exact p5.far4 hn0 _ _ _ _)
    have QV := Lib.hid (show Blk V (w.heap.size + 1) #[.int .u64 (u : Int), .int .i64 i, .slice A n c, .bool t, .int .u64 (u' : Int), .int .i64 i', .slice A' n' c', .bool t'] from by subst hV; exact q5.far4 hn1 _ _ _ _)
    have DV := Lib.hid (show Below W4.heap.size W4 V from by subst hV; exact below_set4 d5 (d4.size) _ _ _ _)
    have Y5 := Lib.hid (show Byt V V.heap.size A5 n5 LL from by subst hV; rw [size_set4]; exact z5.keep4 y5 _ _ _ _)
    have Y6 := Lib.hid (show Byt V V.heap.size A6 n6 b from by subst hV; rw [size_set4]; exact z5.keep4 y6 _ _ _ _)
    have hwV := DV.out.size
    have KY := Lib.hid (show ∀ Z, Below V.heap.size V Z → (Byt Z V.heap.size Aa na X ∧ Byt Z V.heap.size Ab nb X') ∧ Byt Z V.heap.size A5 n5 LL ∧ Byt Z V.heap.size A6 n6 b ∧ Byt Z V.heap.size Ax m b from fun Z h =>
      have hd : Below W4.heap.size W4 Z := DV.out.trans (h.mono hwV)
      ⟨⟨(KX.out _ hd).1.more hwV, (KX.out _ hd).2.more hwV⟩, Y5.out.below h, Y6.out.below h, (HK.out _ (HL.out _ hd)).2.2.more (Nat.le_trans hw4 hwV)⟩)
    have HLV := Lib.hid (show ∀ Z, Below V.heap.size V Z → Below w.heap.size w Z from fun Z h => HL.out _ (DV.out.trans (h.mono hwV)))
    clear hV h5 y5 y6 hm3 hg3 ho3 hm4 hg4 d3 d4 d5 p3 q3 r3 p4 q4 r4 p5 q5 r5 l3 n30 Pd Qd Rd Bd Pa Qa Ra Ba Pb Qb Rb Za Dd Da sza z5 f0 f1 f2 f3 ff
    go_wp2_with fail
    (with_reducible refine (rbegins_any _ _ _ _ _ _ V.heap.size X X' _ (KY.out _ (Below.refl _ _)).1.1 (KY.out _ (Below.refl _ _)).1.2).mono ?_)
    rintro e y1 ⟨rfl, h1⟩
    rw [HBG1.out]
    have D1 := Lib.hid (h1.below V.heap.size)
    clear h1
    go_wp2_with fail
    (with_reducible refine (rbegins_any _ _ _ _ _ _ V.heap.size X' X _ (KY.out _ D1.out).1.2 (KY.out _ D1.out).1.1).mono ?_)
    rintro e y2 ⟨rfl, h2⟩
    rw [HBG2.out]
    have D2 := Lib.hid (D1.out.trans (h2.below V.heap.size))
    clear h2
    have PY := Lib.hid (PV.out.below D2.out PV.out.lt)
    have QY := Lib.hid (QV.out.below D2.out QV.out.lt)
    have SY := Lib.hid (SV.out.below D2.out SV.out.lt)
    go_wp2_with fail
    have Tb : Below V.heap.size V y2.drew := D2.out.drew
    have Pd : Two y2.drew (w.heap.size) (.int .i64 k) (.bool f) := PY.out
    have Qd : Blk y2.drew (w.heap.size + 1) #[.int .u64 (u : Int), .int .i64 i, .slice A n c, .bool t, .int .u64 (u' : Int), .int .i64 i', .slice A' n' c', .bool t'] := QY.out
    have Sd : Four y2.drew (w4.heap.size) (.int .u64 (U : Int)) (.int .i64 I) (.slice A5 n5 c5) (.bool Q) := SY.out
    go_region_held3 (fun w' => w'.cell? ⟨w.heap.size, 0, none⟩ = some (.int .i64 k) ∧ w'.cell? ⟨w.heap.size, 1, none⟩ = some (.bool f) ∧ w'.cell? ⟨w.heap.size + 1, 0, none⟩ = some (.int .u64 (u : Int)) ∧ w'.cell? ⟨w.heap.size + 1, 1, none⟩ = some (.int .i64 i) ∧ w'.cell? ⟨w.heap.size + 1, 2, none⟩ = some (.slice A n c) ∧ w'.cell? ⟨w.heap.size + 1, 3, none⟩ = some (.bool t) ∧ w'.cell? ⟨w.heap.size + 1, 4, none⟩ = some (.int .u64 (u' : Int)) ∧ w'.cell? ⟨w.heap.size + 1, 5, none⟩ = some (.int .i64 i') ∧ w'.cell? ⟨w.heap.size + 1, 6, none⟩ = some (.slice A' n' c') ∧ w'.cell? ⟨w.heap.size + 1, 7, none⟩ = some (.bool t') ∧ w'.cell? ⟨w4.heap.size, 0, none⟩ = some (.int .u64 (U : Int)) ∧ w'.cell? ⟨w4.heap.size, 1, none⟩ = some (.int .i64 I) ∧ w'.cell? ⟨w4.heap.size, 2, none⟩ = some (.slice A5 n5 c5) ∧ w'.cell? ⟨w4.heap.size, 3, none⟩ = some (.bool Q))
      (first | (with_reducible exact fourteen PY.out QY.out SY.out) | (with_reducible exact fourteen Pd Qd Sd) | (with_reducible exact fourteen tp1 tq1 ts1) | (with_reducible exact fourteen tp2 tq2 ts2) | (with_reducible exact fourteen tp3 tq3 ts3) | (with_reducible exact fourteen tp4 tq4 ts4) | (with_reducible exact fourteen tp5 tq5 ts5))
      (first
        | (go_at_call 21; (with_reducible refine (rcmp_any _ _ _ _ _ _ V.heap.size X X' _ (KY.out _ Tb).1.1 (KY.out _ Tb).1.2).mono ?_); rintro e t1 ⟨rfl, h1⟩; rw [HCM.out]; have tb1 : Below V.heap.size V t1 := Tb.trans (h1.below _); have tp1 := PV.out.below tb1 PV.out.lt; have tq1 := QV.out.below tb1 QV.out.lt; have ts1 := SV.out.below tb1 SV.out.lt)
        | (go_at_call 14; (with_reducible refine (HRb.out _ (HLV.out _ tb1)).mono ?_); rintro e t2 ⟨A7, n7, c7, rfl, y7, _, h2⟩; have tb2 : Below V.heap.size V t2 := tb1.trans (h2.mono tb1.size); have tp2 := PV.out.below tb2 PV.out.lt; have tq2 := QV.out.below tb2 QV.out.lt; have ts2 := SV.out.below tb2 SV.out.lt)
        | (go_at_call 13; (with_reducible refine (same_yes _ _ _ _ _ _ _ _ _ LL _ _ ((KY.out _ tb2).2.1.more tb2.size) y7 (Nat.le_refl _)).mono ?_); rintro e t3 ⟨rfl, h3⟩; have tb3 : Below V.heap.size V t3 := tb2.trans (h3.mono tb2.size); have tp3 := PV.out.below tb3 PV.out.lt; have tq3 := QV.out.below tb3 QV.out.lt; have ts3 := SV.out.below tb3 SV.out.lt)
        | (go_at_call 11; (with_reducible refine (rsame_any _ _ _ _ _ _ V.heap.size b b _ (KY.out _ tb3).2.2.1 (KY.out _ tb3).2.2.2).mono ?_); rintro e t4 ⟨rfl, h4⟩; rw [show sameB b b = true from by simp [sameB]]; have tb4 : Below V.heap.size V t4 := tb3.trans (h4.below _); have tp4 := PV.out.below tb4 PV.out.lt; have tq4 := QV.out.below tb4 QV.out.lt; have ts4 := SV.out.below tb4 SV.out.lt)
        | (go_at_call 6; (with_reducible refine (alive_any _ (HT.out _ (HLV.out _ tb4))).mono ?_); rintro e t5 ⟨rfl, h5⟩; have tb5 : Below V.heap.size V t5 := tb4.trans (h5.mono tb4.size); have tp5 := PV.out.below tb5 PV.out.lt; have tq5 := QV.out.below tb5 QV.out.lt; have ts5 := SV.out.below tb5 SV.out.lt))
    go_wp2
    go_ret
    exact ⟨by simp, HLV.out _ tb5⟩
  · have hwd := hl4
    generalize hV : (((x5.setCell ⟨w3.heap.size, 0, none⟩ (.int .u64 (U : Int))).setCell ⟨w3.heap.size, 1, none⟩ (.int .i64 I)).setCell ⟨w3.heap.size, 2, none⟩ (.slice A5 n5 c5)).setCell ⟨w3.heap.size, 3, none⟩ (.bool Q) = V
    have SV := Lib.hid (show Four V (w3.heap.size) (.int .u64 (U : Int)) (.int .i64 I) (.slice A5 n5 c5) (.bool Q) from by subst hV; exact z5.set4 _ _ _ _)
    have PV := Lib.hid (show Two V (w.heap.size) (.int .i64 k) (.bool f) from by subst hV; exact p5.far4 hn0 _ _ _ _)
    have QV := Lib.hid (show Blk V (w.heap.size + 1) #[.int .u64 (u : Int), .int .i64 i, .slice A n c, .bool t, .int .u64 (u' : Int), .int .i64 i', .slice A' n' c', .bool t'] from by subst hV; exact q5.far4 hn1 _ _ _ _)
    have DV := Lib.hid (show Below W4.heap.size W4 V from by subst hV; exact below_set4 d5 (d3.size) _ _ _ _)
    have Y5 := Lib.hid (show Byt V V.heap.size A5 n5 LL from by subst hV; rw [size_set4]; exact z5.keep4 y5 _ _ _ _)
    have Y6 := Lib.hid (show Byt V V.heap.size A6 n6 b from by subst hV; rw [size_set4]; exact z5.keep4 y6 _ _ _ _)
    have hwV := DV.out.size
    have KY := Lib.hid (show ∀ Z, Below V.heap.size V Z → (Byt Z V.heap.size Aa na X ∧ Byt Z V.heap.size Ab nb X') ∧ Byt Z V.heap.size A5 n5 LL ∧ Byt Z V.heap.size A6 n6 b ∧ Byt Z V.heap.size Ax m b from fun Z h =>
      have hd : Below W4.heap.size W4 Z := DV.out.trans (h.mono hwV)
      ⟨⟨(KX.out _ hd).1.more hwV, (KX.out _ hd).2.more hwV⟩, Y5.out.below h, Y6.out.below h, (HK.out _ (HL.out _ hd)).2.2.more (Nat.le_trans hw4 hwV)⟩)
    have HLV := Lib.hid (show ∀ Z, Below V.heap.size V Z → Below w.heap.size w Z from fun Z h => HL.out _ (DV.out.trans (h.mono hwV)))
    clear hV h5 y5 y6 hm3 hg3 ho3 hm4 hg4 d3 d4 d5 p3 q3 r3 p4 q4 r4 p5 q5 r5 l3 n30 Pd Qd Rd Bd Pa Qa Ra Ba Pb Qb Rb Za Dd Da sza z5 f0 f1 f2 f3 ff z4'
    go_wp2_with fail
    (with_reducible refine (rbegins_any _ _ _ _ _ _ V.heap.size X X' _ (KY.out _ (Below.refl _ _)).1.1 (KY.out _ (Below.refl _ _)).1.2).mono ?_)
    rintro e y1 ⟨rfl, h1⟩
    rw [HBG1.out]
    have D1 := Lib.hid (h1.below V.heap.size)
    clear h1
    go_wp2_with fail
    (with_reducible refine (rbegins_any _ _ _ _ _ _ V.heap.size X' X _ (KY.out _ D1.out).1.2 (KY.out _ D1.out).1.1).mono ?_)
    rintro e y2 ⟨rfl, h2⟩
    rw [HBG2.out]
    have D2 := Lib.hid (D1.out.trans (h2.below V.heap.size))
    clear h2
    have PY := Lib.hid (PV.out.below D2.out PV.out.lt)
    have QY := Lib.hid (QV.out.below D2.out QV.out.lt)
    have SY := Lib.hid (SV.out.below D2.out SV.out.lt)
    go_wp2_with fail
    have Tb : Below V.heap.size V y2.drew := D2.out.drew
    have Pd : Two y2.drew (w.heap.size) (.int .i64 k) (.bool f) := PY.out
    have Qd : Blk y2.drew (w.heap.size + 1) #[.int .u64 (u : Int), .int .i64 i, .slice A n c, .bool t, .int .u64 (u' : Int), .int .i64 i', .slice A' n' c', .bool t'] := QY.out
    have Sd : Four y2.drew (w3.heap.size) (.int .u64 (U : Int)) (.int .i64 I) (.slice A5 n5 c5) (.bool Q) := SY.out
    go_region_held3 (fun w' => w'.cell? ⟨w.heap.size, 0, none⟩ = some (.int .i64 k) ∧ w'.cell? ⟨w.heap.size, 1, none⟩ = some (.bool f) ∧ w'.cell? ⟨w.heap.size + 1, 0, none⟩ = some (.int .u64 (u : Int)) ∧ w'.cell? ⟨w.heap.size + 1, 1, none⟩ = some (.int .i64 i) ∧ w'.cell? ⟨w.heap.size + 1, 2, none⟩ = some (.slice A n c) ∧ w'.cell? ⟨w.heap.size + 1, 3, none⟩ = some (.bool t) ∧ w'.cell? ⟨w.heap.size + 1, 4, none⟩ = some (.int .u64 (u' : Int)) ∧ w'.cell? ⟨w.heap.size + 1, 5, none⟩ = some (.int .i64 i') ∧ w'.cell? ⟨w.heap.size + 1, 6, none⟩ = some (.slice A' n' c') ∧ w'.cell? ⟨w.heap.size + 1, 7, none⟩ = some (.bool t') ∧ w'.cell? ⟨w3.heap.size, 0, none⟩ = some (.int .u64 (U : Int)) ∧ w'.cell? ⟨w3.heap.size, 1, none⟩ = some (.int .i64 I) ∧ w'.cell? ⟨w3.heap.size, 2, none⟩ = some (.slice A5 n5 c5) ∧ w'.cell? ⟨w3.heap.size, 3, none⟩ = some (.bool Q))
      (first | (with_reducible exact fourteen PY.out QY.out SY.out) | (with_reducible exact fourteen Pd Qd Sd) | (with_reducible exact fourteen tp1 tq1 ts1) | (with_reducible exact fourteen tp2 tq2 ts2) | (with_reducible exact fourteen tp3 tq3 ts3) | (with_reducible exact fourteen tp4 tq4 ts4) | (with_reducible exact fourteen tp5 tq5 ts5))
      (first
        | (go_at_call 21; (with_reducible refine (rcmp_any _ _ _ _ _ _ V.heap.size X X' _ (KY.out _ Tb).1.1 (KY.out _ Tb).1.2).mono ?_); rintro e t1 ⟨rfl, h1⟩; rw [HCM.out]; have tb1 : Below V.heap.size V t1 := Tb.trans (h1.below _); have tp1 := PV.out.below tb1 PV.out.lt; have tq1 := QV.out.below tb1 QV.out.lt; have ts1 := SV.out.below tb1 SV.out.lt)
        | (go_at_call 14; (with_reducible refine (HRb.out _ (HLV.out _ tb1)).mono ?_); rintro e t2 ⟨A7, n7, c7, rfl, y7, _, h2⟩; have tb2 : Below V.heap.size V t2 := tb1.trans (h2.mono tb1.size); have tp2 := PV.out.below tb2 PV.out.lt; have tq2 := QV.out.below tb2 QV.out.lt; have ts2 := SV.out.below tb2 SV.out.lt)
        | (go_at_call 13; (with_reducible refine (same_yes _ _ _ _ _ _ _ _ _ LL _ _ ((KY.out _ tb2).2.1.more tb2.size) y7 (Nat.le_refl _)).mono ?_); rintro e t3 ⟨rfl, h3⟩; have tb3 : Below V.heap.size V t3 := tb2.trans (h3.mono tb2.size); have tp3 := PV.out.below tb3 PV.out.lt; have tq3 := QV.out.below tb3 QV.out.lt; have ts3 := SV.out.below tb3 SV.out.lt)
        | (go_at_call 11; (with_reducible refine (rsame_any _ _ _ _ _ _ V.heap.size b b _ (KY.out _ tb3).2.2.1 (KY.out _ tb3).2.2.2).mono ?_); rintro e t4 ⟨rfl, h4⟩; rw [show sameB b b = true from by simp [sameB]]; have tb4 : Below V.heap.size V t4 := tb3.trans (h4.below _); have tp4 := PV.out.below tb4 PV.out.lt; have tq4 := QV.out.below tb4 QV.out.lt; have ts4 := SV.out.below tb4 SV.out.lt)
        | (go_at_call 6; (with_reducible refine (alive_any _ (HT.out _ (HLV.out _ tb4))).mono ?_); rintro e t5 ⟨rfl, h5⟩; have tb5 : Below V.heap.size V t5 := tb4.trans (h5.mono tb4.size); have tp5 := PV.out.below tb5 PV.out.lt; have tq5 := QV.out.below tb5 QV.out.lt; have ts5 := SV.out.below tb5 SV.out.lt))
    go_wp2
    go_ret
    exact ⟨by simp, HLV.out _ tb5⟩
  · have hwd := hl4
    generalize hV : (((x5.setCell ⟨W4.heap.size, 0, none⟩ (.int .u64 (U : Int))).setCell ⟨W4.heap.size, 1, none⟩ (.int .i64 I)).setCell ⟨W4.heap.size, 2, none⟩ (.slice A5 n5 c5)).setCell ⟨W4.heap.size, 3, none⟩ (.bool Q) = V
    have SV := Lib.hid (show Four V (W4.heap.size) (.int .u64 (U : Int)) (.int .i64 I) (.slice A5 n5 c5) (.bool Q) from by subst hV; exact z5.set4 _ _ _ _)
    have PV := Lib.hid (show Two V (w.heap.size) (.int .i64 k) (.bool f) from by subst hV; exact p5.far4 hn0 _ _ _ _)
    have QV := Lib.hid (show Blk V (w.heap.size + 1) #[.int .u64 (u : Int), .int .i64 i, .slice A n c, .bool t, .int .u64 (u' : Int), .int .i64 i', .slice A' n' c', .bool t'] from by subst hV; exact q5.far4 hn1 _ _ _ _)
    have DV := Lib.hid (show Below W4.heap.size W4 V from by subst hV; exact below_set4 d5 (Nat.le_refl _) _ _ _ _)
    have Y5 := Lib.hid (show Byt V V.heap.size A5 n5 LL from by subst hV; rw [size_set4]; exact z5.keep4 y5 _ _ _ _)
    have Y6 := Lib.hid (show Byt V V.heap.size A6 n6 b from by subst hV; rw [size_set4]; exact z5.keep4 y6 _ _ _ _)
    have hwV := DV.out.size
    have KY := Lib.hid (show ∀ Z, Below V.heap.size V Z → (Byt Z V.heap.size Aa na X ∧ Byt Z V.heap.size Ab nb X') ∧ Byt Z V.heap.size A5 n5 LL ∧ Byt Z V.heap.size A6 n6 b ∧ Byt Z V.heap.size Ax m b from fun Z h =>
      have hd : Below W4.heap.size W4 Z := DV.out.trans (h.mono hwV)
      ⟨⟨(KX.out _ hd).1.more hwV, (KX.out _ hd).2.more hwV⟩, Y5.out.below h, Y6.out.below h, (HK.out _ (HL.out _ hd)).2.2.more (Nat.le_trans hw4 hwV)⟩)
    have HLV := Lib.hid (show ∀ Z, Below V.heap.size V Z → Below w.heap.size w Z from fun Z h => HL.out _ (DV.out.trans (h.mono hwV)))
    clear hV h5 y5 y6 hm3 hg3 ho3 hm4 hg4 d3 d4 d5 p3 q3 r3 p4 q4 r4 p5 q5 r5 l3 n30 Pd Qd Rd Bd Pa Qa Ra Ba Pb Qb Rb Za Dd Da sza z5 f0 f1 f2 f3 ff z4 z3 nz3
    go_wp2_with fail
    (with_reducible refine (rbegins_any _ _ _ _ _ _ V.heap.size X X' _ (KY.out _ (Below.refl _ _)).1.1 (KY.out _ (Below.refl _ _)).1.2).mono ?_)
    rintro e y1 ⟨rfl, h1⟩
    rw [HBG1.out]
    have D1 := Lib.hid (h1.below V.heap.size)
    clear h1
    go_wp2_with fail
    (with_reducible refine (rbegins_any _ _ _ _ _ _ V.heap.size X' X _ (KY.out _ D1.out).1.2 (KY.out _ D1.out).1.1).mono ?_)
    rintro e y2 ⟨rfl, h2⟩
    rw [HBG2.out]
    have D2 := Lib.hid (D1.out.trans (h2.below V.heap.size))
    clear h2
    have PY := Lib.hid (PV.out.below D2.out PV.out.lt)
    have QY := Lib.hid (QV.out.below D2.out QV.out.lt)
    have SY := Lib.hid (SV.out.below D2.out SV.out.lt)
    go_wp2_with fail
    have Tb : Below V.heap.size V y2.drew := D2.out.drew
    have Pd : Two y2.drew (w.heap.size) (.int .i64 k) (.bool f) := PY.out
    have Qd : Blk y2.drew (w.heap.size + 1) #[.int .u64 (u : Int), .int .i64 i, .slice A n c, .bool t, .int .u64 (u' : Int), .int .i64 i', .slice A' n' c', .bool t'] := QY.out
    have Sd : Four y2.drew (W4.heap.size) (.int .u64 (U : Int)) (.int .i64 I) (.slice A5 n5 c5) (.bool Q) := SY.out
    go_region_held3 (fun w' => w'.cell? ⟨w.heap.size, 0, none⟩ = some (.int .i64 k) ∧ w'.cell? ⟨w.heap.size, 1, none⟩ = some (.bool f) ∧ w'.cell? ⟨w.heap.size + 1, 0, none⟩ = some (.int .u64 (u : Int)) ∧ w'.cell? ⟨w.heap.size + 1, 1, none⟩ = some (.int .i64 i) ∧ w'.cell? ⟨w.heap.size + 1, 2, none⟩ = some (.slice A n c) ∧ w'.cell? ⟨w.heap.size + 1, 3, none⟩ = some (.bool t) ∧ w'.cell? ⟨w.heap.size + 1, 4, none⟩ = some (.int .u64 (u' : Int)) ∧ w'.cell? ⟨w.heap.size + 1, 5, none⟩ = some (.int .i64 i') ∧ w'.cell? ⟨w.heap.size + 1, 6, none⟩ = some (.slice A' n' c') ∧ w'.cell? ⟨w.heap.size + 1, 7, none⟩ = some (.bool t') ∧ w'.cell? ⟨W4.heap.size, 0, none⟩ = some (.int .u64 (U : Int)) ∧ w'.cell? ⟨W4.heap.size, 1, none⟩ = some (.int .i64 I) ∧ w'.cell? ⟨W4.heap.size, 2, none⟩ = some (.slice A5 n5 c5) ∧ w'.cell? ⟨W4.heap.size, 3, none⟩ = some (.bool Q))
      (first | (with_reducible exact fourteen PY.out QY.out SY.out) | (with_reducible exact fourteen Pd Qd Sd) | (with_reducible exact fourteen tp1 tq1 ts1) | (with_reducible exact fourteen tp2 tq2 ts2) | (with_reducible exact fourteen tp3 tq3 ts3) | (with_reducible exact fourteen tp4 tq4 ts4) | (with_reducible exact fourteen tp5 tq5 ts5))
      (first
        | (go_at_call 21; (with_reducible refine (rcmp_any _ _ _ _ _ _ V.heap.size X X' _ (KY.out _ Tb).1.1 (KY.out _ Tb).1.2).mono ?_); rintro e t1 ⟨rfl, h1⟩; rw [HCM.out]; have tb1 : Below V.heap.size V t1 := Tb.trans (h1.below _); have tp1 := PV.out.below tb1 PV.out.lt; have tq1 := QV.out.below tb1 QV.out.lt; have ts1 := SV.out.below tb1 SV.out.lt)
        | (go_at_call 14; (with_reducible refine (HRb.out _ (HLV.out _ tb1)).mono ?_); rintro e t2 ⟨A7, n7, c7, rfl, y7, _, h2⟩; have tb2 : Below V.heap.size V t2 := tb1.trans (h2.mono tb1.size); have tp2 := PV.out.below tb2 PV.out.lt; have tq2 := QV.out.below tb2 QV.out.lt; have ts2 := SV.out.below tb2 SV.out.lt)
        | (go_at_call 13; (with_reducible refine (same_yes _ _ _ _ _ _ _ _ _ LL _ _ ((KY.out _ tb2).2.1.more tb2.size) y7 (Nat.le_refl _)).mono ?_); rintro e t3 ⟨rfl, h3⟩; have tb3 : Below V.heap.size V t3 := tb2.trans (h3.mono tb2.size); have tp3 := PV.out.below tb3 PV.out.lt; have tq3 := QV.out.below tb3 QV.out.lt; have ts3 := SV.out.below tb3 SV.out.lt)
        | (go_at_call 11; (with_reducible refine (rsame_any _ _ _ _ _ _ V.heap.size b b _ (KY.out _ tb3).2.2.1 (KY.out _ tb3).2.2.2).mono ?_); rintro e t4 ⟨rfl, h4⟩; rw [show sameB b b = true from by simp [sameB]]; have tb4 : Below V.heap.size V t4 := tb3.trans (h4.below _); have tp4 := PV.out.below tb4 PV.out.lt; have tq4 := QV.out.below tb4 QV.out.lt; have ts4 := SV.out.below tb4 SV.out.lt)
        | (go_at_call 6; (with_reducible refine (alive_any _ (HT.out _ (HLV.out _ tb4))).mono ?_); rintro e t5 ⟨rfl, h5⟩; have tb5 : Below V.heap.size V t5 := tb4.trans (h5.mono tb4.size); have tp5 := PV.out.below tb5 PV.out.lt; have tq5 := QV.out.below tb5 QV.out.lt; have ts5 := SV.out.below tb5 SV.out.lt))
    go_wp2
    go_ret
    exact ⟨by simp, HLV.out _ tb5⟩
end Go.Proofs.YtknkpmkpcfiefaaDoor.fieldOrder
