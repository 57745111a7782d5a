/-
  near.Min, near.Max, near.Floor, near.Higher.
-/
import Derived.Test.YtidiinededalmaaGreatNrLower
import Derived.Test.YtidiinededalmaaGreatNrAfter
namespace Go.Proofs.YtidiinededalmaaGreat
open Go.RowKit Go.Shelf

set_option maxRecDepth 100000 in
/-- What is handed back goes through the result's own block. -/
theorem nend_box {w W w5 : World} {o : Option KV} {A5 : Option Addr} {c5 : Nat} (hb : Below w.heap.size w W) (hW : W.heap.size = w.heap.size + 1) (hj : Blk W w.heap.size #[.slice none 0 0, .int .u64 0]) (hk : Below W.heap.size W w5)
    (y5 : Byt w5 w5.heap.size A5 (oK o).length (oK o)) (nc5 : (oK o).length ≤ c5) (pb5 : ∀ i, Pb A5 (oK o) i → W.heap.size ≤ i) (v : Int) (hv : oV o = v) (n : Nat) (hn : (oK o).length = n) (b : Bool) (hb' : o.isSome = b) :
    (loadVar 31 ⟨w.heap.size, 0, none⟩).run Tryz.prog ((w5.setCell ⟨w.heap.size, 0, none⟩ (.slice A5 n c5)).setCell ⟨w.heap.size, 1, none⟩ (.int .u64 v)) = .ok (.agg #[.slice A5 n c5, .int .u64 v]) ((w5.setCell ⟨w.heap.size, 0, none⟩ (.slice A5 n c5)).setCell ⟨w.heap.size, 1, none⟩ (.int .u64 v)) ∧
    NrPost (fun _ => False) w o (.returned (.tuple #[.agg #[.slice A5 n c5, .int .u64 v], .bool b])) ((w5.setCell ⟨w.heap.size, 0, none⟩ (.slice A5 n c5)).setCell ⟨w.heap.size, 1, none⟩ (.int .u64 v)) := by
  subst hv hn hb'
  have hj5 := hj.below hk (by omega)
  obtain ⟨t1, t2⟩ := two_set hj5 (.slice A5 (oK o).length c5) (.int .u64 (oV o))
  have kw : Below w.heap.size w w5 := hb.trans (hk.mono (by omega))
  exact ⟨pair_load t1, A5, c5, rfl, (y5.keepPb fun q hq => t2.cell (y5.ltPb hq) (fun e => by have := pb5 _ hq; omega)).more t2.size, nc5, fun i hi => by have := pb5 i hi; omega, Kept.of_below (kw.trans (t2.below kw.size (fun i e => by omega)))⟩
set_option maxRecDepth 100000 in
set_option maxHeartbeats 1000000 in
theorem nmin_any (t : Option (Nn × Fo)) (p : Option Addr) (w : World) (ht : OTre w (· < w.heap.size) t p) (hf : ofull t) (hM : ∀ q ∈ olist t, q.1.length ≤ 60000) :
    Calls Tryz.prog 10 #[.pointer p] w (NrPost (fun _ => False) w (olist t).head?) := by
  obtain ⟨o, ho⟩ : ∃ o, (olist t).head? = o := ⟨_, rfl⟩
  rw [ho]
  obtain ⟨W, hW⟩ : ∃ W, w.alloc (.cells #[.slice none 0 0, .int .u64 0] 31) = W := ⟨_, rfl⟩
  have hb : Below w.heap.size w W := by rw [← hW]; exact (Below.refl _ _).alloc (Nat.le_refl _) _
  have hj : Blk W w.heap.size #[.slice none 0 0, .int .u64 0] := by rw [← hW]; exact Blk.new w _ _
  have hs : W.heap.size = w.heap.size + 1 := by rw [← hW]; simp
  have HBW := Lib.hid (And.intro hb (And.intro hs hj))
  have HW := Lib.hid hW
  have H := nfirst_any W.heap.size (fun _ => False) t p none 0 0 [] W (Nat.le_refl _) ((otre_on ht hb).mono (fun i q => by omega)) hf (by rw [olb_nil]; exact hM) (Wy.nil _ _) (fun _ q => q.elim)
  rw [olb_nil, ho] at H
  have H := Lib.hid H
  clear ht hf hM ho hW hb hs hj
  go_enter Tryz.func10, Tryz.ntmps10
  go_wp2_with fail
  rw [HW.out]
  (with_reducible refine H.out.mono ?_)
  rintro e w5 ⟨A5, c5, rfl, y5, nc5, pb5, k5⟩
  have hk5 : Below W.heap.size W w5 := k5.below (Nat.le_refl _) (fun _ q => q.elim)
  obtain ⟨r1, r2, r3⟩ := HBW.out
  have j5 := r3.below hk5 (by omega)
  have d0 := j5.cell 0
  have d1 := j5.cell 1
  have z0 := j5.fz 0
  have z1 := j5.fz 1
  obtain ⟨v5, hv5⟩ : ∃ v, oV o = v := ⟨_, rfl⟩
  obtain ⟨n5, hn5⟩ : ∃ v, (oK o).length = v := ⟨_, rfl⟩
  obtain ⟨b5, hb5⟩ : ∃ v, o.isSome = v := ⟨_, rfl⟩
  have HE := Lib.hid (nend_box r1 r2 r3 hk5 y5 nc5 pb5 v5 hv5 n5 hn5 b5 hb5)
  rw [hv5, hn5, hb5]
  clear hk5 r1 r2 r3 j5 y5 nc5 pb5 k5 hv5 hn5 hb5 H
  go_wp2_with fail
  exact close2e rfl rfl rfl rfl HE.out.1 HE.out.2
set_option maxRecDepth 100000 in
set_option maxHeartbeats 1000000 in
theorem nmax_any (t : Option (Nn × Fo)) (p : Option Addr) (w : World) (ht : OTre w (· < w.heap.size) t p) (hf : ofull t) (hM : ∀ q ∈ olist t, q.1.length ≤ 60000) :
    Calls Tryz.prog 12 #[.pointer p] w (NrPost (fun _ => False) w (olist t).getLast?) := by
  obtain ⟨o, ho⟩ : ∃ o, (olist t).getLast? = o := ⟨_, rfl⟩
  rw [ho]
  obtain ⟨W, hW⟩ : ∃ W, w.alloc (.cells #[.slice none 0 0, .int .u64 0] 31) = W := ⟨_, rfl⟩
  have hb : Below w.heap.size w W := by rw [← hW]; exact (Below.refl _ _).alloc (Nat.le_refl _) _
  have hj : Blk W w.heap.size #[.slice none 0 0, .int .u64 0] := by rw [← hW]; exact Blk.new w _ _
  have hs : W.heap.size = w.heap.size + 1 := by rw [← hW]; simp
  have HBW := Lib.hid (And.intro hb (And.intro hs hj))
  have HW := Lib.hid hW
  have H := nlast_any W.heap.size (fun _ => False) t p none 0 0 [] W (Nat.le_refl _) ((otre_on ht hb).mono (fun i q => by omega)) hf (by rw [olb_nil]; exact hM) (Wy.nil _ _) (Nat.zero_le _) (fun _ q => q.elim)
  rw [olb_nil, ho] at H
  have H := Lib.hid H
  clear ht hf hM ho hW hb hs hj
  go_enter Tryz.func12, Tryz.ntmps12
  go_wp2_with fail
  rw [HW.out]
  (with_reducible refine H.out.mono ?_)
  rintro e w5 ⟨A5, c5, rfl, y5, nc5, pb5, k5⟩
  have hk5 : Below W.heap.size W w5 := k5.below (Nat.le_refl _) (fun _ q => q.elim)
  obtain ⟨r1, r2, r3⟩ := HBW.out
  have j5 := r3.below hk5 (by omega)
  have d0 := j5.cell 0
  have d1 := j5.cell 1
  have z0 := j5.fz 0
  have z1 := j5.fz 1
  obtain ⟨v5, hv5⟩ : ∃ v, oV o = v := ⟨_, rfl⟩
  obtain ⟨n5, hn5⟩ : ∃ v, (oK o).length = v := ⟨_, rfl⟩
  obtain ⟨b5, hb5⟩ : ∃ v, o.isSome = v := ⟨_, rfl⟩
  have HE := Lib.hid (nend_box r1 r2 r3 hk5 y5 nc5 pb5 v5 hv5 n5 hn5 b5 hb5)
  rw [hv5, hn5, hb5]
  clear hk5 r1 r2 r3 j5 y5 nc5 pb5 k5 hv5 hn5 hb5 H
  go_wp2_with fail
  exact close2e rfl rfl rfl rfl HE.out.1 HE.out.2
set_option maxRecDepth 100000 in
set_option maxHeartbeats 1000000 in
theorem nfloor_any (t : Option (Nn × Fo)) (p A : Option Addr) (n c : Nat) (key : List UInt8) (w : World) (ht : OTre w (· < w.heap.size) t p) (hwf : owf t) (hf : ofull t) (hM : ∀ q ∈ olist t, q.1.length ≤ 60000) (hk : Byt w w.heap.size A n key) (hn : n + 1 ≤ 60000) :
    Calls Tryz.prog 15 #[.pointer p, .slice A n c] w (NrPost (fun _ => False) w (ltL (olist t) (key ++ [0])).getLast?) := by
  obtain ⟨o, ho⟩ : ∃ o, (ltL (olist t) (key ++ [0])).getLast? = o := ⟨_, rfl⟩
  rw [ho]
  obtain ⟨W, hW⟩ : ∃ W, w.alloc (.cells #[.slice none 0 0, .int .u64 0] 31) = W := ⟨_, rfl⟩
  have hb : Below w.heap.size w W := by rw [← hW]; exact (Below.refl _ _).alloc (Nat.le_refl _) _
  have hj : Blk W w.heap.size #[.slice none 0 0, .int .u64 0] := by rw [← hW]; exact Blk.new w _ _
  have hs : W.heap.size = w.heap.size + 1 := by rw [← hW]; simp
  have HBW := Lib.hid (And.intro hb (And.intro hs hj))
  have HW := Lib.hid hW
  have HA := Lib.hid (nafter_any A n c key W ((hk.below hb).more (by omega)) (by omega))
  have HT := Lib.hid ((otre_on ht hb).mono (S' := (· < W.heap.size)) (fun i q => by omega))
  have HX := Lib.hid (And.intro hwf (And.intro hf (And.intro hM hn)))
  have HO := Lib.hid ho
  clear ht hf hM ho hW hb hs hj hwf hk hn
  go_enter Tryz.func15, Tryz.ntmps15
  go_wp2_with fail
  rw [HW.out]
  (with_reducible refine HA.out.mono ?_)
  rintro e w3 ⟨A3, c3, rfl, y3, nc3, b3⟩
  have HB3 := Lib.hid b3
  have H := nlower_any t p A3 (n + 1) c3 (key ++ [0]) w3 ((otre_on HT.out b3).mono (fun i q => Nat.lt_of_lt_of_le q b3.size)) HX.out.1 HX.out.2.1 HX.out.2.2.1 y3 nc3 HX.out.2.2.2
  rw [HO.out] at H
  have H := Lib.hid H
  clear y3 nc3 b3 HA
  go_wp2_with fail
  (with_reducible refine H.out.mono ?_)
  rintro e w5 ⟨A5, c5, rfl, y5, nc5, pb5, k5⟩
  have hk5 : Below W.heap.size W w5 := HB3.out.trans ((k5.below (Nat.le_refl _) (fun _ q => q.elim)).mono HB3.out.size)
  obtain ⟨r1, r2, r3⟩ := HBW.out
  have j5 := r3.below hk5 (by omega)
  have d0 := j5.cell 0
  have d1 := j5.cell 1
  have z0 := j5.fz 0
  have z1 := j5.fz 1
  obtain ⟨v5, hv5⟩ : ∃ v, oV o = v := ⟨_, rfl⟩
  obtain ⟨n5, hn5⟩ : ∃ v, (oK o).length = v := ⟨_, rfl⟩
  obtain ⟨b5, hb5⟩ : ∃ v, o.isSome = v := ⟨_, rfl⟩
  have HE := Lib.hid (nend_box r1 r2 r3 hk5 y5 nc5 (fun i hi => Nat.le_trans HB3.out.size (pb5 i hi)) v5 hv5 n5 hn5 b5 hb5)
  rw [hv5, hn5, hb5]
  clear hk5 r1 r2 r3 j5 y5 nc5 pb5 k5 hv5 hn5 hb5 H
  go_wp2_with fail
  exact close2e rfl rfl rfl rfl HE.out.1 HE.out.2
set_option maxRecDepth 100000 in
set_option maxHeartbeats 1000000 in
theorem nhigher_any (t : Option (Nn × Fo)) (p A : Option Addr) (n c : Nat) (key : List UInt8) (w : World) (ht : OTre w (· < w.heap.size) t p) (hwf : owf t) (hf : ofull t) (hM : ∀ q ∈ olist t, q.1.length ≤ 60000) (hk : Byt w w.heap.size A n key) (hn : n + 1 ≤ 60000) :
    Calls Tryz.prog 21 #[.pointer p, .slice A n c] w (NrPost (fun _ => False) w (geL (olist t) (key ++ [0])).head?) := by
  obtain ⟨o, ho⟩ : ∃ o, (geL (olist t) (key ++ [0])).head? = o := ⟨_, rfl⟩
  rw [ho]
  obtain ⟨W, hW⟩ : ∃ W, w.alloc (.cells #[.slice none 0 0, .int .u64 0] 31) = W := ⟨_, rfl⟩
  have hb : Below w.heap.size w W := by rw [← hW]; exact (Below.refl _ _).alloc (Nat.le_refl _) _
  have hj : Blk W w.heap.size #[.slice none 0 0, .int .u64 0] := by rw [← hW]; exact Blk.new w _ _
  have hs : W.heap.size = w.heap.size + 1 := by rw [← hW]; simp
  have HBW := Lib.hid (And.intro hb (And.intro hs hj))
  have HW := Lib.hid hW
  have HA := Lib.hid (nafter_any A n c key W ((hk.below hb).more (by omega)) (by omega))
  have HT := Lib.hid ((otre_on ht hb).mono (S' := (· < W.heap.size)) (fun i q => by omega))
  have HX := Lib.hid (And.intro hwf (And.intro hf (And.intro hM hn)))
  have HO := Lib.hid ho
  clear ht hf hM ho hW hb hs hj hwf hk hn
  go_enter Tryz.func21, Tryz.ntmps21
  go_wp2_with fail
  rw [HW.out]
  (with_reducible refine HA.out.mono ?_)
  rintro e w3 ⟨A3, c3, rfl, y3, nc3, b3⟩
  have HB3 := Lib.hid b3
  have H := nceil_any t p A3 (n + 1) c3 (key ++ [0]) w3 ((otre_on HT.out b3).mono (fun i q => Nat.lt_of_lt_of_le q b3.size)) HX.out.1 HX.out.2.1 HX.out.2.2.1 y3 nc3 HX.out.2.2.2
  rw [HO.out] at H
  have H := Lib.hid H
  clear y3 nc3 b3 HA
  go_wp2_with fail
  (with_reducible refine H.out.mono ?_)
  rintro e w5 ⟨A5, c5, rfl, y5, nc5, pb5, k5⟩
  have hk5 : Below W.heap.size W w5 := HB3.out.trans ((k5.below (Nat.le_refl _) (fun _ q => q.elim)).mono HB3.out.size)
  obtain ⟨r1, r2, r3⟩ := HBW.out
  have j5 := r3.below hk5 (by omega)
  have d0 := j5.cell 0
  have d1 := j5.cell 1
  have z0 := j5.fz 0
  have z1 := j5.fz 1
  obtain ⟨v5, hv5⟩ : ∃ v, oV o = v := ⟨_, rfl⟩
  obtain ⟨n5, hn5⟩ : ∃ v, (oK o).length = v := ⟨_, rfl⟩
  obtain ⟨b5, hb5⟩ : ∃ v, o.isSome = v := ⟨_, rfl⟩
  have HE := Lib.hid (nend_box r1 r2 r3 hk5 y5 nc5 (fun i hi => Nat.le_trans HB3.out.size (pb5 i hi)) v5 hv5 n5 hn5 b5 hb5)
  rw [hv5, hn5, hb5]
  clear hk5 r1 r2 r3 j5 y5 nc5 pb5 k5 hv5 hn5 hb5 H
  go_wp2_with fail
  exact close2e rfl rfl rfl rfl HE.out.1 HE.out.2
end Go.Proofs.YtidiinededalmaaGreat
