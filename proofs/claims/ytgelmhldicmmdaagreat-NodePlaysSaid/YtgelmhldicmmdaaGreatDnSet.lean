/-
  The document's node, by value: what writes to it hands it back.
-/
import Derived.Test.YtgelmhldicmmdaaGreatDnDoc
namespace Go.Proofs.YtgelmhldicmmdaaGreat
open Go.RowKit

set_option maxRecDepth 100000 in
theorem dn_ret (fn : Func) {p u : Tmp} (hf : fn.results = #[.cell p 59, .tmp u]) (tmps : Array Value) {w : World} {g : Nat} {L : List Value} (h : Lst w g L) (hL : Dn L) (hp : tmps.getD p undef = .pointer (some ⟨g, 0, none⟩)) :
    (results fn tmps).run Tryz.prog w = .ok (.tuple #[.agg L.toArray, tmps.getD u undef]) w := by
  rw [results_cell_tmp hf, hp]
  simp [asAddr, Result.andThen, run_loadVar_mid w g 0 59 L _ (Lst.all h) Tryz.underlying59 rfl hL.sz]
section
variable {o v : Int} {lf hs : Bool} {A : Option Addr} {n c : Nat} {K : Nat → Int}
set_option maxRecDepth 100000 in
set_option maxHeartbeats 1000000 in
theorem rdsetpart_no (q : Int) (A' : Option Addr) (n' c' : Nat) (hm : mineB o q = false) (w : World) : Calls Tryz.prog 48 #[.agg (dnL o lf A n c hs v K).toArray, .int .u64 q, .slice A' n' c'] w fun e w' =>
    e = .returned (.tuple #[.agg (dnL o lf A n c hs v K).toArray, .int .i64 11]) ∧ Below w.heap.size w w' := by
  have HC := Lib.hid (fun (V : World) => rmine_any (dnL o lf A n c hs v K) o q rfl V)
  rw [hm] at HC
  have HSz := Lib.hid (dn_is (o := o) (lf := lf) (A := A) (n := n) (c := c) (hs := hs) (v := v) (K := K)).sz
  obtain ⟨W0, hW0, l0, b0, s0⟩ := dn_box (dnL o lf A n c hs v K) w
  obtain ⟨W1, hW1, l1, b1, s1⟩ := dn_box zeroN W0
  have k1 := Blk.below l0 b1 (by omega)
  have bb := b0.trans (b1.mono b0.size)
  rw [s0] at l1
  have HF := Lib.hid (fun (V : World) (h : Below W1.heap.size W1 V) => show Lst V w.heap.size (dnL o lf A n c hs v K) ∧ Lst V (w.heap.size + 1) zeroN ∧ Below w.heap.size w V from ⟨Blk.below k1 h (Blk.lt k1), Blk.below l1 h (Blk.lt l1), bb.trans (h.mono bb.size)⟩)
  have HR1 := Lib.hid (Lst.all k1)
  have S1 := Lib.hid (show W1.heap.size = w.heap.size + 1 + 1 by rw [s1, s0])
  have HW1 := Lib.hid hW1
  have HZ0 := Lib.hid dn_zero
  clear l0 b0 l1 b1 k1 bb hm s1 hW1
  obtain ⟨L, hL⟩ : ∃ L, dnL o lf A n c hs v K = L := ⟨_, rfl⟩
  have HL := Lib.hid hL
  rw [hL] at HC HSz HR1 hW0 HF
  rw [hL]
  clear hL
  generalize hzs : zeroN.toArray = zs at HZ0 HW1
  clear hzs
  go_enter Tryz.func48, Tryz.ntmps48
  go_upto_region 1 with (refine wpList_alloc_z rfl 59 rfl zs HZ0.out ?_)
  try rw [hW0]
  try rw [HW1.out]
  clear hW0 HW1
  go_wp2_with (refine wpList_load_mid rfl 59 (.tmp 3) rfl w.heap.size 0 rfl L _ HR1.out Tryz.underlying59 rfl HSz.out ?_)
  (with_reducible refine (HC.out _).mono ?_)
  rintro e w2 ⟨rfl, h2⟩
  obtain ⟨q1, q2, q3⟩ := HF.out w2 h2
  rw [← HL.out] at q1
  obtain ⟨X2, hX2⟩ : ∃ X2, X2 = w2.setCells (w.heap.size + 1) 0 (dnL o lf A n c hs v K).toArray.toList := ⟨_, rfl⟩
  have BK : Lst X2 (w.heap.size + 1) (dnL o lf A n c hs v K) := by rw [hX2]; exact dn_over q2 zeroN_length dn_is
  have HB := Lib.hid (show Below w.heap.size w X2 by rw [hX2]; exact back_below q3 _ q3.size)
  have HLd := Lib.hid (Lst.all q1)
  have HTh := Lib.hid (Lst.there q2 (o := 0) (n := (dnL o lf A n c hs v K).toArray.size) (by rw [zeroN_length]; simp [dnL_length]))
  have HRT := Lib.hid (fun (tmps : Array Value) (hp : tmps.getD 6 undef = .pointer (some ⟨w.heap.size + 1, 0, none⟩)) => dn_ret Tryz.f48 (u := 7) rfl tmps BK dn_is hp)
  have HSL := Lib.hid (show Dn (dnL o lf A n c hs v K) from dn_is)
  have HX2 := Lib.hid hX2
  clear hX2 BK h2 HF HSz HC HR1 S1 s0 q1
  obtain ⟨L', hL'⟩ : ∃ L', dnL o lf A n c hs v K = L' := ⟨_, rfl⟩
  rw [hL'] at HX2 HLd HTh HRT HSL
  have EQ := Lib.hid hL'
  clear hL'
  go_wp2_with (first
    | (refine wpList_load_mid rfl 59 (.tmp 3) rfl w.heap.size 0 rfl L' _ HLd.out Tryz.underlying59 rfl HSL.out.sz ?_)
    | (refine wpList_store_mid rfl 59 (.tmp 6) (.tmp 12) rfl (w.heap.size + 1) 0 L'.toArray rfl rfl HTh.out HSL.out.szA HSL.out.all1 ?_; rw [← HX2.out]))
  (try simp only [Exit.inBlock, Exit.then])
  refine bodyPost_ret (HRT.out _ (by rfl)) (by rfl) ?_
  exact ⟨by rw [← EQ.out]; first | rfl | (rw [← HL.out]; rfl), HB.out⟩
set_option maxRecDepth 100000 in
set_option maxHeartbeats 1000000 in
theorem rdsetpart_yes (q : Int) (A' : Option Addr) (n' c' : Nat) (hm : mineB o q = true) (w : World) : Calls Tryz.prog 48 #[.agg (dnL o lf A n c hs v K).toArray, .int .u64 q, .slice A' n' c'] w fun e w' =>
    e = .returned (.tuple #[.agg (dnL o lf A' n' c' hs v K).toArray, .int .i64 0]) ∧ Below w.heap.size w w' := by
  have HC := Lib.hid (fun (V : World) => rmine_any (dnL o lf A n c hs v K) o q rfl V)
  rw [hm] at HC
  have HSz := Lib.hid (dn_is (o := o) (lf := lf) (A := A) (n := n) (c := c) (hs := hs) (v := v) (K := K)).sz
  obtain ⟨W0, hW0, l0, b0, s0⟩ := dn_box (dnL o lf A n c hs v K) w
  obtain ⟨W1, hW1, l1, b1, s1⟩ := dn_box zeroN W0
  have k1 := Blk.below l0 b1 (by omega)
  have bb := b0.trans (b1.mono b0.size)
  rw [s0] at l1
  have HF := Lib.hid (fun (V : World) (h : Below W1.heap.size W1 V) => show Lst V w.heap.size (dnL o lf A n c hs v K) ∧ Lst V (w.heap.size + 1) zeroN ∧ Below w.heap.size w V from ⟨Blk.below k1 h (Blk.lt k1), Blk.below l1 h (Blk.lt l1), bb.trans (h.mono bb.size)⟩)
  have HR1 := Lib.hid (Lst.all k1)
  have S1 := Lib.hid (show W1.heap.size = w.heap.size + 1 + 1 by rw [s1, s0])
  have HW1 := Lib.hid hW1
  have HZ0 := Lib.hid dn_zero
  clear l0 b0 l1 b1 k1 bb hm s1 hW1
  obtain ⟨L, hL⟩ : ∃ L, dnL o lf A n c hs v K = L := ⟨_, rfl⟩
  have HL := Lib.hid hL
  rw [hL] at HC HSz HR1 hW0 HF
  rw [hL]
  clear hL
  generalize hzs : zeroN.toArray = zs at HZ0 HW1
  clear hzs
  go_enter Tryz.func48, Tryz.ntmps48
  go_upto_region 1 with (refine wpList_alloc_z rfl 59 rfl zs HZ0.out ?_)
  try rw [hW0]
  try rw [HW1.out]
  clear hW0 HW1
  go_wp2_with (refine wpList_load_mid rfl 59 (.tmp 3) rfl w.heap.size 0 rfl L _ HR1.out Tryz.underlying59 rfl HSz.out ?_)
  (with_reducible refine (HC.out _).mono ?_)
  rintro e w2 ⟨rfl, h2⟩
  obtain ⟨q1, q2, q3⟩ := HF.out w2 h2
  rw [← HL.out] at q1
  obtain ⟨Y, hY⟩ : ∃ Y, (w2.setCell ⟨w.heap.size, 2, none⟩ (.slice A' n' c')) = Y := ⟨_, rfl⟩
  have y1 : Lst Y w.heap.size (dnL o lf A' n' c' hs v K) := by rw [← hY]; exact (Lst.set1 q1 _ _)
  have ky : Kept (· = w.heap.size) w2 Y := by rw [← hY]; exact Kept.set_ (D := (· = w.heap.size)) _ _ _ rfl
  have y2 : Lst Y (w.heap.size + 1) zeroN := ky.blk q2 (by omega)
  have y3 : Below w.heap.size w Y := q3.trans (ky.below q3.size (fun i e => by omega))
  have HY := Lib.hid hY
  obtain ⟨u0, d0⟩ : ∃ u, w2.cell? ⟨w.heap.size, 2, none⟩ = some u := Option.isSome_iff_exists.1 (Lst.isSome q1 (by rw [dnL_length]; omega))
  have f0 : w2.frozen? ⟨w.heap.size, 2, none⟩ = false := Blk.fz q1 _
  clear hY ky q2 q3
  obtain ⟨X2, hX2⟩ : ∃ X2, X2 = Y.setCells (w.heap.size + 1) 0 (dnL o lf A' n' c' hs v K).toArray.toList := ⟨_, rfl⟩
  have BK : Lst X2 (w.heap.size + 1) (dnL o lf A' n' c' hs v K) := by rw [hX2]; exact dn_over y2 zeroN_length dn_is
  have HB := Lib.hid (show Below w.heap.size w X2 by rw [hX2]; exact back_below y3 _ y3.size)
  have HLd := Lib.hid (Lst.all y1)
  have HTh := Lib.hid (Lst.there y2 (o := 0) (n := (dnL o lf A' n' c' hs v K).toArray.size) (by rw [zeroN_length]; simp [dnL_length]))
  have HRT := Lib.hid (fun (tmps : Array Value) (hp : tmps.getD 6 undef = .pointer (some ⟨w.heap.size + 1, 0, none⟩)) => dn_ret Tryz.f48 (u := 7) rfl tmps BK dn_is hp)
  have HSL := Lib.hid (show Dn (dnL o lf A' n' c' hs v K) from dn_is)
  have HX2 := Lib.hid hX2
  clear hX2 BK h2 HF HSz HC HR1 S1 s0 q1
  obtain ⟨L', hL'⟩ : ∃ L', dnL o lf A' n' c' hs v K = L' := ⟨_, rfl⟩
  rw [hL'] at HX2 HLd HTh HRT HSL
  have EQ := Lib.hid hL'
  clear hL'
  go_upto_region 4 with fail
  rw [HY.out]
  go_wp2_with (first
    | (refine wpList_load_mid rfl 59 (.tmp 3) rfl w.heap.size 0 rfl L' _ HLd.out Tryz.underlying59 rfl HSL.out.sz ?_)
    | (refine wpList_store_mid rfl 59 (.tmp 6) (.tmp 15) rfl (w.heap.size + 1) 0 L'.toArray rfl rfl HTh.out HSL.out.szA HSL.out.all1 ?_; rw [← HX2.out]))
  (try simp only [Exit.inBlock, Exit.then])
  refine bodyPost_ret (HRT.out _ (by rfl)) (by rfl) ?_
  exact ⟨by rw [← EQ.out]; first | rfl | (rw [← HL.out]; rfl), HB.out⟩
set_option maxRecDepth 100000 in
set_option maxHeartbeats 1000000 in
theorem rdsetval_no (q : Int) (v2 : Int) (hm : mineB o q = false) (w : World) : Calls Tryz.prog 49 #[.agg (dnL o lf A n c hs v K).toArray, .int .u64 q, .int .u64 v2] w fun e w' =>
    e = .returned (.tuple #[.agg (dnL o lf A n c hs v K).toArray, .int .i64 11]) ∧ Below w.heap.size w w' := by
  have HC := Lib.hid (fun (V : World) => rmine_any (dnL o lf A n c hs v K) o q rfl V)
  rw [hm] at HC
  have HSz := Lib.hid (dn_is (o := o) (lf := lf) (A := A) (n := n) (c := c) (hs := hs) (v := v) (K := K)).sz
  obtain ⟨W0, hW0, l0, b0, s0⟩ := dn_box (dnL o lf A n c hs v K) w
  obtain ⟨W1, hW1, l1, b1, s1⟩ := dn_box zeroN W0
  have k1 := Blk.below l0 b1 (by omega)
  have bb := b0.trans (b1.mono b0.size)
  rw [s0] at l1
  have HF := Lib.hid (fun (V : World) (h : Below W1.heap.size W1 V) => show Lst V w.heap.size (dnL o lf A n c hs v K) ∧ Lst V (w.heap.size + 1) zeroN ∧ Below w.heap.size w V from ⟨Blk.below k1 h (Blk.lt k1), Blk.below l1 h (Blk.lt l1), bb.trans (h.mono bb.size)⟩)
  have HR1 := Lib.hid (Lst.all k1)
  have S1 := Lib.hid (show W1.heap.size = w.heap.size + 1 + 1 by rw [s1, s0])
  have HW1 := Lib.hid hW1
  have HZ0 := Lib.hid dn_zero
  clear l0 b0 l1 b1 k1 bb hm s1 hW1
  obtain ⟨L, hL⟩ : ∃ L, dnL o lf A n c hs v K = L := ⟨_, rfl⟩
  have HL := Lib.hid hL
  rw [hL] at HC HSz HR1 hW0 HF
  rw [hL]
  clear hL
  generalize hzs : zeroN.toArray = zs at HZ0 HW1
  clear hzs
  go_enter Tryz.func49, Tryz.ntmps49
  go_upto_region 1 with (refine wpList_alloc_z rfl 59 rfl zs HZ0.out ?_)
  try rw [hW0]
  try rw [HW1.out]
  clear hW0 HW1
  go_wp2_with (refine wpList_load_mid rfl 59 (.tmp 3) rfl w.heap.size 0 rfl L _ HR1.out Tryz.underlying59 rfl HSz.out ?_)
  (with_reducible refine (HC.out _).mono ?_)
  rintro e w2 ⟨rfl, h2⟩
  obtain ⟨q1, q2, q3⟩ := HF.out w2 h2
  rw [← HL.out] at q1
  obtain ⟨X2, hX2⟩ : ∃ X2, X2 = w2.setCells (w.heap.size + 1) 0 (dnL o lf A n c hs v K).toArray.toList := ⟨_, rfl⟩
  have BK : Lst X2 (w.heap.size + 1) (dnL o lf A n c hs v K) := by rw [hX2]; exact dn_over q2 zeroN_length dn_is
  have HB := Lib.hid (show Below w.heap.size w X2 by rw [hX2]; exact back_below q3 _ q3.size)
  have HLd := Lib.hid (Lst.all q1)
  have HTh := Lib.hid (Lst.there q2 (o := 0) (n := (dnL o lf A n c hs v K).toArray.size) (by rw [zeroN_length]; simp [dnL_length]))
  have HRT := Lib.hid (fun (tmps : Array Value) (hp : tmps.getD 6 undef = .pointer (some ⟨w.heap.size + 1, 0, none⟩)) => dn_ret Tryz.f49 (u := 7) rfl tmps BK dn_is hp)
  have HSL := Lib.hid (show Dn (dnL o lf A n c hs v K) from dn_is)
  have HX2 := Lib.hid hX2
  clear hX2 BK h2 HF HSz HC HR1 S1 s0 q1
  obtain ⟨L', hL'⟩ : ∃ L', dnL o lf A n c hs v K = L' := ⟨_, rfl⟩
  rw [hL'] at HX2 HLd HTh HRT HSL
  have EQ := Lib.hid hL'
  clear hL'
  go_wp2_with (first
    | (refine wpList_load_mid rfl 59 (.tmp 3) rfl w.heap.size 0 rfl L' _ HLd.out Tryz.underlying59 rfl HSL.out.sz ?_)
    | (refine wpList_store_mid rfl 59 (.tmp 6) (.tmp 12) rfl (w.heap.size + 1) 0 L'.toArray rfl rfl HTh.out HSL.out.szA HSL.out.all1 ?_; rw [← HX2.out]))
  (try simp only [Exit.inBlock, Exit.then])
  refine bodyPost_ret (HRT.out _ (by rfl)) (by rfl) ?_
  exact ⟨by rw [← EQ.out]; first | rfl | (rw [← HL.out]; rfl), HB.out⟩
set_option maxRecDepth 100000 in
set_option maxHeartbeats 1000000 in
theorem rdsetval_yes (q : Int) (v2 : Int) (hm : mineB o q = true) (w : World) : Calls Tryz.prog 49 #[.agg (dnL o lf A n c hs v K).toArray, .int .u64 q, .int .u64 v2] w fun e w' =>
    e = .returned (.tuple #[.agg (dnL o lf A n c true v2 K).toArray, .int .i64 0]) ∧ Below w.heap.size w w' := by
  have HC := Lib.hid (fun (V : World) => rmine_any (dnL o lf A n c hs v K) o q rfl V)
  rw [hm] at HC
  have HSz := Lib.hid (dn_is (o := o) (lf := lf) (A := A) (n := n) (c := c) (hs := hs) (v := v) (K := K)).sz
  obtain ⟨W0, hW0, l0, b0, s0⟩ := dn_box (dnL o lf A n c hs v K) w
  obtain ⟨W1, hW1, l1, b1, s1⟩ := dn_box zeroN W0
  have k1 := Blk.below l0 b1 (by omega)
  have bb := b0.trans (b1.mono b0.size)
  rw [s0] at l1
  have HF := Lib.hid (fun (V : World) (h : Below W1.heap.size W1 V) => show Lst V w.heap.size (dnL o lf A n c hs v K) ∧ Lst V (w.heap.size + 1) zeroN ∧ Below w.heap.size w V from ⟨Blk.below k1 h (Blk.lt k1), Blk.below l1 h (Blk.lt l1), bb.trans (h.mono bb.size)⟩)
  have HR1 := Lib.hid (Lst.all k1)
  have S1 := Lib.hid (show W1.heap.size = w.heap.size + 1 + 1 by rw [s1, s0])
  have HW1 := Lib.hid hW1
  have HZ0 := Lib.hid dn_zero
  clear l0 b0 l1 b1 k1 bb hm s1 hW1
  obtain ⟨L, hL⟩ : ∃ L, dnL o lf A n c hs v K = L := ⟨_, rfl⟩
  have HL := Lib.hid hL
  rw [hL] at HC HSz HR1 hW0 HF
  rw [hL]
  clear hL
  generalize hzs : zeroN.toArray = zs at HZ0 HW1
  clear hzs
  go_enter Tryz.func49, Tryz.ntmps49
  go_upto_region 1 with (refine wpList_alloc_z rfl 59 rfl zs HZ0.out ?_)
  try rw [hW0]
  try rw [HW1.out]
  clear hW0 HW1
  go_wp2_with (refine wpList_load_mid rfl 59 (.tmp 3) rfl w.heap.size 0 rfl L _ HR1.out Tryz.underlying59 rfl HSz.out ?_)
  (with_reducible refine (HC.out _).mono ?_)
  rintro e w2 ⟨rfl, h2⟩
  obtain ⟨q1, q2, q3⟩ := HF.out w2 h2
  rw [← HL.out] at q1
  obtain ⟨Y, hY⟩ : ∃ Y, ((w2.setCell ⟨w.heap.size, 3, none⟩ (.bool true)).setCell ⟨w.heap.size, 4, none⟩ (.int .u64 v2)) = Y := ⟨_, rfl⟩
  have y1 : Lst Y w.heap.size (dnL o lf A n c true v2 K) := by rw [← hY]; exact (Lst.set1 (Lst.set1 q1 _ _) _ _)
  have ky : Kept (· = w.heap.size) w2 Y := by rw [← hY]; exact (Kept.set_ (D := (· = w.heap.size)) _ _ _ rfl).trans (Kept.set_ _ _ _ rfl)
  have y2 : Lst Y (w.heap.size + 1) zeroN := ky.blk q2 (by omega)
  have y3 : Below w.heap.size w Y := q3.trans (ky.below q3.size (fun i e => by omega))
  have HY := Lib.hid hY
  obtain ⟨u0, d0⟩ : ∃ u, w2.cell? ⟨w.heap.size, 3, none⟩ = some u := Option.isSome_iff_exists.1 (Lst.isSome q1 (by rw [dnL_length]; omega))
  have f0 : w2.frozen? ⟨w.heap.size, 3, none⟩ = false := Blk.fz q1 _
  obtain ⟨u1, d1⟩ : ∃ u, w2.cell? ⟨w.heap.size, 4, none⟩ = some u := Option.isSome_iff_exists.1 (Lst.isSome q1 (by rw [dnL_length]; omega))
  have f1 : w2.frozen? ⟨w.heap.size, 4, none⟩ = false := Blk.fz q1 _
  clear hY ky q2 q3
  obtain ⟨X2, hX2⟩ : ∃ X2, X2 = Y.setCells (w.heap.size + 1) 0 (dnL o lf A n c true v2 K).toArray.toList := ⟨_, rfl⟩
  have BK : Lst X2 (w.heap.size + 1) (dnL o lf A n c true v2 K) := by rw [hX2]; exact dn_over y2 zeroN_length dn_is
  have HB := Lib.hid (show Below w.heap.size w X2 by rw [hX2]; exact back_below y3 _ y3.size)
  have HLd := Lib.hid (Lst.all y1)
  have HTh := Lib.hid (Lst.there y2 (o := 0) (n := (dnL o lf A n c true v2 K).toArray.size) (by rw [zeroN_length]; simp [dnL_length]))
  have HRT := Lib.hid (fun (tmps : Array Value) (hp : tmps.getD 6 undef = .pointer (some ⟨w.heap.size + 1, 0, none⟩)) => dn_ret Tryz.f49 (u := 7) rfl tmps BK dn_is hp)
  have HSL := Lib.hid (show Dn (dnL o lf A n c true v2 K) from dn_is)
  have HX2 := Lib.hid hX2
  clear hX2 BK h2 HF HSz HC HR1 S1 s0 q1
  obtain ⟨L', hL'⟩ : ∃ L', dnL o lf A n c true v2 K = L' := ⟨_, rfl⟩
  rw [hL'] at HX2 HLd HTh HRT HSL
  have EQ := Lib.hid hL'
  clear hL'
  go_upto_region 4 with fail
  rw [HY.out]
  go_wp2_with (first
    | (refine wpList_load_mid rfl 59 (.tmp 3) rfl w.heap.size 0 rfl L' _ HLd.out Tryz.underlying59 rfl HSL.out.sz ?_)
    | (refine wpList_store_mid rfl 59 (.tmp 6) (.tmp 16) rfl (w.heap.size + 1) 0 L'.toArray rfl rfl HTh.out HSL.out.szA HSL.out.all1 ?_; rw [← HX2.out]))
  (try simp only [Exit.inBlock, Exit.then])
  refine bodyPost_ret (HRT.out _ (by rfl)) (by rfl) ?_
  exact ⟨by rw [← EQ.out]; first | rfl | (rw [← HL.out]; rfl), HB.out⟩
set_option maxRecDepth 100000 in
set_option maxHeartbeats 1000000 in
theorem rddropval_no (q : Int)  (hm : mineB o q = false) (w : World) : Calls Tryz.prog 51 #[.agg (dnL o lf A n c hs v K).toArray, .int .u64 q] w fun e w' =>
    e = .returned (.tuple #[.agg (dnL o lf A n c hs v K).toArray, .int .i64 11]) ∧ Below w.heap.size w w' := by
  have HC := Lib.hid (fun (V : World) => rmine_any (dnL o lf A n c hs v K) o q rfl V)
  rw [hm] at HC
  have HSz := Lib.hid (dn_is (o := o) (lf := lf) (A := A) (n := n) (c := c) (hs := hs) (v := v) (K := K)).sz
  obtain ⟨W0, hW0, l0, b0, s0⟩ := dn_box (dnL o lf A n c hs v K) w
  obtain ⟨W1, hW1, l1, b1, s1⟩ := dn_box zeroN W0
  have k1 := Blk.below l0 b1 (by omega)
  have bb := b0.trans (b1.mono b0.size)
  rw [s0] at l1
  have HF := Lib.hid (fun (V : World) (h : Below W1.heap.size W1 V) => show Lst V w.heap.size (dnL o lf A n c hs v K) ∧ Lst V (w.heap.size + 1) zeroN ∧ Below w.heap.size w V from ⟨Blk.below k1 h (Blk.lt k1), Blk.below l1 h (Blk.lt l1), bb.trans (h.mono bb.size)⟩)
  have HR1 := Lib.hid (Lst.all k1)
  have S1 := Lib.hid (show W1.heap.size = w.heap.size + 1 + 1 by rw [s1, s0])
  have HW1 := Lib.hid hW1
  have HZ0 := Lib.hid dn_zero
  clear l0 b0 l1 b1 k1 bb hm s1 hW1
  obtain ⟨L, hL⟩ : ∃ L, dnL o lf A n c hs v K = L := ⟨_, rfl⟩
  have HL := Lib.hid hL
  rw [hL] at HC HSz HR1 hW0 HF
  rw [hL]
  clear hL
  generalize hzs : zeroN.toArray = zs at HZ0 HW1
  clear hzs
  go_enter Tryz.func51, Tryz.ntmps51
  go_upto_region 1 with (refine wpList_alloc_z rfl 59 rfl zs HZ0.out ?_)
  try rw [hW0]
  try rw [HW1.out]
  clear hW0 HW1
  go_wp2_with (refine wpList_load_mid rfl 59 (.tmp 2) rfl w.heap.size 0 rfl L _ HR1.out Tryz.underlying59 rfl HSz.out ?_)
  (with_reducible refine (HC.out _).mono ?_)
  rintro e w2 ⟨rfl, h2⟩
  obtain ⟨q1, q2, q3⟩ := HF.out w2 h2
  rw [← HL.out] at q1
  obtain ⟨X2, hX2⟩ : ∃ X2, X2 = w2.setCells (w.heap.size + 1) 0 (dnL o lf A n c hs v K).toArray.toList := ⟨_, rfl⟩
  have BK : Lst X2 (w.heap.size + 1) (dnL o lf A n c hs v K) := by rw [hX2]; exact dn_over q2 zeroN_length dn_is
  have HB := Lib.hid (show Below w.heap.size w X2 by rw [hX2]; exact back_below q3 _ q3.size)
  have HLd := Lib.hid (Lst.all q1)
  have HTh := Lib.hid (Lst.there q2 (o := 0) (n := (dnL o lf A n c hs v K).toArray.size) (by rw [zeroN_length]; simp [dnL_length]))
  have HRT := Lib.hid (fun (tmps : Array Value) (hp : tmps.getD 4 undef = .pointer (some ⟨w.heap.size + 1, 0, none⟩)) => dn_ret Tryz.f51 (u := 5) rfl tmps BK dn_is hp)
  have HSL := Lib.hid (show Dn (dnL o lf A n c hs v K) from dn_is)
  have HX2 := Lib.hid hX2
  clear hX2 BK h2 HF HSz HC HR1 S1 s0 q1
  obtain ⟨L', hL'⟩ : ∃ L', dnL o lf A n c hs v K = L' := ⟨_, rfl⟩
  rw [hL'] at HX2 HLd HTh HRT HSL
  have EQ := Lib.hid hL'
  clear hL'
  go_wp2_with (first
    | (refine wpList_load_mid rfl 59 (.tmp 2) rfl w.heap.size 0 rfl L' _ HLd.out Tryz.underlying59 rfl HSL.out.sz ?_)
    | (refine wpList_store_mid rfl 59 (.tmp 4) (.tmp 10) rfl (w.heap.size + 1) 0 L'.toArray rfl rfl HTh.out HSL.out.szA HSL.out.all1 ?_; rw [← HX2.out]))
  (try simp only [Exit.inBlock, Exit.then])
  refine bodyPost_ret (HRT.out _ (by rfl)) (by rfl) ?_
  exact ⟨by rw [← EQ.out]; first | rfl | (rw [← HL.out]; rfl), HB.out⟩
set_option maxRecDepth 100000 in
set_option maxHeartbeats 1000000 in
theorem rddropval_leaf (q : Int)  (hm : mineB o q = true) (w : World) : Calls Tryz.prog 51 #[.agg (dnL o true A n c hs v K).toArray, .int .u64 q] w fun e w' =>
    e = .returned (.tuple #[.agg (dnL o true A n c hs v K).toArray, .int .i64 9]) ∧ Below w.heap.size w w' := by
  have HC := Lib.hid (fun (V : World) => rmine_any (dnL o true A n c hs v K) o q rfl V)
  rw [hm] at HC
  have HSz := Lib.hid (dn_is (o := o) (lf := true) (A := A) (n := n) (c := c) (hs := hs) (v := v) (K := K)).sz
  obtain ⟨W0, hW0, l0, b0, s0⟩ := dn_box (dnL o true A n c hs v K) w
  obtain ⟨W1, hW1, l1, b1, s1⟩ := dn_box zeroN W0
  have k1 := Blk.below l0 b1 (by omega)
  have bb := b0.trans (b1.mono b0.size)
  rw [s0] at l1
  have HF := Lib.hid (fun (V : World) (h : Below W1.heap.size W1 V) => show Lst V w.heap.size (dnL o true A n c hs v K) ∧ Lst V (w.heap.size + 1) zeroN ∧ Below w.heap.size w V from ⟨Blk.below k1 h (Blk.lt k1), Blk.below l1 h (Blk.lt l1), bb.trans (h.mono bb.size)⟩)
  have HR1 := Lib.hid (Lst.all k1)
  have S1 := Lib.hid (show W1.heap.size = w.heap.size + 1 + 1 by rw [s1, s0])
  have HW1 := Lib.hid hW1
  have HZ0 := Lib.hid dn_zero
  clear l0 b0 l1 b1 k1 bb hm s1 hW1
  obtain ⟨L, hL⟩ : ∃ L, dnL o true A n c hs v K = L := ⟨_, rfl⟩
  have HL := Lib.hid hL
  rw [hL] at HC HSz HR1 hW0 HF
  rw [hL]
  clear hL
  generalize hzs : zeroN.toArray = zs at HZ0 HW1
  clear hzs
  go_enter Tryz.func51, Tryz.ntmps51
  go_upto_region 1 with (refine wpList_alloc_z rfl 59 rfl zs HZ0.out ?_)
  try rw [hW0]
  try rw [HW1.out]
  clear hW0 HW1
  go_wp2_with (refine wpList_load_mid rfl 59 (.tmp 2) rfl w.heap.size 0 rfl L _ HR1.out Tryz.underlying59 rfl HSz.out ?_)
  (with_reducible refine (HC.out _).mono ?_)
  rintro e w2 ⟨rfl, h2⟩
  obtain ⟨q1, q2, q3⟩ := HF.out w2 h2
  rw [← HL.out] at q1
  have c1 : w2.cell? ⟨w.heap.size, 1, none⟩ = some (.bool true) := by rw [Lst.at_ q1]; rfl
  obtain ⟨X2, hX2⟩ : ∃ X2, X2 = w2.setCells (w.heap.size + 1) 0 (dnL o true A n c hs v K).toArray.toList := ⟨_, rfl⟩
  have BK : Lst X2 (w.heap.size + 1) (dnL o true A n c hs v K) := by rw [hX2]; exact dn_over q2 zeroN_length dn_is
  have HB := Lib.hid (show Below w.heap.size w X2 by rw [hX2]; exact back_below q3 _ q3.size)
  have HLd := Lib.hid (Lst.all q1)
  have HTh := Lib.hid (Lst.there q2 (o := 0) (n := (dnL o true A n c hs v K).toArray.size) (by rw [zeroN_length]; simp [dnL_length]))
  have HRT := Lib.hid (fun (tmps : Array Value) (hp : tmps.getD 4 undef = .pointer (some ⟨w.heap.size + 1, 0, none⟩)) => dn_ret Tryz.f51 (u := 5) rfl tmps BK dn_is hp)
  have HSL := Lib.hid (show Dn (dnL o true A n c hs v K) from dn_is)
  have HX2 := Lib.hid hX2
  clear hX2 BK h2 HF HSz HC HR1 S1 s0 q1
  obtain ⟨L', hL'⟩ : ∃ L', dnL o true A n c hs v K = L' := ⟨_, rfl⟩
  rw [hL'] at HX2 HLd HTh HRT HSL
  have EQ := Lib.hid hL'
  clear hL'
  go_wp2_with (first
    | (refine wpList_load_mid rfl 59 (.tmp 2) rfl w.heap.size 0 rfl L' _ HLd.out Tryz.underlying59 rfl HSL.out.sz ?_)
    | (refine wpList_store_mid rfl 59 (.tmp 4) (.tmp 13) rfl (w.heap.size + 1) 0 L'.toArray rfl rfl HTh.out HSL.out.szA HSL.out.all1 ?_; rw [← HX2.out]))
  (try simp only [Exit.inBlock, Exit.then])
  refine bodyPost_ret (HRT.out _ (by rfl)) (by rfl) ?_
  exact ⟨by rw [← EQ.out]; first | rfl | (rw [← HL.out]; rfl), HB.out⟩
set_option maxRecDepth 100000 in
set_option maxHeartbeats 1000000 in
theorem rddropval_none (q : Int)  (hm : mineB o q = true) (w : World) : Calls Tryz.prog 51 #[.agg (dnL o false A n c false v K).toArray, .int .u64 q] w fun e w' =>
    e = .returned (.tuple #[.agg (dnL o false A n c false v K).toArray, .int .i64 6]) ∧ Below w.heap.size w w' := by
  have HC := Lib.hid (fun (V : World) => rmine_any (dnL o false A n c false v K) o q rfl V)
  rw [hm] at HC
  have HSz := Lib.hid (dn_is (o := o) (lf := false) (A := A) (n := n) (c := c) (hs := false) (v := v) (K := K)).sz
  obtain ⟨W0, hW0, l0, b0, s0⟩ := dn_box (dnL o false A n c false v K) w
  obtain ⟨W1, hW1, l1, b1, s1⟩ := dn_box zeroN W0
  have k1 := Blk.below l0 b1 (by omega)
  have bb := b0.trans (b1.mono b0.size)
  rw [s0] at l1
  have HF := Lib.hid (fun (V : World) (h : Below W1.heap.size W1 V) => show Lst V w.heap.size (dnL o false A n c false v K) ∧ Lst V (w.heap.size + 1) zeroN ∧ Below w.heap.size w V from ⟨Blk.below k1 h (Blk.lt k1), Blk.below l1 h (Blk.lt l1), bb.trans (h.mono bb.size)⟩)
  have HR1 := Lib.hid (Lst.all k1)
  have S1 := Lib.hid (show W1.heap.size = w.heap.size + 1 + 1 by rw [s1, s0])
  have HW1 := Lib.hid hW1
  have HZ0 := Lib.hid dn_zero
  clear l0 b0 l1 b1 k1 bb hm s1 hW1
  obtain ⟨L, hL⟩ : ∃ L, dnL o false A n c false v K = L := ⟨_, rfl⟩
  have HL := Lib.hid hL
  rw [hL] at HC HSz HR1 hW0 HF
  rw [hL]
  clear hL
  generalize hzs : zeroN.toArray = zs at HZ0 HW1
  clear hzs
  go_enter Tryz.func51, Tryz.ntmps51
  go_upto_region 1 with (refine wpList_alloc_z rfl 59 rfl zs HZ0.out ?_)
  try rw [hW0]
  try rw [HW1.out]
  clear hW0 HW1
  go_wp2_with (refine wpList_load_mid rfl 59 (.tmp 2) rfl w.heap.size 0 rfl L _ HR1.out Tryz.underlying59 rfl HSz.out ?_)
  (with_reducible refine (HC.out _).mono ?_)
  rintro e w2 ⟨rfl, h2⟩
  obtain ⟨q1, q2, q3⟩ := HF.out w2 h2
  rw [← HL.out] at q1
  have c1 : w2.cell? ⟨w.heap.size, 1, none⟩ = some (.bool false) := by rw [Lst.at_ q1]; rfl
  have c3 : w2.cell? ⟨w.heap.size, 3, none⟩ = some (.bool false) := by rw [Lst.at_ q1]; rfl
  obtain ⟨X2, hX2⟩ : ∃ X2, X2 = w2.setCells (w.heap.size + 1) 0 (dnL o false A n c false v K).toArray.toList := ⟨_, rfl⟩
  have BK : Lst X2 (w.heap.size + 1) (dnL o false A n c false v K) := by rw [hX2]; exact dn_over q2 zeroN_length dn_is
  have HB := Lib.hid (show Below w.heap.size w X2 by rw [hX2]; exact back_below q3 _ q3.size)
  have HLd := Lib.hid (Lst.all q1)
  have HTh := Lib.hid (Lst.there q2 (o := 0) (n := (dnL o false A n c false v K).toArray.size) (by rw [zeroN_length]; simp [dnL_length]))
  have HRT := Lib.hid (fun (tmps : Array Value) (hp : tmps.getD 4 undef = .pointer (some ⟨w.heap.size + 1, 0, none⟩)) => dn_ret Tryz.f51 (u := 5) rfl tmps BK dn_is hp)
  have HSL := Lib.hid (show Dn (dnL o false A n c false v K) from dn_is)
  have HX2 := Lib.hid hX2
  clear hX2 BK h2 HF HSz HC HR1 S1 s0 q1
  obtain ⟨L', hL'⟩ : ∃ L', dnL o false A n c false v K = L' := ⟨_, rfl⟩
  rw [hL'] at HX2 HLd HTh HRT HSL
  have EQ := Lib.hid hL'
  clear hL'
  go_wp2_with (first
    | (refine wpList_load_mid rfl 59 (.tmp 2) rfl w.heap.size 0 rfl L' _ HLd.out Tryz.underlying59 rfl HSL.out.sz ?_)
    | (refine wpList_store_mid rfl 59 (.tmp 4) (.tmp 17) rfl (w.heap.size + 1) 0 L'.toArray rfl rfl HTh.out HSL.out.szA HSL.out.all1 ?_; rw [← HX2.out]))
  (try simp only [Exit.inBlock, Exit.then])
  refine bodyPost_ret (HRT.out _ (by rfl)) (by rfl) ?_
  exact ⟨by rw [← EQ.out]; first | rfl | (rw [← HL.out]; rfl), HB.out⟩
set_option maxRecDepth 100000 in
set_option maxHeartbeats 1000000 in
theorem rddropval_yes (q : Int)  (hm : mineB o q = true) (w : World) : Calls Tryz.prog 51 #[.agg (dnL o false A n c true v K).toArray, .int .u64 q] w fun e w' =>
    e = .returned (.tuple #[.agg (dnL o false A n c false 0 K).toArray, .int .i64 0]) ∧ Below w.heap.size w w' := by
  have HC := Lib.hid (fun (V : World) => rmine_any (dnL o false A n c true v K) o q rfl V)
  rw [hm] at HC
  have HSz := Lib.hid (dn_is (o := o) (lf := false) (A := A) (n := n) (c := c) (hs := true) (v := v) (K := K)).sz
  obtain ⟨W0, hW0, l0, b0, s0⟩ := dn_box (dnL o false A n c true v K) w
  obtain ⟨W1, hW1, l1, b1, s1⟩ := dn_box zeroN W0
  have k1 := Blk.below l0 b1 (by omega)
  have bb := b0.trans (b1.mono b0.size)
  rw [s0] at l1
  have HF := Lib.hid (fun (V : World) (h : Below W1.heap.size W1 V) => show Lst V w.heap.size (dnL o false A n c true v K) ∧ Lst V (w.heap.size + 1) zeroN ∧ Below w.heap.size w V from ⟨Blk.below k1 h (Blk.lt k1), Blk.below l1 h (Blk.lt l1), bb.trans (h.mono bb.size)⟩)
  have HR1 := Lib.hid (Lst.all k1)
  have S1 := Lib.hid (show W1.heap.size = w.heap.size + 1 + 1 by rw [s1, s0])
  have HW1 := Lib.hid hW1
  have HZ0 := Lib.hid dn_zero
  clear l0 b0 l1 b1 k1 bb hm s1 hW1
  obtain ⟨L, hL⟩ : ∃ L, dnL o false A n c true v K = L := ⟨_, rfl⟩
  have HL := Lib.hid hL
  rw [hL] at HC HSz HR1 hW0 HF
  rw [hL]
  clear hL
  generalize hzs : zeroN.toArray = zs at HZ0 HW1
  clear hzs
  go_enter Tryz.func51, Tryz.ntmps51
  go_upto_region 1 with (refine wpList_alloc_z rfl 59 rfl zs HZ0.out ?_)
  try rw [hW0]
  try rw [HW1.out]
  clear hW0 HW1
  go_wp2_with (refine wpList_load_mid rfl 59 (.tmp 2) rfl w.heap.size 0 rfl L _ HR1.out Tryz.underlying59 rfl HSz.out ?_)
  (with_reducible refine (HC.out _).mono ?_)
  rintro e w2 ⟨rfl, h2⟩
  obtain ⟨q1, q2, q3⟩ := HF.out w2 h2
  rw [← HL.out] at q1
  have c1 : w2.cell? ⟨w.heap.size, 1, none⟩ = some (.bool false) := by rw [Lst.at_ q1]; rfl
  have c3 : w2.cell? ⟨w.heap.size, 3, none⟩ = some (.bool true) := by rw [Lst.at_ q1]; rfl
  obtain ⟨Y, hY⟩ : ∃ Y, ((w2.setCell ⟨w.heap.size, 3, none⟩ (.bool false)).setCell ⟨w.heap.size, 4, none⟩ (.int .u64 0)) = Y := ⟨_, rfl⟩
  have y1 : Lst Y w.heap.size (dnL o false A n c false 0 K) := by rw [← hY]; exact (Lst.set1 (Lst.set1 q1 _ _) _ _)
  have ky : Kept (· = w.heap.size) w2 Y := by rw [← hY]; exact (Kept.set_ (D := (· = w.heap.size)) _ _ _ rfl).trans (Kept.set_ _ _ _ rfl)
  have y2 : Lst Y (w.heap.size + 1) zeroN := ky.blk q2 (by omega)
  have y3 : Below w.heap.size w Y := q3.trans (ky.below q3.size (fun i e => by omega))
  have HY := Lib.hid hY
  obtain ⟨u0, d0⟩ : ∃ u, w2.cell? ⟨w.heap.size, 3, none⟩ = some u := Option.isSome_iff_exists.1 (Lst.isSome q1 (by rw [dnL_length]; omega))
  have f0 : w2.frozen? ⟨w.heap.size, 3, none⟩ = false := Blk.fz q1 _
  obtain ⟨u1, d1⟩ : ∃ u, w2.cell? ⟨w.heap.size, 4, none⟩ = some u := Option.isSome_iff_exists.1 (Lst.isSome q1 (by rw [dnL_length]; omega))
  have f1 : w2.frozen? ⟨w.heap.size, 4, none⟩ = false := Blk.fz q1 _
  clear hY ky q2 q3
  obtain ⟨X2, hX2⟩ : ∃ X2, X2 = Y.setCells (w.heap.size + 1) 0 (dnL o false A n c false 0 K).toArray.toList := ⟨_, rfl⟩
  have BK : Lst X2 (w.heap.size + 1) (dnL o false A n c false 0 K) := by rw [hX2]; exact dn_over y2 zeroN_length dn_is
  have HB := Lib.hid (show Below w.heap.size w X2 by rw [hX2]; exact back_below y3 _ y3.size)
  have HLd := Lib.hid (Lst.all y1)
  have HTh := Lib.hid (Lst.there y2 (o := 0) (n := (dnL o false A n c false 0 K).toArray.size) (by rw [zeroN_length]; simp [dnL_length]))
  have HRT := Lib.hid (fun (tmps : Array Value) (hp : tmps.getD 4 undef = .pointer (some ⟨w.heap.size + 1, 0, none⟩)) => dn_ret Tryz.f51 (u := 5) rfl tmps BK dn_is hp)
  have HSL := Lib.hid (show Dn (dnL o false A n c false 0 K) from dn_is)
  have HX2 := Lib.hid hX2
  clear hX2 BK h2 HF HSz HC HR1 S1 s0 q1
  obtain ⟨L', hL'⟩ : ∃ L', dnL o false A n c false 0 K = L' := ⟨_, rfl⟩
  rw [hL'] at HX2 HLd HTh HRT HSL
  have EQ := Lib.hid hL'
  clear hL'
  go_upto_region 8 with fail
  rw [HY.out]
  go_wp2_with (first
    | (refine wpList_load_mid rfl 59 (.tmp 2) rfl w.heap.size 0 rfl L' _ HLd.out Tryz.underlying59 rfl HSL.out.sz ?_)
    | (refine wpList_store_mid rfl 59 (.tmp 4) (.tmp 20) rfl (w.heap.size + 1) 0 L'.toArray rfl rfl HTh.out HSL.out.szA HSL.out.all1 ?_; rw [← HX2.out]))
  (try simp only [Exit.inBlock, Exit.then])
  refine bodyPost_ret (HRT.out _ (by rfl)) (by rfl) ?_
  exact ⟨by rw [← EQ.out]; first | rfl | (rw [← HL.out]; rfl), HB.out⟩
set_option maxRecDepth 100000 in
set_option maxHeartbeats 1000000 in
theorem rdsetkid_no (q : Int) (b : UInt8) (j : Int) (hm : mineB o q = false) (w : World) : Calls Tryz.prog 52 #[.agg (dnL o lf A n c hs v K).toArray, .int .u64 q, .int .u8 (b.toNat : Int), .int .i64 j] w fun e w' =>
    e = .returned (.tuple #[.agg (dnL o lf A n c hs v K).toArray, .int .i64 11]) ∧ Below w.heap.size w w' := by
  have HC := Lib.hid (fun (V : World) => rmine_any (dnL o lf A n c hs v K) o q rfl V)
  rw [hm] at HC
  have HSz := Lib.hid (dn_is (o := o) (lf := lf) (A := A) (n := n) (c := c) (hs := hs) (v := v) (K := K)).sz
  obtain ⟨W0, hW0, l0, b0, s0⟩ := dn_box (dnL o lf A n c hs v K) w
  obtain ⟨W1, hW1, l1, b1, s1⟩ := dn_box zeroN W0
  have k1 := Blk.below l0 b1 (by omega)
  have bb := b0.trans (b1.mono b0.size)
  rw [s0] at l1
  have HF := Lib.hid (fun (V : World) (h : Below W1.heap.size W1 V) => show Lst V w.heap.size (dnL o lf A n c hs v K) ∧ Lst V (w.heap.size + 1) zeroN ∧ Below w.heap.size w V from ⟨Blk.below k1 h (Blk.lt k1), Blk.below l1 h (Blk.lt l1), bb.trans (h.mono bb.size)⟩)
  have HR1 := Lib.hid (Lst.all k1)
  have S1 := Lib.hid (show W1.heap.size = w.heap.size + 1 + 1 by rw [s1, s0])
  have HW1 := Lib.hid hW1
  have HZ0 := Lib.hid dn_zero
  clear l0 b0 l1 b1 k1 bb hm s1 hW1
  obtain ⟨L, hL⟩ : ∃ L, dnL o lf A n c hs v K = L := ⟨_, rfl⟩
  have HL := Lib.hid hL
  rw [hL] at HC HSz HR1 hW0 HF
  rw [hL]
  clear hL
  generalize hzs : zeroN.toArray = zs at HZ0 HW1
  clear hzs
  go_enter Tryz.func52, Tryz.ntmps52
  go_upto_region 1 with (refine wpList_alloc_z rfl 59 rfl zs HZ0.out ?_)
  try rw [hW0]
  try rw [HW1.out]
  clear hW0 HW1
  go_wp2_with (refine wpList_load_mid rfl 59 (.tmp 4) rfl w.heap.size 0 rfl L _ HR1.out Tryz.underlying59 rfl HSz.out ?_)
  (with_reducible refine (HC.out _).mono ?_)
  rintro e w2 ⟨rfl, h2⟩
  obtain ⟨q1, q2, q3⟩ := HF.out w2 h2
  rw [← HL.out] at q1
  obtain ⟨X2, hX2⟩ : ∃ X2, X2 = w2.setCells (w.heap.size + 1) 0 (dnL o lf A n c hs v K).toArray.toList := ⟨_, rfl⟩
  have BK : Lst X2 (w.heap.size + 1) (dnL o lf A n c hs v K) := by rw [hX2]; exact dn_over q2 zeroN_length dn_is
  have HB := Lib.hid (show Below w.heap.size w X2 by rw [hX2]; exact back_below q3 _ q3.size)
  have HLd := Lib.hid (Lst.all q1)
  have HTh := Lib.hid (Lst.there q2 (o := 0) (n := (dnL o lf A n c hs v K).toArray.size) (by rw [zeroN_length]; simp [dnL_length]))
  have HRT := Lib.hid (fun (tmps : Array Value) (hp : tmps.getD 8 undef = .pointer (some ⟨w.heap.size + 1, 0, none⟩)) => dn_ret Tryz.f52 (u := 9) rfl tmps BK dn_is hp)
  have HSL := Lib.hid (show Dn (dnL o lf A n c hs v K) from dn_is)
  have HX2 := Lib.hid hX2
  clear hX2 BK h2 HF HSz HC HR1 S1 s0 q1
  obtain ⟨L', hL'⟩ : ∃ L', dnL o lf A n c hs v K = L' := ⟨_, rfl⟩
  rw [hL'] at HX2 HLd HTh HRT HSL
  have EQ := Lib.hid hL'
  clear hL'
  go_wp2_with (first
    | (refine wpList_load_mid rfl 59 (.tmp 4) rfl w.heap.size 0 rfl L' _ HLd.out Tryz.underlying59 rfl HSL.out.sz ?_)
    | (refine wpList_store_mid rfl 59 (.tmp 8) (.tmp 14) rfl (w.heap.size + 1) 0 L'.toArray rfl rfl HTh.out HSL.out.szA HSL.out.all1 ?_; rw [← HX2.out]))
  (try simp only [Exit.inBlock, Exit.then])
  refine bodyPost_ret (HRT.out _ (by rfl)) (by rfl) ?_
  exact ⟨by rw [← EQ.out]; first | rfl | (rw [← HL.out]; rfl), HB.out⟩
set_option maxRecDepth 100000 in
set_option maxHeartbeats 1000000 in
theorem rdsetkid_leaf (q : Int) (b : UInt8) (j : Int) (hm : mineB o q = true) (w : World) : Calls Tryz.prog 52 #[.agg (dnL o true A n c hs v K).toArray, .int .u64 q, .int .u8 (b.toNat : Int), .int .i64 j] w fun e w' =>
    e = .returned (.tuple #[.agg (dnL o true A n c hs v K).toArray, .int .i64 9]) ∧ Below w.heap.size w w' := by
  have HC := Lib.hid (fun (V : World) => rmine_any (dnL o true A n c hs v K) o q rfl V)
  rw [hm] at HC
  have HSz := Lib.hid (dn_is (o := o) (lf := true) (A := A) (n := n) (c := c) (hs := hs) (v := v) (K := K)).sz
  obtain ⟨W0, hW0, l0, b0, s0⟩ := dn_box (dnL o true A n c hs v K) w
  obtain ⟨W1, hW1, l1, b1, s1⟩ := dn_box zeroN W0
  have k1 := Blk.below l0 b1 (by omega)
  have bb := b0.trans (b1.mono b0.size)
  rw [s0] at l1
  have HF := Lib.hid (fun (V : World) (h : Below W1.heap.size W1 V) => show Lst V w.heap.size (dnL o true A n c hs v K) ∧ Lst V (w.heap.size + 1) zeroN ∧ Below w.heap.size w V from ⟨Blk.below k1 h (Blk.lt k1), Blk.below l1 h (Blk.lt l1), bb.trans (h.mono bb.size)⟩)
  have HR1 := Lib.hid (Lst.all k1)
  have S1 := Lib.hid (show W1.heap.size = w.heap.size + 1 + 1 by rw [s1, s0])
  have HW1 := Lib.hid hW1
  have HZ0 := Lib.hid dn_zero
  clear l0 b0 l1 b1 k1 bb hm s1 hW1
  obtain ⟨L, hL⟩ : ∃ L, dnL o true A n c hs v K = L := ⟨_, rfl⟩
  have HL := Lib.hid hL
  rw [hL] at HC HSz HR1 hW0 HF
  rw [hL]
  clear hL
  generalize hzs : zeroN.toArray = zs at HZ0 HW1
  clear hzs
  go_enter Tryz.func52, Tryz.ntmps52
  go_upto_region 1 with (refine wpList_alloc_z rfl 59 rfl zs HZ0.out ?_)
  try rw [hW0]
  try rw [HW1.out]
  clear hW0 HW1
  go_wp2_with (refine wpList_load_mid rfl 59 (.tmp 4) rfl w.heap.size 0 rfl L _ HR1.out Tryz.underlying59 rfl HSz.out ?_)
  (with_reducible refine (HC.out _).mono ?_)
  rintro e w2 ⟨rfl, h2⟩
  obtain ⟨q1, q2, q3⟩ := HF.out w2 h2
  rw [← HL.out] at q1
  have c1 : w2.cell? ⟨w.heap.size, 1, none⟩ = some (.bool true) := by rw [Lst.at_ q1]; rfl
  obtain ⟨X2, hX2⟩ : ∃ X2, X2 = w2.setCells (w.heap.size + 1) 0 (dnL o true A n c hs v K).toArray.toList := ⟨_, rfl⟩
  have BK : Lst X2 (w.heap.size + 1) (dnL o true A n c hs v K) := by rw [hX2]; exact dn_over q2 zeroN_length dn_is
  have HB := Lib.hid (show Below w.heap.size w X2 by rw [hX2]; exact back_below q3 _ q3.size)
  have HLd := Lib.hid (Lst.all q1)
  have HTh := Lib.hid (Lst.there q2 (o := 0) (n := (dnL o true A n c hs v K).toArray.size) (by rw [zeroN_length]; simp [dnL_length]))
  have HRT := Lib.hid (fun (tmps : Array Value) (hp : tmps.getD 8 undef = .pointer (some ⟨w.heap.size + 1, 0, none⟩)) => dn_ret Tryz.f52 (u := 9) rfl tmps BK dn_is hp)
  have HSL := Lib.hid (show Dn (dnL o true A n c hs v K) from dn_is)
  have HX2 := Lib.hid hX2
  clear hX2 BK h2 HF HSz HC HR1 S1 s0 q1
  obtain ⟨L', hL'⟩ : ∃ L', dnL o true A n c hs v K = L' := ⟨_, rfl⟩
  rw [hL'] at HX2 HLd HTh HRT HSL
  have EQ := Lib.hid hL'
  clear hL'
  go_wp2_with (first
    | (refine wpList_load_mid rfl 59 (.tmp 4) rfl w.heap.size 0 rfl L' _ HLd.out Tryz.underlying59 rfl HSL.out.sz ?_)
    | (refine wpList_store_mid rfl 59 (.tmp 8) (.tmp 17) rfl (w.heap.size + 1) 0 L'.toArray rfl rfl HTh.out HSL.out.szA HSL.out.all1 ?_; rw [← HX2.out]))
  (try simp only [Exit.inBlock, Exit.then])
  refine bodyPost_ret (HRT.out _ (by rfl)) (by rfl) ?_
  exact ⟨by rw [← EQ.out]; first | rfl | (rw [← HL.out]; rfl), HB.out⟩
set_option maxRecDepth 100000 in
set_option maxHeartbeats 1000000 in
theorem rdsetkid_nil (q : Int) (b : UInt8) (hm : mineB o q = true) (w : World) : Calls Tryz.prog 52 #[.agg (dnL o false A n c hs v K).toArray, .int .u64 q, .int .u8 (b.toNat : Int), .int .i64 0] w fun e w' =>
    e = .returned (.tuple #[.agg (dnL o false A n c hs v K).toArray, .int .i64 1]) ∧ Below w.heap.size w w' := by
  have HC := Lib.hid (fun (V : World) => rmine_any (dnL o false A n c hs v K) o q rfl V)
  rw [hm] at HC
  have HSz := Lib.hid (dn_is (o := o) (lf := false) (A := A) (n := n) (c := c) (hs := hs) (v := v) (K := K)).sz
  obtain ⟨W0, hW0, l0, b0, s0⟩ := dn_box (dnL o false A n c hs v K) w
  obtain ⟨W1, hW1, l1, b1, s1⟩ := dn_box zeroN W0
  have k1 := Blk.below l0 b1 (by omega)
  have bb := b0.trans (b1.mono b0.size)
  rw [s0] at l1
  have HF := Lib.hid (fun (V : World) (h : Below W1.heap.size W1 V) => show Lst V w.heap.size (dnL o false A n c hs v K) ∧ Lst V (w.heap.size + 1) zeroN ∧ Below w.heap.size w V from ⟨Blk.below k1 h (Blk.lt k1), Blk.below l1 h (Blk.lt l1), bb.trans (h.mono bb.size)⟩)
  have HR1 := Lib.hid (Lst.all k1)
  have S1 := Lib.hid (show W1.heap.size = w.heap.size + 1 + 1 by rw [s1, s0])
  have HW1 := Lib.hid hW1
  have HZ0 := Lib.hid dn_zero
  clear l0 b0 l1 b1 k1 bb hm s1 hW1
  obtain ⟨L, hL⟩ : ∃ L, dnL o false A n c hs v K = L := ⟨_, rfl⟩
  have HL := Lib.hid hL
  rw [hL] at HC HSz HR1 hW0 HF
  rw [hL]
  clear hL
  generalize hzs : zeroN.toArray = zs at HZ0 HW1
  clear hzs
  go_enter Tryz.func52, Tryz.ntmps52
  go_upto_region 1 with (refine wpList_alloc_z rfl 59 rfl zs HZ0.out ?_)
  try rw [hW0]
  try rw [HW1.out]
  clear hW0 HW1
  go_wp2_with (refine wpList_load_mid rfl 59 (.tmp 4) rfl w.heap.size 0 rfl L _ HR1.out Tryz.underlying59 rfl HSz.out ?_)
  (with_reducible refine (HC.out _).mono ?_)
  rintro e w2 ⟨rfl, h2⟩
  obtain ⟨q1, q2, q3⟩ := HF.out w2 h2
  rw [← HL.out] at q1
  have c1 : w2.cell? ⟨w.heap.size, 1, none⟩ = some (.bool false) := by rw [Lst.at_ q1]; rfl
  obtain ⟨X2, hX2⟩ : ∃ X2, X2 = w2.setCells (w.heap.size + 1) 0 (dnL o false A n c hs v K).toArray.toList := ⟨_, rfl⟩
  have BK : Lst X2 (w.heap.size + 1) (dnL o false A n c hs v K) := by rw [hX2]; exact dn_over q2 zeroN_length dn_is
  have HB := Lib.hid (show Below w.heap.size w X2 by rw [hX2]; exact back_below q3 _ q3.size)
  have HLd := Lib.hid (Lst.all q1)
  have HTh := Lib.hid (Lst.there q2 (o := 0) (n := (dnL o false A n c hs v K).toArray.size) (by rw [zeroN_length]; simp [dnL_length]))
  have HRT := Lib.hid (fun (tmps : Array Value) (hp : tmps.getD 8 undef = .pointer (some ⟨w.heap.size + 1, 0, none⟩)) => dn_ret Tryz.f52 (u := 9) rfl tmps BK dn_is hp)
  have HSL := Lib.hid (show Dn (dnL o false A n c hs v K) from dn_is)
  have HX2 := Lib.hid hX2
  clear hX2 BK h2 HF HSz HC HR1 S1 s0 q1
  obtain ⟨L', hL'⟩ : ∃ L', dnL o false A n c hs v K = L' := ⟨_, rfl⟩
  rw [hL'] at HX2 HLd HTh HRT HSL
  have EQ := Lib.hid hL'
  clear hL'
  go_wp2_with (first
    | (refine wpList_load_mid rfl 59 (.tmp 4) rfl w.heap.size 0 rfl L' _ HLd.out Tryz.underlying59 rfl HSL.out.sz ?_)
    | (refine wpList_store_mid rfl 59 (.tmp 8) (.tmp 20) rfl (w.heap.size + 1) 0 L'.toArray rfl rfl HTh.out HSL.out.szA HSL.out.all1 ?_; rw [← HX2.out]))
  (try simp only [Exit.inBlock, Exit.then])
  refine bodyPost_ret (HRT.out _ (by rfl)) (by rfl) ?_
  exact ⟨by rw [← EQ.out]; first | rfl | (rw [← HL.out]; rfl), HB.out⟩
set_option maxRecDepth 100000 in
set_option maxHeartbeats 1000000 in
theorem rdsetkid_yes (q : Int) (b : UInt8) (j : Int) (hm : mineB o q = true) (hj : 0 < j) (w : World) : Calls Tryz.prog 52 #[.agg (dnL o false A n c hs v K).toArray, .int .u64 q, .int .u8 (b.toNat : Int), .int .i64 j] w fun e w' =>
    e = .returned (.tuple #[.agg (dnL o false A n c hs v (fun i => if i = b.toNat then j else K i)).toArray, .int .i64 0]) ∧ Below w.heap.size w w' := by
  have HC := Lib.hid (fun (V : World) => rmine_any (dnL o false A n c hs v K) o q rfl V)
  rw [hm] at HC
  have HSz := Lib.hid (dn_is (o := o) (lf := false) (A := A) (n := n) (c := c) (hs := hs) (v := v) (K := K)).sz
  obtain ⟨W0, hW0, l0, b0, s0⟩ := dn_box (dnL o false A n c hs v K) w
  obtain ⟨W1, hW1, l1, b1, s1⟩ := dn_box zeroN W0
  have k1 := Blk.below l0 b1 (by omega)
  have bb := b0.trans (b1.mono b0.size)
  rw [s0] at l1
  have HF := Lib.hid (fun (V : World) (h : Below W1.heap.size W1 V) => show Lst V w.heap.size (dnL o false A n c hs v K) ∧ Lst V (w.heap.size + 1) zeroN ∧ Below w.heap.size w V from ⟨Blk.below k1 h (Blk.lt k1), Blk.below l1 h (Blk.lt l1), bb.trans (h.mono bb.size)⟩)
  have HR1 := Lib.hid (Lst.all k1)
  have S1 := Lib.hid (show W1.heap.size = w.heap.size + 1 + 1 by rw [s1, s0])
  have HW1 := Lib.hid hW1
  have HZ0 := Lib.hid dn_zero
  clear l0 b0 l1 b1 k1 bb hm s1 hW1
  obtain ⟨L, hL⟩ : ∃ L, dnL o false A n c hs v K = L := ⟨_, rfl⟩
  have HL := Lib.hid hL
  rw [hL] at HC HSz HR1 hW0 HF
  rw [hL]
  clear hL
  generalize hzs : zeroN.toArray = zs at HZ0 HW1
  clear hzs
  go_enter Tryz.func52, Tryz.ntmps52
  go_upto_region 1 with (refine wpList_alloc_z rfl 59 rfl zs HZ0.out ?_)
  try rw [hW0]
  try rw [HW1.out]
  clear hW0 HW1
  go_wp2_with (refine wpList_load_mid rfl 59 (.tmp 4) rfl w.heap.size 0 rfl L _ HR1.out Tryz.underlying59 rfl HSz.out ?_)
  (with_reducible refine (HC.out _).mono ?_)
  rintro e w2 ⟨rfl, h2⟩
  obtain ⟨q1, q2, q3⟩ := HF.out w2 h2
  rw [← HL.out] at q1
  have c1 : w2.cell? ⟨w.heap.size, 1, none⟩ = some (.bool false) := by rw [Lst.at_ q1]; rfl
  have blt2 : b.toNat < 256 := b.toNat_lt
  have hbi : (b.toNat : Int) < 256 := by omega
  have ew64 : IntKind.i64.wrap (b.toNat : Int) = (b.toNat : Int) := by rw [IntKind.wrap_i64]; omega
  have ck : w2.cell? ⟨w.heap.size, 5 + b.toNat, none⟩ = some (.int .i64 (K b.toNat)) := by rw [Lst.at_ q1]; exact dnL_kid blt2
  have hj0 : ¬ j = 0 := by omega
  obtain ⟨Y, hY⟩ : ∃ Y, (w2.setCell ⟨w.heap.size, 5 + b.toNat, none⟩ (.int .i64 j)) = Y := ⟨_, rfl⟩
  have y1 : Lst Y w.heap.size (dnL o false A n c hs v (fun i => if i = b.toNat then j else K i)) := by rw [← dnL_setK (K := K) (i := b.toNat) (x := j) rfl, ← hY]; exact (Lst.set1 q1 _ _)
  have ky : Kept (· = w.heap.size) w2 Y := by rw [← hY]; exact Kept.set_ (D := (· = w.heap.size)) _ _ _ rfl
  have y2 : Lst Y (w.heap.size + 1) zeroN := ky.blk q2 (by omega)
  have y3 : Below w.heap.size w Y := q3.trans (ky.below q3.size (fun i e => by omega))
  have HY := Lib.hid hY
  obtain ⟨u0, d0⟩ : ∃ u, w2.cell? ⟨w.heap.size, 5 + b.toNat, none⟩ = some u := Option.isSome_iff_exists.1 (Lst.isSome q1 (by rw [dnL_length]; omega))
  have f0 : w2.frozen? ⟨w.heap.size, 5 + b.toNat, none⟩ = false := Blk.fz q1 _
  clear hY ky q2 q3
  obtain ⟨X2, hX2⟩ : ∃ X2, X2 = Y.setCells (w.heap.size + 1) 0 (dnL o false A n c hs v (fun i => if i = b.toNat then j else K i)).toArray.toList := ⟨_, rfl⟩
  have BK : Lst X2 (w.heap.size + 1) (dnL o false A n c hs v (fun i => if i = b.toNat then j else K i)) := by rw [hX2]; exact dn_over y2 zeroN_length dn_is
  have HB := Lib.hid (show Below w.heap.size w X2 by rw [hX2]; exact back_below y3 _ y3.size)
  have HLd := Lib.hid (Lst.all y1)
  have HTh := Lib.hid (Lst.there y2 (o := 0) (n := (dnL o false A n c hs v (fun i => if i = b.toNat then j else K i)).toArray.size) (by rw [zeroN_length]; simp [dnL_length]))
  have HRT := Lib.hid (fun (tmps : Array Value) (hp : tmps.getD 8 undef = .pointer (some ⟨w.heap.size + 1, 0, none⟩)) => dn_ret Tryz.f52 (u := 9) rfl tmps BK dn_is hp)
  have HSL := Lib.hid (show Dn (dnL o false A n c hs v (fun i => if i = b.toNat then j else K i)) from dn_is)
  have HX2 := Lib.hid hX2
  clear hX2 BK h2 HF HSz HC HR1 S1 s0 q1
  obtain ⟨L', hL'⟩ : ∃ L', dnL o false A n c hs v (fun i => if i = b.toNat then j else K i) = L' := ⟨_, rfl⟩
  rw [hL'] at HX2 HLd HTh HRT HSL
  have EQ := Lib.hid hL'
  clear hL'
  go_upto_region 7 with fail
  try rw [ew64]
  go_upto_region 8 with fail
  rw [HY.out]
  go_wp2_with (first
    | (refine wpList_load_mid rfl 59 (.tmp 4) rfl w.heap.size 0 rfl L' _ HLd.out Tryz.underlying59 rfl HSL.out.sz ?_)
    | (refine wpList_store_mid rfl 59 (.tmp 8) (.tmp 26) rfl (w.heap.size + 1) 0 L'.toArray rfl rfl HTh.out HSL.out.szA HSL.out.all1 ?_; rw [← HX2.out]))
  (try simp only [Exit.inBlock, Exit.then])
  refine bodyPost_ret (HRT.out _ (by rfl)) (by rfl) ?_
  exact ⟨by rw [← EQ.out]; first | rfl | (rw [← HL.out]; rfl), HB.out⟩
set_option maxRecDepth 100000 in
set_option maxHeartbeats 1000000 in
theorem rddropkid_no (q : Int) (b : UInt8) (hm : mineB o q = false) (w : World) : Calls Tryz.prog 54 #[.agg (dnL o lf A n c hs v K).toArray, .int .u64 q, .int .u8 (b.toNat : Int)] w fun e w' =>
    e = .returned (.tuple #[.agg (dnL o lf A n c hs v K).toArray, .int .i64 11]) ∧ Below w.heap.size w w' := by
  have HC := Lib.hid (fun (V : World) => rmine_any (dnL o lf A n c hs v K) o q rfl V)
  rw [hm] at HC
  have HSz := Lib.hid (dn_is (o := o) (lf := lf) (A := A) (n := n) (c := c) (hs := hs) (v := v) (K := K)).sz
  obtain ⟨W0, hW0, l0, b0, s0⟩ := dn_box (dnL o lf A n c hs v K) w
  obtain ⟨W1, hW1, l1, b1, s1⟩ := dn_box zeroN W0
  have k1 := Blk.below l0 b1 (by omega)
  have bb := b0.trans (b1.mono b0.size)
  rw [s0] at l1
  have HF := Lib.hid (fun (V : World) (h : Below W1.heap.size W1 V) => show Lst V w.heap.size (dnL o lf A n c hs v K) ∧ Lst V (w.heap.size + 1) zeroN ∧ Below w.heap.size w V from ⟨Blk.below k1 h (Blk.lt k1), Blk.below l1 h (Blk.lt l1), bb.trans (h.mono bb.size)⟩)
  have HR1 := Lib.hid (Lst.all k1)
  have S1 := Lib.hid (show W1.heap.size = w.heap.size + 1 + 1 by rw [s1, s0])
  have HW1 := Lib.hid hW1
  have HZ0 := Lib.hid dn_zero
  clear l0 b0 l1 b1 k1 bb hm s1 hW1
  obtain ⟨L, hL⟩ : ∃ L, dnL o lf A n c hs v K = L := ⟨_, rfl⟩
  have HL := Lib.hid hL
  rw [hL] at HC HSz HR1 hW0 HF
  rw [hL]
  clear hL
  generalize hzs : zeroN.toArray = zs at HZ0 HW1
  clear hzs
  go_enter Tryz.func54, Tryz.ntmps54
  go_upto_region 1 with (refine wpList_alloc_z rfl 59 rfl zs HZ0.out ?_)
  try rw [hW0]
  try rw [HW1.out]
  clear hW0 HW1
  go_wp2_with (refine wpList_load_mid rfl 59 (.tmp 3) rfl w.heap.size 0 rfl L _ HR1.out Tryz.underlying59 rfl HSz.out ?_)
  (with_reducible refine (HC.out _).mono ?_)
  rintro e w2 ⟨rfl, h2⟩
  obtain ⟨q1, q2, q3⟩ := HF.out w2 h2
  rw [← HL.out] at q1
  obtain ⟨X2, hX2⟩ : ∃ X2, X2 = w2.setCells (w.heap.size + 1) 0 (dnL o lf A n c hs v K).toArray.toList := ⟨_, rfl⟩
  have BK : Lst X2 (w.heap.size + 1) (dnL o lf A n c hs v K) := by rw [hX2]; exact dn_over q2 zeroN_length dn_is
  have HB := Lib.hid (show Below w.heap.size w X2 by rw [hX2]; exact back_below q3 _ q3.size)
  have HLd := Lib.hid (Lst.all q1)
  have HTh := Lib.hid (Lst.there q2 (o := 0) (n := (dnL o lf A n c hs v K).toArray.size) (by rw [zeroN_length]; simp [dnL_length]))
  have HRT := Lib.hid (fun (tmps : Array Value) (hp : tmps.getD 6 undef = .pointer (some ⟨w.heap.size + 1, 0, none⟩)) => dn_ret Tryz.f54 (u := 7) rfl tmps BK dn_is hp)
  have HSL := Lib.hid (show Dn (dnL o lf A n c hs v K) from dn_is)
  have HX2 := Lib.hid hX2
  clear hX2 BK h2 HF HSz HC HR1 S1 s0 q1
  obtain ⟨L', hL'⟩ : ∃ L', dnL o lf A n c hs v K = L' := ⟨_, rfl⟩
  rw [hL'] at HX2 HLd HTh HRT HSL
  have EQ := Lib.hid hL'
  clear hL'
  go_wp2_with (first
    | (refine wpList_load_mid rfl 59 (.tmp 3) rfl w.heap.size 0 rfl L' _ HLd.out Tryz.underlying59 rfl HSL.out.sz ?_)
    | (refine wpList_store_mid rfl 59 (.tmp 6) (.tmp 12) rfl (w.heap.size + 1) 0 L'.toArray rfl rfl HTh.out HSL.out.szA HSL.out.all1 ?_; rw [← HX2.out]))
  (try simp only [Exit.inBlock, Exit.then])
  refine bodyPost_ret (HRT.out _ (by rfl)) (by rfl) ?_
  exact ⟨by rw [← EQ.out]; first | rfl | (rw [← HL.out]; rfl), HB.out⟩
set_option maxRecDepth 100000 in
set_option maxHeartbeats 1000000 in
theorem rddropkid_leaf (q : Int) (b : UInt8) (hm : mineB o q = true) (w : World) : Calls Tryz.prog 54 #[.agg (dnL o true A n c hs v K).toArray, .int .u64 q, .int .u8 (b.toNat : Int)] w fun e w' =>
    e = .returned (.tuple #[.agg (dnL o true A n c hs v K).toArray, .int .i64 9]) ∧ Below w.heap.size w w' := by
  have HC := Lib.hid (fun (V : World) => rmine_any (dnL o true A n c hs v K) o q rfl V)
  rw [hm] at HC
  have HSz := Lib.hid (dn_is (o := o) (lf := true) (A := A) (n := n) (c := c) (hs := hs) (v := v) (K := K)).sz
  obtain ⟨W0, hW0, l0, b0, s0⟩ := dn_box (dnL o true A n c hs v K) w
  obtain ⟨W1, hW1, l1, b1, s1⟩ := dn_box zeroN W0
  have k1 := Blk.below l0 b1 (by omega)
  have bb := b0.trans (b1.mono b0.size)
  rw [s0] at l1
  have HF := Lib.hid (fun (V : World) (h : Below W1.heap.size W1 V) => show Lst V w.heap.size (dnL o true A n c hs v K) ∧ Lst V (w.heap.size + 1) zeroN ∧ Below w.heap.size w V from ⟨Blk.below k1 h (Blk.lt k1), Blk.below l1 h (Blk.lt l1), bb.trans (h.mono bb.size)⟩)
  have HR1 := Lib.hid (Lst.all k1)
  have S1 := Lib.hid (show W1.heap.size = w.heap.size + 1 + 1 by rw [s1, s0])
  have HW1 := Lib.hid hW1
  have HZ0 := Lib.hid dn_zero
  clear l0 b0 l1 b1 k1 bb hm s1 hW1
  obtain ⟨L, hL⟩ : ∃ L, dnL o true A n c hs v K = L := ⟨_, rfl⟩
  have HL := Lib.hid hL
  rw [hL] at HC HSz HR1 hW0 HF
  rw [hL]
  clear hL
  generalize hzs : zeroN.toArray = zs at HZ0 HW1
  clear hzs
  go_enter Tryz.func54, Tryz.ntmps54
  go_upto_region 1 with (refine wpList_alloc_z rfl 59 rfl zs HZ0.out ?_)
  try rw [hW0]
  try rw [HW1.out]
  clear hW0 HW1
  go_wp2_with (refine wpList_load_mid rfl 59 (.tmp 3) rfl w.heap.size 0 rfl L _ HR1.out Tryz.underlying59 rfl HSz.out ?_)
  (with_reducible refine (HC.out _).mono ?_)
  rintro e w2 ⟨rfl, h2⟩
  obtain ⟨q1, q2, q3⟩ := HF.out w2 h2
  rw [← HL.out] at q1
  have c1 : w2.cell? ⟨w.heap.size, 1, none⟩ = some (.bool true) := by rw [Lst.at_ q1]; rfl
  obtain ⟨X2, hX2⟩ : ∃ X2, X2 = w2.setCells (w.heap.size + 1) 0 (dnL o true A n c hs v K).toArray.toList := ⟨_, rfl⟩
  have BK : Lst X2 (w.heap.size + 1) (dnL o true A n c hs v K) := by rw [hX2]; exact dn_over q2 zeroN_length dn_is
  have HB := Lib.hid (show Below w.heap.size w X2 by rw [hX2]; exact back_below q3 _ q3.size)
  have HLd := Lib.hid (Lst.all q1)
  have HTh := Lib.hid (Lst.there q2 (o := 0) (n := (dnL o true A n c hs v K).toArray.size) (by rw [zeroN_length]; simp [dnL_length]))
  have HRT := Lib.hid (fun (tmps : Array Value) (hp : tmps.getD 6 undef = .pointer (some ⟨w.heap.size + 1, 0, none⟩)) => dn_ret Tryz.f54 (u := 7) rfl tmps BK dn_is hp)
  have HSL := Lib.hid (show Dn (dnL o true A n c hs v K) from dn_is)
  have HX2 := Lib.hid hX2
  clear hX2 BK h2 HF HSz HC HR1 S1 s0 q1
  obtain ⟨L', hL'⟩ : ∃ L', dnL o true A n c hs v K = L' := ⟨_, rfl⟩
  rw [hL'] at HX2 HLd HTh HRT HSL
  have EQ := Lib.hid hL'
  clear hL'
  go_wp2_with (first
    | (refine wpList_load_mid rfl 59 (.tmp 3) rfl w.heap.size 0 rfl L' _ HLd.out Tryz.underlying59 rfl HSL.out.sz ?_)
    | (refine wpList_store_mid rfl 59 (.tmp 6) (.tmp 15) rfl (w.heap.size + 1) 0 L'.toArray rfl rfl HTh.out HSL.out.szA HSL.out.all1 ?_; rw [← HX2.out]))
  (try simp only [Exit.inBlock, Exit.then])
  refine bodyPost_ret (HRT.out _ (by rfl)) (by rfl) ?_
  exact ⟨by rw [← EQ.out]; first | rfl | (rw [← HL.out]; rfl), HB.out⟩
set_option maxRecDepth 100000 in
set_option maxHeartbeats 1000000 in
theorem rddropkid_none (q : Int) (b : UInt8) (hm : mineB o q = true) (hK : K b.toNat = 0) (w : World) : Calls Tryz.prog 54 #[.agg (dnL o false A n c hs v K).toArray, .int .u64 q, .int .u8 (b.toNat : Int)] w fun e w' =>
    e = .returned (.tuple #[.agg (dnL o false A n c hs v K).toArray, .int .i64 6]) ∧ Below w.heap.size w w' := by
  have HC := Lib.hid (fun (V : World) => rmine_any (dnL o false A n c hs v K) o q rfl V)
  rw [hm] at HC
  have HSz := Lib.hid (dn_is (o := o) (lf := false) (A := A) (n := n) (c := c) (hs := hs) (v := v) (K := K)).sz
  obtain ⟨W0, hW0, l0, b0, s0⟩ := dn_box (dnL o false A n c hs v K) w
  obtain ⟨W1, hW1, l1, b1, s1⟩ := dn_box zeroN W0
  have k1 := Blk.below l0 b1 (by omega)
  have bb := b0.trans (b1.mono b0.size)
  rw [s0] at l1
  have HF := Lib.hid (fun (V : World) (h : Below W1.heap.size W1 V) => show Lst V w.heap.size (dnL o false A n c hs v K) ∧ Lst V (w.heap.size + 1) zeroN ∧ Below w.heap.size w V from ⟨Blk.below k1 h (Blk.lt k1), Blk.below l1 h (Blk.lt l1), bb.trans (h.mono bb.size)⟩)
  have HR1 := Lib.hid (Lst.all k1)
  have S1 := Lib.hid (show W1.heap.size = w.heap.size + 1 + 1 by rw [s1, s0])
  have HW1 := Lib.hid hW1
  have HZ0 := Lib.hid dn_zero
  clear l0 b0 l1 b1 k1 bb hm s1 hW1
  obtain ⟨L, hL⟩ : ∃ L, dnL o false A n c hs v K = L := ⟨_, rfl⟩
  have HL := Lib.hid hL
  rw [hL] at HC HSz HR1 hW0 HF
  rw [hL]
  clear hL
  generalize hzs : zeroN.toArray = zs at HZ0 HW1
  clear hzs
  go_enter Tryz.func54, Tryz.ntmps54
  go_upto_region 1 with (refine wpList_alloc_z rfl 59 rfl zs HZ0.out ?_)
  try rw [hW0]
  try rw [HW1.out]
  clear hW0 HW1
  go_wp2_with (refine wpList_load_mid rfl 59 (.tmp 3) rfl w.heap.size 0 rfl L _ HR1.out Tryz.underlying59 rfl HSz.out ?_)
  (with_reducible refine (HC.out _).mono ?_)
  rintro e w2 ⟨rfl, h2⟩
  obtain ⟨q1, q2, q3⟩ := HF.out w2 h2
  rw [← HL.out] at q1
  have c1 : w2.cell? ⟨w.heap.size, 1, none⟩ = some (.bool false) := by rw [Lst.at_ q1]; rfl
  have blt2 : b.toNat < 256 := b.toNat_lt
  have hbi : (b.toNat : Int) < 256 := by omega
  have ew64 : IntKind.i64.wrap (b.toNat : Int) = (b.toNat : Int) := by rw [IntKind.wrap_i64]; omega
  have ck : w2.cell? ⟨w.heap.size, 5 + b.toNat, none⟩ = some (.int .i64 (K b.toNat)) := by rw [Lst.at_ q1]; exact dnL_kid blt2
  rw [hK] at ck
  obtain ⟨X2, hX2⟩ : ∃ X2, X2 = w2.setCells (w.heap.size + 1) 0 (dnL o false A n c hs v K).toArray.toList := ⟨_, rfl⟩
  have BK : Lst X2 (w.heap.size + 1) (dnL o false A n c hs v K) := by rw [hX2]; exact dn_over q2 zeroN_length dn_is
  have HB := Lib.hid (show Below w.heap.size w X2 by rw [hX2]; exact back_below q3 _ q3.size)
  have HLd := Lib.hid (Lst.all q1)
  have HTh := Lib.hid (Lst.there q2 (o := 0) (n := (dnL o false A n c hs v K).toArray.size) (by rw [zeroN_length]; simp [dnL_length]))
  have HRT := Lib.hid (fun (tmps : Array Value) (hp : tmps.getD 6 undef = .pointer (some ⟨w.heap.size + 1, 0, none⟩)) => dn_ret Tryz.f54 (u := 7) rfl tmps BK dn_is hp)
  have HSL := Lib.hid (show Dn (dnL o false A n c hs v K) from dn_is)
  have HX2 := Lib.hid hX2
  clear hX2 BK h2 HF HSz HC HR1 S1 s0 q1
  obtain ⟨L', hL'⟩ : ∃ L', dnL o false A n c hs v K = L' := ⟨_, rfl⟩
  rw [hL'] at HX2 HLd HTh HRT HSL
  have EQ := Lib.hid hL'
  clear hL'
  go_wp2_with (first
    | (refine wpList_load_mid rfl 59 (.tmp 3) rfl w.heap.size 0 rfl L' _ HLd.out Tryz.underlying59 rfl HSL.out.sz ?_)
    | (refine wpList_store_mid rfl 59 (.tmp 6) (.tmp 22) rfl (w.heap.size + 1) 0 L'.toArray rfl rfl HTh.out HSL.out.szA HSL.out.all1 ?_; rw [← HX2.out]))
  (try simp only [Exit.inBlock, Exit.then])
  refine bodyPost_ret (HRT.out _ (by rfl)) (by rfl) ?_
  exact ⟨by rw [← EQ.out]; first | rfl | (rw [← HL.out]; rfl), HB.out⟩
set_option maxRecDepth 100000 in
set_option maxHeartbeats 1000000 in
theorem rddropkid_yes (q : Int) (b : UInt8) (hm : mineB o q = true) (hK : 0 < K b.toNat) (w : World) : Calls Tryz.prog 54 #[.agg (dnL o false A n c hs v K).toArray, .int .u64 q, .int .u8 (b.toNat : Int)] w fun e w' =>
    e = .returned (.tuple #[.agg (dnL o false A n c hs v (fun i => if i = b.toNat then 0 else K i)).toArray, .int .i64 0]) ∧ Below w.heap.size w w' := by
  have HC := Lib.hid (fun (V : World) => rmine_any (dnL o false A n c hs v K) o q rfl V)
  rw [hm] at HC
  have HSz := Lib.hid (dn_is (o := o) (lf := false) (A := A) (n := n) (c := c) (hs := hs) (v := v) (K := K)).sz
  obtain ⟨W0, hW0, l0, b0, s0⟩ := dn_box (dnL o false A n c hs v K) w
  obtain ⟨W1, hW1, l1, b1, s1⟩ := dn_box zeroN W0
  have k1 := Blk.below l0 b1 (by omega)
  have bb := b0.trans (b1.mono b0.size)
  rw [s0] at l1
  have HF := Lib.hid (fun (V : World) (h : Below W1.heap.size W1 V) => show Lst V w.heap.size (dnL o false A n c hs v K) ∧ Lst V (w.heap.size + 1) zeroN ∧ Below w.heap.size w V from ⟨Blk.below k1 h (Blk.lt k1), Blk.below l1 h (Blk.lt l1), bb.trans (h.mono bb.size)⟩)
  have HR1 := Lib.hid (Lst.all k1)
  have S1 := Lib.hid (show W1.heap.size = w.heap.size + 1 + 1 by rw [s1, s0])
  have HW1 := Lib.hid hW1
  have HZ0 := Lib.hid dn_zero
  clear l0 b0 l1 b1 k1 bb hm s1 hW1
  obtain ⟨L, hL⟩ : ∃ L, dnL o false A n c hs v K = L := ⟨_, rfl⟩
  have HL := Lib.hid hL
  rw [hL] at HC HSz HR1 hW0 HF
  rw [hL]
  clear hL
  generalize hzs : zeroN.toArray = zs at HZ0 HW1
  clear hzs
  go_enter Tryz.func54, Tryz.ntmps54
  go_upto_region 1 with (refine wpList_alloc_z rfl 59 rfl zs HZ0.out ?_)
  try rw [hW0]
  try rw [HW1.out]
  clear hW0 HW1
  go_wp2_with (refine wpList_load_mid rfl 59 (.tmp 3) rfl w.heap.size 0 rfl L _ HR1.out Tryz.underlying59 rfl HSz.out ?_)
  (with_reducible refine (HC.out _).mono ?_)
  rintro e w2 ⟨rfl, h2⟩
  obtain ⟨q1, q2, q3⟩ := HF.out w2 h2
  rw [← HL.out] at q1
  have c1 : w2.cell? ⟨w.heap.size, 1, none⟩ = some (.bool false) := by rw [Lst.at_ q1]; rfl
  have blt2 : b.toNat < 256 := b.toNat_lt
  have hbi : (b.toNat : Int) < 256 := by omega
  have ew64 : IntKind.i64.wrap (b.toNat : Int) = (b.toNat : Int) := by rw [IntKind.wrap_i64]; omega
  have ck : w2.cell? ⟨w.heap.size, 5 + b.toNat, none⟩ = some (.int .i64 (K b.toNat)) := by rw [Lst.at_ q1]; exact dnL_kid blt2
  obtain ⟨kk, hkk⟩ : ∃ kk, K b.toNat = kk := ⟨_, rfl⟩
  rw [hkk] at ck hK
  clear hkk
  have hk0 : ¬ kk = 0 := by omega
  obtain ⟨Y, hY⟩ : ∃ Y, (w2.setCell ⟨w.heap.size, 5 + b.toNat, none⟩ (.int .i64 0)) = Y := ⟨_, rfl⟩
  have y1 : Lst Y w.heap.size (dnL o false A n c hs v (fun i => if i = b.toNat then 0 else K i)) := by rw [← dnL_setK (K := K) (i := b.toNat) (x := 0) rfl, ← hY]; exact (Lst.set1 q1 _ _)
  have ky : Kept (· = w.heap.size) w2 Y := by rw [← hY]; exact Kept.set_ (D := (· = w.heap.size)) _ _ _ rfl
  have y2 : Lst Y (w.heap.size + 1) zeroN := ky.blk q2 (by omega)
  have y3 : Below w.heap.size w Y := q3.trans (ky.below q3.size (fun i e => by omega))
  have HY := Lib.hid hY
  obtain ⟨u0, d0⟩ : ∃ u, w2.cell? ⟨w.heap.size, 5 + b.toNat, none⟩ = some u := Option.isSome_iff_exists.1 (Lst.isSome q1 (by rw [dnL_length]; omega))
  have f0 : w2.frozen? ⟨w.heap.size, 5 + b.toNat, none⟩ = false := Blk.fz q1 _
  clear hY ky q2 q3
  obtain ⟨X2, hX2⟩ : ∃ X2, X2 = Y.setCells (w.heap.size + 1) 0 (dnL o false A n c hs v (fun i => if i = b.toNat then 0 else K i)).toArray.toList := ⟨_, rfl⟩
  have BK : Lst X2 (w.heap.size + 1) (dnL o false A n c hs v (fun i => if i = b.toNat then 0 else K i)) := by rw [hX2]; exact dn_over y2 zeroN_length dn_is
  have HB := Lib.hid (show Below w.heap.size w X2 by rw [hX2]; exact back_below y3 _ y3.size)
  have HLd := Lib.hid (Lst.all y1)
  have HTh := Lib.hid (Lst.there y2 (o := 0) (n := (dnL o false A n c hs v (fun i => if i = b.toNat then 0 else K i)).toArray.size) (by rw [zeroN_length]; simp [dnL_length]))
  have HRT := Lib.hid (fun (tmps : Array Value) (hp : tmps.getD 6 undef = .pointer (some ⟨w.heap.size + 1, 0, none⟩)) => dn_ret Tryz.f54 (u := 7) rfl tmps BK dn_is hp)
  have HSL := Lib.hid (show Dn (dnL o false A n c hs v (fun i => if i = b.toNat then 0 else K i)) from dn_is)
  have HX2 := Lib.hid hX2
  clear hX2 BK h2 HF HSz HC HR1 S1 s0 q1
  obtain ⟨L', hL'⟩ : ∃ L', dnL o false A n c hs v (fun i => if i = b.toNat then 0 else K i) = L' := ⟨_, rfl⟩
  rw [hL'] at HX2 HLd HTh HRT HSL
  have EQ := Lib.hid hL'
  clear hL'
  go_upto_region 7 with fail
  try rw [ew64]
  go_upto_region 8 with fail
  rw [HY.out]
  go_wp2_with (first
    | (refine wpList_load_mid rfl 59 (.tmp 3) rfl w.heap.size 0 rfl L' _ HLd.out Tryz.underlying59 rfl HSL.out.sz ?_)
    | (refine wpList_store_mid rfl 59 (.tmp 6) (.tmp 27) rfl (w.heap.size + 1) 0 L'.toArray rfl rfl HTh.out HSL.out.szA HSL.out.all1 ?_; rw [← HX2.out]))
  (try simp only [Exit.inBlock, Exit.then])
  refine bodyPost_ret (HRT.out _ (by rfl)) (by rfl) ?_
  exact ⟨by rw [← EQ.out]; first | rfl | (rw [← HL.out]; rfl), HB.out⟩
end
end Go.Proofs.YtgelmhldicmmdaaGreat
