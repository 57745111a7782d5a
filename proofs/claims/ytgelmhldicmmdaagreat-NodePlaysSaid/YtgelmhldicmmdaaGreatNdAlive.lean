/-
  A leaf that is another one's kid: the call at each law's end.
-/
import Derived.Test.YtgelmhldicmmdaaGreatNdSide
import Derived.Lib.SlBytesConst
namespace Go.Proofs.YtgelmhldicmmdaaGreat
open Go.RowKit

/-- A literal of bytes: its row is marked behind its last cell. -/
theorem byt_mark (w : World) (e : TypeId) {z : Int} {u : UInt8} (hz : z = (u.toNat : Int)) (f : Nat × Nat) : Byt (w.alloc (.cells #[.int .u8 z] e f)) (w.heap.size + 1) (some ⟨w.heap.size, 0, none⟩) 1 [u] := by
  subst hz
  refine ⟨rfl, by unfold maxLen; omega, fun _ => ⟨_, rfl, by simp, fun j v hv => ?_⟩⟩
  match j, hv with
  | 0, hv =>
    simp only [List.getElem?_cons_zero, Option.some.injEq] at hv
    subst hv
    have : (w.alloc (.cells #[.int .u8 (u.toNat : Int)] e f)).heap[w.heap.size]? = some (.cells #[.int .u8 (u.toNat : Int)] e f) := heap_alloc_new w _
    exact cell_of_row _ _ 0 _ _ _ this
theorem pb_lit {a : Addr} {l : List UInt8} {m : Option Nat} (h : m ≠ some a.block) : ∀ i, Pb (some a) l i → m ≠ some i := fun i hi e => by
  obtain ⟨_, ad, h1, h2⟩ := hi
  injection h1 with h1; subst h1; subst h2; exact h e
theorem mt_of {w : World} {g : Nat} {n : Int} {rest : List Value} (h : Lst w g (.int .i64 n :: rest)) (h0 : 0 ≤ n) (h1 : n ≤ 9223372036854775806) : Mt w (some g) rest n := fun q e => by injection e with e; subst e; exact ⟨h, h0, h1⟩
theorem mt_none (w : World) (n : Int) : Mt w none [] n := fun q e => by cases e

set_option maxRecDepth 100000 in
set_option maxHeartbeats 1600000 in
theorem nalive_any (w : World) : Calls Tryz.prog 5 #[] w fun e w' => e = .returned (.bool true) ∧ Below w.heap.size w w' := by
  generalize hW0 : w.alloc (.cells #[.int .i64 0] 32) = W0
  have s0 : W0.heap.size = w.heap.size + 1 := by subst hW0; simp
  have b0 : Below w.heap.size w W0 := by subst hW0; exact (Below.refl _ _).alloc (Nat.le_refl _) _
  have m0 : Blk W0 w.heap.size #[.int .i64 0] := by subst hW0; exact Blk.new w _ _
  have hcv := Go.Lib.run_convert_bytes_const (P := Tryz.prog) W0 38 5 #[.int .u8 97] 1 1 Tryz.underlying38 Tryz.underlying5
  rw [s0] at hcv
  generalize hWa : W0.alloc (.cells #[.int .u8 97] 5) = Wa at hcv
  generalize hW1 : W0.alloc (.cells #[.int .u8 97] 5 (#[Value.int .u8 97].size, #[Value.int .u8 97].size + 1)) = W1 at hcv
  have s1 : W1.heap.size = w.heap.size + 1 + 1 := by subst hW1; simp [s0]
  have b1 : Below w.heap.size w W1 := by subst hW1; exact b0.alloc (by omega) _
  have m1 : Blk W1 w.heap.size #[.int .i64 0] := by subst hW1; exact m0.alloc _
  have a1 : Byt W1 (w.heap.size + 1 + 1) (some ⟨w.heap.size + 1, 0, none⟩) 1 [97] := by subst hW1; have := byt_mark W0 5 (z := 97) (u := 97) rfl (#[Value.int .u8 97].size, #[Value.int .u8 97].size + 1); rwa [s0] at this
  have hm1 : ∀ i, some w.heap.size = some i → i < w.heap.size ∨ i = w.heap.size := fun i e => by injection e with e; exact .inr e.symm
  have HM := Lib.hid hm1
  have HI := Lib.hid ((Ns.none_ W1 w.heap.size (fun i => i = w.heap.size)).inner_ (by omega) (fun i e => by omega) (some w.heap.size) 0 3 1 1 (w.heap.size + 1 + 1) [97] (mt_of (rest := []) m1 (by omega) (by omega)) hm1 a1 (by omega) (by omega) (pb_lit (fun e => by injection e with e; simp only at e; omega)))
  have HB1 := Lib.hid b1
  have HI : Hid (Calls Tryz.prog 9 #[.pointer (some ⟨w.heap.size, 0, none⟩), .int .u64 3, .slice (some ⟨w.heap.size + 1, 0, none⟩) 1 1] W1 _) := HI
  clear hW1 b0 m0 b1 m1 a1 s1 hm1
  go_enter Tryz.func5, Tryz.ntmps5
  go_wp2_with fail
  try rw [hW0]
  try rw [s0]
  try rw [hWa]
  clear hW0 hWa
  (with_reducible refine HI.out.mono ?_)
  rintro e w2 ⟨g1, rfl, n2, k2, c2⟩
  have b2 : Below w.heap.size w w2 := HB1.out.trans (k2.below HB1.out.size (fun i e => by injection e with e; omega))
  have hcv := Go.Lib.run_convert_bytes_const (P := Tryz.prog) w2 38 5 #[.int .u8 98] 1 1 Tryz.underlying38 Tryz.underlying5
  generalize hWb : w2.alloc (.cells #[.int .u8 98] 5) = Wb at hcv
  generalize hW3 : w2.alloc (.cells #[.int .u8 98] 5 (#[Value.int .u8 98].size, #[Value.int .u8 98].size + 1)) = W3 at hcv
  have s3 : W3.heap.size = w2.heap.size + 1 := by subst hW3; simp
  have b23 : Below w2.heap.size w2 W3 := by subst hW3; exact (Below.refl _ _).alloc (Nat.le_refl _) _
  have z2 := b2.size
  have lm := Blk.lt (c2 _ rfl)
  have a3 : Byt W3 (w2.heap.size + 1) (some ⟨w2.heap.size, 0, none⟩) 1 [98] := by subst hW3; exact byt_mark w2 5 (z := 98) (u := 98) rfl _
  have HL := Lib.hid ((n2.below b23).leaf_ (by omega) (fun i e => by omega) (some w.heap.size) 1 3 5 1 1 (w2.heap.size + 1) [98] (mt_of (rest := []) (Blk.below (c2 _ rfl) b23 lm) (by omega) (by omega)) HM.out a3 (by omega) (by omega) (pb_lit (fun e => by injection e with e; simp only at e; omega)))
  have HB3 := Lib.hid (b2.trans (b23.mono z2))
  have HL : Hid (Calls Tryz.prog 10 #[.pointer (some ⟨w.heap.size, 0, none⟩), .int .u64 3, .slice (some ⟨w2.heap.size, 0, none⟩) 1 1, .int .u64 5] W3 _) := HL
  clear hW3 n2 k2 c2 b2 b23 a3 s0 s3 lm z2
  go_wp2_with fail
  try rw [hWb]
  clear hWb
  (with_reducible refine HL.out.mono ?_)
  rintro e w4 ⟨g2, rfl, n4, k4, c4⟩
  have b4 : Below w.heap.size w w4 := HB3.out.trans (k4.below HB3.out.size (fun i e => by injection e with e; omega))
  have lm := Blk.lt (c4 _ rfl)
  simp only [List.nil_append, List.cons_append] at n4
  have C4 := Lib.hid (show Blk w4 w.heap.size #[.int .i64 (0 + 1 + 1)] from c4 _ rfl)
  have HS := Lib.hid (n4.setkid (k := 0) (j := 1) rfl rfl b4.size (fun i e => by omega) 3 7 7 rfl)
  have HB4 := Lib.hid b4
  clear n4 k4 c4 b4 lm
  go_wp2_with fail
  (with_reducible refine HS.out.mono ?_)
  rintro e w5 ⟨rfl, n5, k5⟩
  rw [show setKN ⟨false, 3, [97], 0, false, []⟩ 3 (some ⟨g2, 0, none⟩) = 0 from rfl]
  have b5 : Below w.heap.size w w5 := HB4.out.trans (k5.below HB4.out.size (fun i e => e.1))
  have m5 := k5.blk C4.out (fun q => q.2 rfl)
  have e5 : List.set [(g1, (⟨false, 3, [97], 0, false, []⟩ : Nd)), (g2, ⟨true, 3, [98], 5, true, []⟩)] 0 (g1, nSetKid ⟨false, 3, [97], 0, false, []⟩ 3 7 (some ⟨g2, 0, none⟩)) = [(g1, ⟨false, 3, [97], 0, false, [(7, some ⟨g2, 0, none⟩)]⟩), (g2, ⟨true, 3, [98], 5, true, []⟩)] := rfl
  rw [e5] at n5
  have lm := m5.lt
  have HT := Lib.hid (n5.setval (k := 0) rfl b5.size (fun i e => by omega) 4 1)
  have M5 := Lib.hid m5
  have HB5 := Lib.hid b5
  clear n5 k5 b5 m5 e5 lm
  go_wp2_with fail
  (with_reducible refine HT.out.mono ?_)
  rintro e w6 ⟨rfl, n6, k6⟩
  rw [show closN ⟨false, 3, [97], 0, false, [(7, some ⟨g2, 0, none⟩)]⟩ 4 = 11 from rfl]
  have e6 : List.set [(g1, (⟨false, 3, [97], 0, false, [(7, some ⟨g2, 0, none⟩)]⟩ : Nd)), (g2, ⟨true, 3, [98], 5, true, []⟩)] 0 (g1, nSetVal ⟨false, 3, [97], 0, false, [(7, some ⟨g2, 0, none⟩)]⟩ 4 1) = [(g1, ⟨false, 3, [97], 0, false, [(7, some ⟨g2, 0, none⟩)]⟩), (g2, ⟨true, 3, [98], 5, true, []⟩)] := rfl
  rw [e6] at n6
  have N6 := Lib.hid n6
  have M6 := Lib.hid (k6.blk M5.out (fun q => q.2 rfl))
  have HB6 := Lib.hid (HB5.out.trans (k6.below HB5.out.size (fun i e => e.1)))
  clear n6 k6 e6
  have H1 := Lib.hid (show ∀ W, Still w6 W → Calls Tryz.prog 13 #[.pointer (some ⟨g1, 0, none⟩), .int .u8 7] W fun e w' => e = .returned (.pointer (some ⟨g2, 0, none⟩)) ∧ Still W w' from fun W hs => by obtain ⟨b, A, hn⟩ := (N6.out.still hs).at_ (k := 0) rfl; exact nkid_any hn 7 7 rfl)
  have H2 := Lib.hid (show ∀ W, Still w6 W → Calls Tryz.prog 14 #[.pointer (some ⟨g2, 0, none⟩)] W fun e w' => e = .returned (.tuple #[.int .u64 5, .bool true]) ∧ Still W w' from fun W hs => by obtain ⟨b, A, hn⟩ := (N6.out.still hs).at_ (k := 1) rfl; exact val_any hn)
  have H3 := Lib.hid (show ∀ W, Still w6 W → Calls Tryz.prog 15 #[.pointer (some ⟨g1, 0, none⟩)] W fun e w' => e = .returned (.int .i64 4) ∧ Still W w' from fun W hs => by obtain ⟨b, A, hn⟩ := (N6.out.still hs).at_ (k := 0) rfl; exact nkind_any hn)
  have H4 := Lib.hid (show ∀ W, Still w6 W → Calls Tryz.prog 15 #[.pointer (some ⟨g2, 0, none⟩)] W fun e w' => e = .returned (.int .i64 1) ∧ Still W w' from fun W hs => by obtain ⟨b, A, hn⟩ := (N6.out.still hs).at_ (k := 1) rfl; exact nkind_any hn)
  have H5 := Lib.hid (show ∀ W, Still w6 W → Calls Tryz.prog 16 #[.pointer (some ⟨g1, 0, none⟩)] W fun e w' => e = .returned (.int .i64 1) ∧ Still W w' from fun W hs => by obtain ⟨b, A, hn⟩ := (N6.out.still hs).at_ (k := 0) rfl; exact nocc_any hn)
  have H6 := Lib.hid (show ∀ W, Still w6 W → Calls Tryz.prog 8 #[.pointer (some ⟨w.heap.size, 0, none⟩)] W fun e w' => e = .returned (.int .i64 2) ∧ w' = W from fun W hs => count_any w.heap.size 2 W (by obtain ⟨n, rfl⟩ := hs; exact M6.out.cell 0))
  go_wp2_with fail
  (with_reducible refine (H1.out _ (Still.refl _)).mono ?_)
  rintro e w7 ⟨rfl, hs⟩
  have S7 := Lib.hid hs
  clear hs
  go_wp2_with fail
  (with_reducible refine (H2.out _ S7.out).mono ?_)
  rintro e w8 ⟨rfl, hs⟩
  have S8 := Lib.hid (S7.out.trans hs)
  clear hs
  go_wp2_with fail
  (with_reducible refine (H6.out _ S8.out).mono ?_)
  rintro e w9 ⟨rfl, rfl⟩
  go_wp2_with fail
  (with_reducible refine (H3.out _ S8.out).mono ?_)
  rintro e w9 ⟨rfl, hs⟩
  have S9 := Lib.hid (S8.out.trans hs)
  clear hs
  go_wp2_with fail
  (with_reducible refine (H4.out _ S9.out).mono ?_)
  rintro e w10 ⟨rfl, hs⟩
  have S10 := Lib.hid (S9.out.trans hs)
  clear hs
  go_wp2_with fail
  (with_reducible refine (H5.out _ S10.out).mono ?_)
  rintro e w11 ⟨rfl, hs⟩
  have HE := Lib.hid (HB6.out.trans ((S10.out.trans hs).below _))
  clear hs
  go_wp2
  go_ret
  exact ⟨rfl, HE.out⟩
end Go.Proofs.YtgelmhldicmmdaaGreat
