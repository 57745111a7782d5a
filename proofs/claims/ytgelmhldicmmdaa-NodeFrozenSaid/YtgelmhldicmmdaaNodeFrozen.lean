/-
  Proved here: whoever does not hand over a node's owner, or hands over nobody, does not change it, whatever is asked, of a leaf and of an inner node, whatever its part, its value and its kid; nothing that came in is turned. No condition.
-/
import Derived.Test.YtgelmhldicmmdaaRowReach
import Derived.Test.YtgelmhldicmmdaaNdFroz
namespace Go.Proofs.Ytgelmhldicmmdaa.nodeFrozen
open Go.ChangeShapes Go.WideShapes Go.ChangeAt Go.RowKit

set_option maxRecDepth 100000 in
set_option maxHeartbeats 4000000 in
theorem w_lzs (A1 : Option Addr) (n1 c1 : Nat) (l1 : List UInt8) (A2 : Option Addr) (n2 c2 : Nat) (l2 : List UInt8) (v1 v2 : Int) (u : UInt8) (w : World) (h1 : Byt w w.heap.size A1 n1 l1) (hr1 : n1 ≤ 140737488351232) (h2 : Byt w w.heap.size A2 n2 l2) (hr2 : n2 ≤ 140737488351232) :
    Calls Try.prog 3 #[.bool true, .agg #[.int .u64 0, .int .u64 0], .agg #[.slice A1 n1 c1, .slice A2 n2 c2, .int .u64 v1, .int .u64 v2, .int .u8 (u.toNat : Int)]] w fun e w' => e = .returned (.bool true) ∧ Below w.heap.size w w' := by
  generalize hWa : w.alloc (.cells #[.int .u64 0, .int .u64 0] 23) = Wa
  have sa : Wa.heap.size = w.heap.size + 1 := by subst hWa; simp
  have ba : Below w.heap.size w Wa := by subst hWa; exact (Below.refl _ _).alloc (Nat.le_refl _) _
  have xa : Blk Wa w.heap.size #[.int .u64 0, .int .u64 0] := by subst hWa; exact Blk.new w _ _
  generalize hW : Wa.alloc (.cells #[.slice A1 n1 c1, .slice A2 n2 c2, .int .u64 v1, .int .u64 v2, .int .u8 (u.toNat : Int)] 26) = W
  have sb : W.heap.size = w.heap.size + 1 + 1 := by subst hW; simp [sa]
  have bb : Below w.heap.size w W := by subst hW; exact ba.alloc ba.size _
  have xb : Blk W (w.heap.size + 1) #[.slice A1 n1 c1, .slice A2 n2 c2, .int .u64 v1, .int .u64 v2, .int .u8 (u.toNat : Int)] := by subst hW; rw [← sa]; exact Blk.new Wa _ _
  have xa' : Blk W w.heap.size #[.int .u64 0, .int .u64 0] := by subst hW; exact xa.alloc _
  have e1 : W.cell? ⟨w.heap.size, 0, none⟩ = some (.int .u64 0) := xa'.cell 0
  have e2 : W.cell? ⟨w.heap.size, 1, none⟩ = some (.int .u64 0) := xa'.cell 1
  have e3 : W.cell? ⟨w.heap.size + 1, 0, none⟩ = some (.slice A1 n1 c1) := xb.cell 0
  have e4 : W.cell? ⟨w.heap.size + 1, 4, none⟩ = some (.int .u8 (u.toNat : Int)) := xb.cell 4
  have HX := Lib.hid (show ∀ V, Below W.heap.size W V → Byt V w.heap.size A1 n1 l1 ∧ Byt V w.heap.size A2 n2 l2 ∧ V.cell? ⟨w.heap.size + 1, 1, none⟩ = some (.slice A2 n2 c2) ∧ V.cell? ⟨w.heap.size + 1, 2, none⟩ = some (.int .u64 v1) ∧ V.cell? ⟨w.heap.size + 1, 3, none⟩ = some (.int .u64 v2) from
    fun V hV => ⟨(h1.below bb).below (hV.mono bb.size), (h2.below bb).below (hV.mono bb.size), (xb.below hV xb.lt).cell 1, (xb.below hV xb.lt).cell 2, (xb.below hV xb.lt).cell 3⟩)
  have BW := Lib.hid bb
  have LW := Lib.hid bb.size
  have hrg := Lib.hid (show n1 ≤ 140737488355328 ∧ n2 ≤ 140737488355328 by omega)
  have HM := Lib.hid (show mineB 0 0 = false from (mine_zero 0))
  clear h1 h2 ba xa bb xb xa' sb
  go_enter Try.func3, Try.ntmps3
  go_wp2_with fail
  try rw [hWa]
  try rw [hW]
  go_quiet (fail)
  clear hWa hW
  have HX := Lib.hid (fun V (hV : Below (W.drewN nq).heap.size (W.drewN nq) V) => HX.out V (((Still.drewN W nq).below _).trans hV))
  have BW := Lib.hid (BW.out.trans ((Still.drewN W nq).below _))
  have LW := Lib.hid (show w.heap.size ≤ (W.drewN nq).heap.size from LW.out)
  obtain ⟨V, hV⟩ : ∃ V, W.drewN nq = V := ⟨_, rfl⟩
  rw [hV] at HX BW LW
  rw [hV]
  clear hV e1 e2 e3 e4
  have N0 := Lib.hid (Ns.none_ V V.heap.size (fun _ => False))
  have B0 := Lib.hid (Below.refl V.heap.size V)
  obtain ⟨y1, _, y3, y4, y5⟩ := HX.out V B0.out
  have C1 := Lib.hid (N0.out.inner_ B0.out.size (fun _ q => q.elim) none 0 0 n1 c1 w.heap.size l1 (mt_none _ _) (fun i e => by cases e) y1 (Nat.le_trans LW.out B0.out.size) (by omega) (fun i _ e => by cases e))
  rw [show mtr none = .pointer none from rfl] at C1
  clear y1
  go_wp2_with fail
  (with_reducible refine C1.out.mono ?_)
  rintro e w1 ⟨g1, rfl, nn, kk, _⟩
  have N1 := Lib.hid (show Ns w1 V.heap.size (fun _ => False) [(g1, (⟨false, 0, l1, 0, false, []⟩ : Nd))] from nn)
  have B1 := Lib.hid (B0.out.trans (kk.below B0.out.size (fun i e => by cases e)))
  clear nn kk y3 y4 y5 C1
  obtain ⟨y1, _, y3, y4, y5⟩ := HX.out w1 B1.out
  have C2 := Lib.hid (N1.out.leaf_ B1.out.size (fun _ q => q.elim) none 0 0 v1 n1 c1 w.heap.size l1 (mt_none _ _) (fun i e => by cases e) y1 (Nat.le_trans LW.out B1.out.size) (by omega) (fun i _ e => by cases e))
  rw [show mtr none = .pointer none from rfl] at C2
  clear y1
  go_wp2_with fail
  (with_reducible refine C2.out.mono ?_)
  rintro e w2 ⟨g2, rfl, nn, kk, _⟩
  have N2 := Lib.hid (show Ns w2 V.heap.size (fun _ => False) [(g1, (⟨false, 0, l1, 0, false, []⟩ : Nd)), (g2, (⟨true, 0, l1, v1, true, []⟩ : Nd))] from nn)
  have B2 := Lib.hid (B1.out.trans (kk.below B1.out.size (fun i e => by cases e)))
  clear nn kk y3 y4 y5 C2
  obtain ⟨y1, _, y3, y4, y5⟩ := HX.out w2 B2.out
  have C3 := Lib.hid (N2.out.leaf_ B2.out.size (fun _ q => q.elim) none 0 0 v1 n1 c1 w.heap.size l1 (mt_none _ _) (fun i e => by cases e) y1 (Nat.le_trans LW.out B2.out.size) (by omega) (fun i _ e => by cases e))
  rw [show mtr none = .pointer none from rfl] at C3
  clear y1
  go_wp2_with fail
  (with_reducible refine C3.out.mono ?_)
  rintro e w3 ⟨g3, rfl, nn, kk, _⟩
  have N3 := Lib.hid (show Ns w3 V.heap.size (fun _ => False) [(g1, (⟨false, 0, l1, 0, false, []⟩ : Nd)), (g2, (⟨true, 0, l1, v1, true, []⟩ : Nd)), (g3, (⟨true, 0, l1, v1, true, []⟩ : Nd))] from nn)
  have B3 := Lib.hid (B2.out.trans (kk.below B2.out.size (fun i e => by cases e)))
  clear nn kk y3 y4 y5 C3
  have C4 := Lib.hid (N3.out.val_ (k := 1) rfl)
  go_wp2_with fail
  (with_reducible refine C4.out.mono ?_)
  rintro e w4 ⟨rfl, hs⟩
  have N4 := Lib.hid (N3.out.still hs)
  have B4 := Lib.hid (B3.out.trans (hs.below _))
  clear hs C4
  have C5 := Lib.hid (N4.out.len_ (k := 1) rfl)
  go_wp2_with fail
  (with_reducible refine C5.out.mono ?_)
  rintro e w5 ⟨rfl, hs⟩
  have N5 := Lib.hid (N4.out.still hs)
  have B5 := Lib.hid (B4.out.trans (hs.below _))
  clear hs C5
  obtain ⟨y1, y2, y3, y4, y5⟩ := HX.out w5 B5.out
  have C6 := Lib.hid (N5.out.f_setpart (k := 1) rfl B5.out.size (fun _ q => q.elim) HM.out A2 n2 c2 w.heap.size l2 y2 (Nat.le_trans LW.out B5.out.size) (by omega))
  clear y1 y2
  go_wp2_with fail
  (with_reducible refine C6.out.mono ?_)
  rintro e w6 ⟨rfl, nn, kk⟩
  have N6 := Lib.hid (show Ns w6 V.heap.size (fun _ => False) [(g1, (⟨false, 0, l1, 0, false, []⟩ : Nd)), (g2, (⟨true, 0, l1, v1, true, []⟩ : Nd)), (g3, (⟨true, 0, l1, v1, true, []⟩ : Nd))] from nn)
  have B6 := Lib.hid (B5.out.trans (kk.below B5.out.size (fun i e => e.1)))
  clear nn kk y3 y4 y5 C6
  obtain ⟨y1, y2, y3, y4, y5⟩ := HX.out w6 B6.out
  have C7 := Lib.hid (N6.out.f_setval (k := 1) rfl B6.out.size (fun _ q => q.elim) HM.out v2)
  clear y1 y2
  go_wp2_with fail
  (with_reducible refine C7.out.mono ?_)
  rintro e w7 ⟨rfl, nn, kk⟩
  have N7 := Lib.hid (show Ns w7 V.heap.size (fun _ => False) [(g1, (⟨false, 0, l1, 0, false, []⟩ : Nd)), (g2, (⟨true, 0, l1, v1, true, []⟩ : Nd)), (g3, (⟨true, 0, l1, v1, true, []⟩ : Nd))] from nn)
  have B7 := Lib.hid (B6.out.trans (kk.below B6.out.size (fun i e => e.1)))
  clear nn kk y3 y4 y5 C7
  obtain ⟨y1, y2, y3, y4, y5⟩ := HX.out w7 B7.out
  have C8 := Lib.hid (N7.out.f_dropval (k := 1) rfl B7.out.size (fun _ q => q.elim) HM.out)
  clear y1 y2
  go_wp2_with fail
  (with_reducible refine C8.out.mono ?_)
  rintro e w8 ⟨rfl, nn, kk⟩
  have N8 := Lib.hid (show Ns w8 V.heap.size (fun _ => False) [(g1, (⟨false, 0, l1, 0, false, []⟩ : Nd)), (g2, (⟨true, 0, l1, v1, true, []⟩ : Nd)), (g3, (⟨true, 0, l1, v1, true, []⟩ : Nd))] from nn)
  have B8 := Lib.hid (B7.out.trans (kk.below B7.out.size (fun i e => e.1)))
  clear nn kk y3 y4 y5 C8
  obtain ⟨y1, y2, y3, y4, y5⟩ := HX.out w8 B8.out
  have C9 := Lib.hid (N8.out.f_setkid (k := 1) (j := 1) rfl rfl B8.out.size (fun _ q => q.elim) HM.out u _ rfl)
  clear y1 y2
  go_wp2_with fail
  (with_reducible refine C9.out.mono ?_)
  rintro e w9 ⟨rfl, nn, kk⟩
  have N9 := Lib.hid (show Ns w9 V.heap.size (fun _ => False) [(g1, (⟨false, 0, l1, 0, false, []⟩ : Nd)), (g2, (⟨true, 0, l1, v1, true, []⟩ : Nd)), (g3, (⟨true, 0, l1, v1, true, []⟩ : Nd))] from nn)
  have B9 := Lib.hid (B8.out.trans (kk.below B8.out.size (fun i e => e.1)))
  clear nn kk y3 y4 y5 C9
  obtain ⟨y1, y2, y3, y4, y5⟩ := HX.out w9 B9.out
  have C10 := Lib.hid (N9.out.f_dropkid (k := 1) rfl B9.out.size (fun _ q => q.elim) HM.out u _ rfl)
  clear y1 y2
  go_wp2_with fail
  (with_reducible refine C10.out.mono ?_)
  rintro e w10 ⟨rfl, nn, kk⟩
  have N10 := Lib.hid (show Ns w10 V.heap.size (fun _ => False) [(g1, (⟨false, 0, l1, 0, false, []⟩ : Nd)), (g2, (⟨true, 0, l1, v1, true, []⟩ : Nd)), (g3, (⟨true, 0, l1, v1, true, []⟩ : Nd))] from nn)
  have B10 := Lib.hid (B9.out.trans (kk.below B9.out.size (fun i e => e.1)))
  clear nn kk y3 y4 y5 C10
  have C11 := Lib.hid (N10.out.val_ (k := 1) rfl)
  go_wp2_with fail
  (with_reducible refine C11.out.mono ?_)
  rintro e w11 ⟨rfl, hs⟩
  have N11 := Lib.hid (N10.out.still hs)
  have B11 := Lib.hid (B10.out.trans (hs.below _))
  clear hs C11
  have C12 := Lib.hid (N11.out.len_ (k := 1) rfl)
  go_wp2_with fail
  (with_reducible refine C12.out.mono ?_)
  rintro e w12 ⟨rfl, hs⟩
  have N12 := Lib.hid (N11.out.still hs)
  have B12 := Lib.hid (B11.out.trans (hs.below _))
  clear hs C12
  have C13 := Lib.hid (N12.out.part_ (k := 1) rfl)
  go_wp2_with fail
  (with_reducible refine C13.out.mono ?_)
  rintro e w13 ⟨A9, c9, rfl, z1, _, z3⟩
  have N13 := Lib.hid (N12.out.below z3)
  have B13 := Lib.hid (B12.out.trans (z3.mono B12.out.size))
  obtain ⟨y1, _⟩ := HX.out w13 B13.out
  have D13 := Lib.hid (rsame_any A9 A1 l1.length n1 c9 c1 w13.heap.size l1 l1 w13 z1 (y1.more (Nat.le_trans LW.out B13.out.size)))
  clear y1 z1 z3 C13
  go_wp2_with fail
  (with_reducible refine D13.out.mono ?_)
  rintro e w14 ⟨rfl, hs⟩
  rw [show sameB l1 l1 = true by simp [sameB]]
  have N14 := Lib.hid (N13.out.still hs)
  have B14 := Lib.hid (B13.out.trans (hs.below _))
  clear hs D13
  have C15 := Lib.hid (N14.out.owner_ (k := 1) rfl)
  go_wp2_with fail
  (with_reducible refine C15.out.mono ?_)
  rintro e w' ⟨rfl, rfl⟩
  clear C15
  go_wp2_with fail
  (with_reducible refine (nalive_any _).mono ?_)
  rintro e wz ⟨rfl, hb⟩
  have HE := Lib.hid (BW.out.trans ((B14.out.trans (hb.mono B14.out.size)).mono LW.out))
  clear hb
  go_wp2
  go_ret
  exact ⟨rfl, HE.out⟩

set_option maxRecDepth 100000 in
set_option maxHeartbeats 4000000 in
theorem w_lzd (p : Int) (A1 : Option Addr) (n1 c1 : Nat) (l1 : List UInt8) (A2 : Option Addr) (n2 c2 : Nat) (l2 : List UInt8) (v1 v2 : Int) (u : UInt8) (w : World) (h1 : Byt w w.heap.size A1 n1 l1) (hr1 : n1 ≤ 140737488351232) (h2 : Byt w w.heap.size A2 n2 l2) (hr2 : n2 ≤ 140737488351232) (hp : ¬ p = 0) :
    Calls Try.prog 3 #[.bool true, .agg #[.int .u64 0, .int .u64 p], .agg #[.slice A1 n1 c1, .slice A2 n2 c2, .int .u64 v1, .int .u64 v2, .int .u8 (u.toNat : Int)]] w fun e w' => e = .returned (.bool true) ∧ Below w.heap.size w w' := by
  generalize hWa : w.alloc (.cells #[.int .u64 0, .int .u64 p] 23) = Wa
  have sa : Wa.heap.size = w.heap.size + 1 := by subst hWa; simp
  have ba : Below w.heap.size w Wa := by subst hWa; exact (Below.refl _ _).alloc (Nat.le_refl _) _
  have xa : Blk Wa w.heap.size #[.int .u64 0, .int .u64 p] := by subst hWa; exact Blk.new w _ _
  generalize hW : Wa.alloc (.cells #[.slice A1 n1 c1, .slice A2 n2 c2, .int .u64 v1, .int .u64 v2, .int .u8 (u.toNat : Int)] 26) = W
  have sb : W.heap.size = w.heap.size + 1 + 1 := by subst hW; simp [sa]
  have bb : Below w.heap.size w W := by subst hW; exact ba.alloc ba.size _
  have xb : Blk W (w.heap.size + 1) #[.slice A1 n1 c1, .slice A2 n2 c2, .int .u64 v1, .int .u64 v2, .int .u8 (u.toNat : Int)] := by subst hW; rw [← sa]; exact Blk.new Wa _ _
  have xa' : Blk W w.heap.size #[.int .u64 0, .int .u64 p] := by subst hW; exact xa.alloc _
  have e1 : W.cell? ⟨w.heap.size, 0, none⟩ = some (.int .u64 0) := xa'.cell 0
  have e2 : W.cell? ⟨w.heap.size, 1, none⟩ = some (.int .u64 p) := xa'.cell 1
  have e3 : W.cell? ⟨w.heap.size + 1, 0, none⟩ = some (.slice A1 n1 c1) := xb.cell 0
  have e4 : W.cell? ⟨w.heap.size + 1, 4, none⟩ = some (.int .u8 (u.toNat : Int)) := xb.cell 4
  have HX := Lib.hid (show ∀ V, Below W.heap.size W V → Byt V w.heap.size A1 n1 l1 ∧ Byt V w.heap.size A2 n2 l2 ∧ V.cell? ⟨w.heap.size + 1, 1, none⟩ = some (.slice A2 n2 c2) ∧ V.cell? ⟨w.heap.size + 1, 2, none⟩ = some (.int .u64 v1) ∧ V.cell? ⟨w.heap.size + 1, 3, none⟩ = some (.int .u64 v2) from
    fun V hV => ⟨(h1.below bb).below (hV.mono bb.size), (h2.below bb).below (hV.mono bb.size), (xb.below hV xb.lt).cell 1, (xb.below hV xb.lt).cell 2, (xb.below hV xb.lt).cell 3⟩)
  have BW := Lib.hid bb
  have LW := Lib.hid bb.size
  have hrg := Lib.hid (show n1 ≤ 140737488355328 ∧ n2 ≤ 140737488355328 by omega)
  have HM := Lib.hid (show mineB 0 p = false from (mine_no hp))
  have hpb : (p == 0) = false := by simpa using hp
  clear h1 h2 ba xa bb xb xa' sb
  go_enter Try.func3, Try.ntmps3
  go_wp2_with fail
  try rw [hWa]
  try rw [hW]
  go_quiet (fail)
  clear hWa hW
  have HX := Lib.hid (fun V (hV : Below (W.drewN nq).heap.size (W.drewN nq) V) => HX.out V (((Still.drewN W nq).below _).trans hV))
  have BW := Lib.hid (BW.out.trans ((Still.drewN W nq).below _))
  have LW := Lib.hid (show w.heap.size ≤ (W.drewN nq).heap.size from LW.out)
  obtain ⟨V, hV⟩ : ∃ V, W.drewN nq = V := ⟨_, rfl⟩
  rw [hV] at HX BW LW
  rw [hV]
  clear hV e1 e2 e3 e4
  have N0 := Lib.hid (Ns.none_ V V.heap.size (fun _ => False))
  have B0 := Lib.hid (Below.refl V.heap.size V)
  obtain ⟨y1, _, y3, y4, y5⟩ := HX.out V B0.out
  have C1 := Lib.hid (N0.out.inner_ B0.out.size (fun _ q => q.elim) none 0 0 n1 c1 w.heap.size l1 (mt_none _ _) (fun i e => by cases e) y1 (Nat.le_trans LW.out B0.out.size) (by omega) (fun i _ e => by cases e))
  rw [show mtr none = .pointer none from rfl] at C1
  clear y1
  go_wp2_with fail
  (with_reducible refine C1.out.mono ?_)
  rintro e w1 ⟨g1, rfl, nn, kk, _⟩
  have N1 := Lib.hid (show Ns w1 V.heap.size (fun _ => False) [(g1, (⟨false, 0, l1, 0, false, []⟩ : Nd))] from nn)
  have B1 := Lib.hid (B0.out.trans (kk.below B0.out.size (fun i e => by cases e)))
  clear nn kk y3 y4 y5 C1
  obtain ⟨y1, _, y3, y4, y5⟩ := HX.out w1 B1.out
  have C2 := Lib.hid (N1.out.leaf_ B1.out.size (fun _ q => q.elim) none 0 0 v1 n1 c1 w.heap.size l1 (mt_none _ _) (fun i e => by cases e) y1 (Nat.le_trans LW.out B1.out.size) (by omega) (fun i _ e => by cases e))
  rw [show mtr none = .pointer none from rfl] at C2
  clear y1
  go_wp2_with fail
  (with_reducible refine C2.out.mono ?_)
  rintro e w2 ⟨g2, rfl, nn, kk, _⟩
  have N2 := Lib.hid (show Ns w2 V.heap.size (fun _ => False) [(g1, (⟨false, 0, l1, 0, false, []⟩ : Nd)), (g2, (⟨true, 0, l1, v1, true, []⟩ : Nd))] from nn)
  have B2 := Lib.hid (B1.out.trans (kk.below B1.out.size (fun i e => by cases e)))
  clear nn kk y3 y4 y5 C2
  obtain ⟨y1, _, y3, y4, y5⟩ := HX.out w2 B2.out
  have C3 := Lib.hid (N2.out.leaf_ B2.out.size (fun _ q => q.elim) none 0 0 v1 n1 c1 w.heap.size l1 (mt_none _ _) (fun i e => by cases e) y1 (Nat.le_trans LW.out B2.out.size) (by omega) (fun i _ e => by cases e))
  rw [show mtr none = .pointer none from rfl] at C3
  clear y1
  go_wp2_with fail
  (with_reducible refine C3.out.mono ?_)
  rintro e w3 ⟨g3, rfl, nn, kk, _⟩
  have N3 := Lib.hid (show Ns w3 V.heap.size (fun _ => False) [(g1, (⟨false, 0, l1, 0, false, []⟩ : Nd)), (g2, (⟨true, 0, l1, v1, true, []⟩ : Nd)), (g3, (⟨true, 0, l1, v1, true, []⟩ : Nd))] from nn)
  have B3 := Lib.hid (B2.out.trans (kk.below B2.out.size (fun i e => by cases e)))
  clear nn kk y3 y4 y5 C3
  have C4 := Lib.hid (N3.out.val_ (k := 1) rfl)
  go_wp2_with fail
  (with_reducible refine C4.out.mono ?_)
  rintro e w4 ⟨rfl, hs⟩
  have N4 := Lib.hid (N3.out.still hs)
  have B4 := Lib.hid (B3.out.trans (hs.below _))
  clear hs C4
  have C5 := Lib.hid (N4.out.len_ (k := 1) rfl)
  go_wp2_with fail
  (with_reducible refine C5.out.mono ?_)
  rintro e w5 ⟨rfl, hs⟩
  have N5 := Lib.hid (N4.out.still hs)
  have B5 := Lib.hid (B4.out.trans (hs.below _))
  clear hs C5
  obtain ⟨y1, y2, y3, y4, y5⟩ := HX.out w5 B5.out
  have C6 := Lib.hid (N5.out.f_setpart (k := 1) rfl B5.out.size (fun _ q => q.elim) HM.out A2 n2 c2 w.heap.size l2 y2 (Nat.le_trans LW.out B5.out.size) (by omega))
  clear y1 y2
  go_wp2_with fail
  (with_reducible refine C6.out.mono ?_)
  rintro e w6 ⟨rfl, nn, kk⟩
  have N6 := Lib.hid (show Ns w6 V.heap.size (fun _ => False) [(g1, (⟨false, 0, l1, 0, false, []⟩ : Nd)), (g2, (⟨true, 0, l1, v1, true, []⟩ : Nd)), (g3, (⟨true, 0, l1, v1, true, []⟩ : Nd))] from nn)
  have B6 := Lib.hid (B5.out.trans (kk.below B5.out.size (fun i e => e.1)))
  clear nn kk y3 y4 y5 C6
  obtain ⟨y1, y2, y3, y4, y5⟩ := HX.out w6 B6.out
  have C7 := Lib.hid (N6.out.f_setval (k := 1) rfl B6.out.size (fun _ q => q.elim) HM.out v2)
  clear y1 y2
  go_wp2_with fail
  (with_reducible refine C7.out.mono ?_)
  rintro e w7 ⟨rfl, nn, kk⟩
  have N7 := Lib.hid (show Ns w7 V.heap.size (fun _ => False) [(g1, (⟨false, 0, l1, 0, false, []⟩ : Nd)), (g2, (⟨true, 0, l1, v1, true, []⟩ : Nd)), (g3, (⟨true, 0, l1, v1, true, []⟩ : Nd))] from nn)
  have B7 := Lib.hid (B6.out.trans (kk.below B6.out.size (fun i e => e.1)))
  clear nn kk y3 y4 y5 C7
  obtain ⟨y1, y2, y3, y4, y5⟩ := HX.out w7 B7.out
  have C8 := Lib.hid (N7.out.f_dropval (k := 1) rfl B7.out.size (fun _ q => q.elim) HM.out)
  clear y1 y2
  go_wp2_with fail
  (with_reducible refine C8.out.mono ?_)
  rintro e w8 ⟨rfl, nn, kk⟩
  have N8 := Lib.hid (show Ns w8 V.heap.size (fun _ => False) [(g1, (⟨false, 0, l1, 0, false, []⟩ : Nd)), (g2, (⟨true, 0, l1, v1, true, []⟩ : Nd)), (g3, (⟨true, 0, l1, v1, true, []⟩ : Nd))] from nn)
  have B8 := Lib.hid (B7.out.trans (kk.below B7.out.size (fun i e => e.1)))
  clear nn kk y3 y4 y5 C8
  obtain ⟨y1, y2, y3, y4, y5⟩ := HX.out w8 B8.out
  have C9 := Lib.hid (N8.out.f_setkid (k := 1) (j := 1) rfl rfl B8.out.size (fun _ q => q.elim) HM.out u _ rfl)
  clear y1 y2
  go_wp2_with fail
  (with_reducible refine C9.out.mono ?_)
  rintro e w9 ⟨rfl, nn, kk⟩
  have N9 := Lib.hid (show Ns w9 V.heap.size (fun _ => False) [(g1, (⟨false, 0, l1, 0, false, []⟩ : Nd)), (g2, (⟨true, 0, l1, v1, true, []⟩ : Nd)), (g3, (⟨true, 0, l1, v1, true, []⟩ : Nd))] from nn)
  have B9 := Lib.hid (B8.out.trans (kk.below B8.out.size (fun i e => e.1)))
  clear nn kk y3 y4 y5 C9
  obtain ⟨y1, y2, y3, y4, y5⟩ := HX.out w9 B9.out
  have C10 := Lib.hid (N9.out.f_dropkid (k := 1) rfl B9.out.size (fun _ q => q.elim) HM.out u _ rfl)
  clear y1 y2
  go_wp2_with fail
  (with_reducible refine C10.out.mono ?_)
  rintro e w10 ⟨rfl, nn, kk⟩
  have N10 := Lib.hid (show Ns w10 V.heap.size (fun _ => False) [(g1, (⟨false, 0, l1, 0, false, []⟩ : Nd)), (g2, (⟨true, 0, l1, v1, true, []⟩ : Nd)), (g3, (⟨true, 0, l1, v1, true, []⟩ : Nd))] from nn)
  have B10 := Lib.hid (B9.out.trans (kk.below B9.out.size (fun i e => e.1)))
  clear nn kk y3 y4 y5 C10
  have C11 := Lib.hid (N10.out.val_ (k := 1) rfl)
  go_wp2_with fail
  (with_reducible refine C11.out.mono ?_)
  rintro e w11 ⟨rfl, hs⟩
  have N11 := Lib.hid (N10.out.still hs)
  have B11 := Lib.hid (B10.out.trans (hs.below _))
  clear hs C11
  have C12 := Lib.hid (N11.out.len_ (k := 1) rfl)
  go_wp2_with fail
  (with_reducible refine C12.out.mono ?_)
  rintro e w12 ⟨rfl, hs⟩
  have N12 := Lib.hid (N11.out.still hs)
  have B12 := Lib.hid (B11.out.trans (hs.below _))
  clear hs C12
  have C13 := Lib.hid (N12.out.part_ (k := 1) rfl)
  go_wp2_with fail
  (with_reducible refine C13.out.mono ?_)
  rintro e w13 ⟨A9, c9, rfl, z1, _, z3⟩
  have N13 := Lib.hid (N12.out.below z3)
  have B13 := Lib.hid (B12.out.trans (z3.mono B12.out.size))
  obtain ⟨y1, _⟩ := HX.out w13 B13.out
  have D13 := Lib.hid (rsame_any A9 A1 l1.length n1 c9 c1 w13.heap.size l1 l1 w13 z1 (y1.more (Nat.le_trans LW.out B13.out.size)))
  clear y1 z1 z3 C13
  go_wp2_with fail
  (with_reducible refine D13.out.mono ?_)
  rintro e w14 ⟨rfl, hs⟩
  rw [show sameB l1 l1 = true by simp [sameB]]
  have N14 := Lib.hid (N13.out.still hs)
  have B14 := Lib.hid (B13.out.trans (hs.below _))
  clear hs D13
  have C15 := Lib.hid (N14.out.owner_ (k := 1) rfl)
  go_wp2_with fail
  (with_reducible refine C15.out.mono ?_)
  rintro e w' ⟨rfl, rfl⟩
  clear C15
  go_wp2_with fail
  (with_reducible refine (nalive_any _).mono ?_)
  rintro e wz ⟨rfl, hb⟩
  have HE := Lib.hid (BW.out.trans ((B14.out.trans (hb.mono B14.out.size)).mono LW.out))
  clear hb
  go_wp2
  go_ret
  exact ⟨rfl, HE.out⟩

set_option maxRecDepth 100000 in
set_option maxHeartbeats 4000000 in
theorem w_los (o : Int) (A1 : Option Addr) (n1 c1 : Nat) (l1 : List UInt8) (A2 : Option Addr) (n2 c2 : Nat) (l2 : List UInt8) (v1 v2 : Int) (u : UInt8) (w : World) (h1 : Byt w w.heap.size A1 n1 l1) (hr1 : n1 ≤ 140737488351232) (h2 : Byt w w.heap.size A2 n2 l2) (hr2 : n2 ≤ 140737488351232) (h0 : ¬ o = 0) :
    Calls Try.prog 3 #[.bool true, .agg #[.int .u64 o, .int .u64 o], .agg #[.slice A1 n1 c1, .slice A2 n2 c2, .int .u64 v1, .int .u64 v2, .int .u8 (u.toNat : Int)]] w fun e w' => e = .returned (.bool true) ∧ Below w.heap.size w w' := by
  generalize hWa : w.alloc (.cells #[.int .u64 o, .int .u64 o] 23) = Wa
  have sa : Wa.heap.size = w.heap.size + 1 := by subst hWa; simp
  have ba : Below w.heap.size w Wa := by subst hWa; exact (Below.refl _ _).alloc (Nat.le_refl _) _
  have xa : Blk Wa w.heap.size #[.int .u64 o, .int .u64 o] := by subst hWa; exact Blk.new w _ _
  generalize hW : Wa.alloc (.cells #[.slice A1 n1 c1, .slice A2 n2 c2, .int .u64 v1, .int .u64 v2, .int .u8 (u.toNat : Int)] 26) = W
  have sb : W.heap.size = w.heap.size + 1 + 1 := by subst hW; simp [sa]
  have bb : Below w.heap.size w W := by subst hW; exact ba.alloc ba.size _
  have xb : Blk W (w.heap.size + 1) #[.slice A1 n1 c1, .slice A2 n2 c2, .int .u64 v1, .int .u64 v2, .int .u8 (u.toNat : Int)] := by subst hW; rw [← sa]; exact Blk.new Wa _ _
  have xa' : Blk W w.heap.size #[.int .u64 o, .int .u64 o] := by subst hW; exact xa.alloc _
  have e1 : W.cell? ⟨w.heap.size, 0, none⟩ = some (.int .u64 o) := xa'.cell 0
  have e2 : W.cell? ⟨w.heap.size, 1, none⟩ = some (.int .u64 o) := xa'.cell 1
  have e3 : W.cell? ⟨w.heap.size + 1, 0, none⟩ = some (.slice A1 n1 c1) := xb.cell 0
  have e4 : W.cell? ⟨w.heap.size + 1, 4, none⟩ = some (.int .u8 (u.toNat : Int)) := xb.cell 4
  have HX := Lib.hid (show ∀ V, Below W.heap.size W V → Byt V w.heap.size A1 n1 l1 ∧ Byt V w.heap.size A2 n2 l2 ∧ V.cell? ⟨w.heap.size + 1, 1, none⟩ = some (.slice A2 n2 c2) ∧ V.cell? ⟨w.heap.size + 1, 2, none⟩ = some (.int .u64 v1) ∧ V.cell? ⟨w.heap.size + 1, 3, none⟩ = some (.int .u64 v2) from
    fun V hV => ⟨(h1.below bb).below (hV.mono bb.size), (h2.below bb).below (hV.mono bb.size), (xb.below hV xb.lt).cell 1, (xb.below hV xb.lt).cell 2, (xb.below hV xb.lt).cell 3⟩)
  have BW := Lib.hid bb
  have LW := Lib.hid bb.size
  have hrg := Lib.hid (show n1 ≤ 140737488355328 ∧ n2 ≤ 140737488355328 by omega)
  have hob : (o != 0) = true := by simpa using h0
  clear h1 h2 ba xa bb xb xa' sb
  go_enter Try.func3, Try.ntmps3
  go_wp2_with fail
  try rw [hWa]
  try rw [hW]
  go_quiet (fail)
  clear hWa hW
  have HX := Lib.hid (fun V (hV : Below (W.drewN nq).heap.size (W.drewN nq) V) => HX.out V (((Still.drewN W nq).below _).trans hV))
  have BW := Lib.hid (BW.out.trans ((Still.drewN W nq).below _))
  have LW := Lib.hid (show w.heap.size ≤ (W.drewN nq).heap.size from LW.out)
  obtain ⟨V, hV⟩ : ∃ V, W.drewN nq = V := ⟨_, rfl⟩
  rw [hV] at HX BW LW
  rw [hV]
  clear hV e1 e2 e3 e4
  have N0 := Lib.hid (Ns.none_ V V.heap.size (fun _ => False))
  have B0 := Lib.hid (Below.refl V.heap.size V)
  obtain ⟨y1, _, y3, y4, y5⟩ := HX.out V B0.out
  have C1 := Lib.hid (N0.out.inner_ B0.out.size (fun _ q => q.elim) none 0 o n1 c1 w.heap.size l1 (mt_none _ _) (fun i e => by cases e) y1 (Nat.le_trans LW.out B0.out.size) (by omega) (fun i _ e => by cases e))
  rw [show mtr none = .pointer none from rfl] at C1
  clear y1
  go_wp2_with fail
  (with_reducible refine C1.out.mono ?_)
  rintro e w1 ⟨g1, rfl, nn, kk, _⟩
  have N1 := Lib.hid (show Ns w1 V.heap.size (fun _ => False) [(g1, (⟨false, o, l1, 0, false, []⟩ : Nd))] from nn)
  have B1 := Lib.hid (B0.out.trans (kk.below B0.out.size (fun i e => by cases e)))
  clear nn kk y3 y4 y5 C1
  obtain ⟨y1, _, y3, y4, y5⟩ := HX.out w1 B1.out
  have C2 := Lib.hid (N1.out.leaf_ B1.out.size (fun _ q => q.elim) none 0 o v1 n1 c1 w.heap.size l1 (mt_none _ _) (fun i e => by cases e) y1 (Nat.le_trans LW.out B1.out.size) (by omega) (fun i _ e => by cases e))
  rw [show mtr none = .pointer none from rfl] at C2
  clear y1
  go_wp2_with fail
  (with_reducible refine C2.out.mono ?_)
  rintro e w2 ⟨g2, rfl, nn, kk, _⟩
  have N2 := Lib.hid (show Ns w2 V.heap.size (fun _ => False) [(g1, (⟨false, o, l1, 0, false, []⟩ : Nd)), (g2, (⟨true, o, l1, v1, true, []⟩ : Nd))] from nn)
  have B2 := Lib.hid (B1.out.trans (kk.below B1.out.size (fun i e => by cases e)))
  clear nn kk y3 y4 y5 C2
  obtain ⟨y1, _, y3, y4, y5⟩ := HX.out w2 B2.out
  have C3 := Lib.hid (N2.out.leaf_ B2.out.size (fun _ q => q.elim) none 0 o v1 n1 c1 w.heap.size l1 (mt_none _ _) (fun i e => by cases e) y1 (Nat.le_trans LW.out B2.out.size) (by omega) (fun i _ e => by cases e))
  rw [show mtr none = .pointer none from rfl] at C3
  clear y1
  go_wp2_with fail
  (with_reducible refine C3.out.mono ?_)
  rintro e w3 ⟨g3, rfl, nn, kk, _⟩
  have N3 := Lib.hid (show Ns w3 V.heap.size (fun _ => False) [(g1, (⟨false, o, l1, 0, false, []⟩ : Nd)), (g2, (⟨true, o, l1, v1, true, []⟩ : Nd)), (g3, (⟨true, o, l1, v1, true, []⟩ : Nd))] from nn)
  have B3 := Lib.hid (B2.out.trans (kk.below B2.out.size (fun i e => by cases e)))
  clear nn kk y3 y4 y5 C3
  go_wp2_with fail
  (with_reducible refine (nalive_any _).mono ?_)
  rintro e wz ⟨rfl, hb⟩
  have HE := Lib.hid (BW.out.trans ((B3.out.trans (hb.mono B3.out.size)).mono LW.out))
  clear hb
  go_wp2
  go_ret
  exact ⟨rfl, HE.out⟩

set_option maxRecDepth 100000 in
set_option maxHeartbeats 4000000 in
theorem w_lod (o p : Int) (A1 : Option Addr) (n1 c1 : Nat) (l1 : List UInt8) (A2 : Option Addr) (n2 c2 : Nat) (l2 : List UInt8) (v1 v2 : Int) (u : UInt8) (w : World) (h1 : Byt w w.heap.size A1 n1 l1) (hr1 : n1 ≤ 140737488351232) (h2 : Byt w w.heap.size A2 n2 l2) (hr2 : n2 ≤ 140737488351232) (h0 : ¬ o = 0) (hp : ¬ p = o) :
    Calls Try.prog 3 #[.bool true, .agg #[.int .u64 o, .int .u64 p], .agg #[.slice A1 n1 c1, .slice A2 n2 c2, .int .u64 v1, .int .u64 v2, .int .u8 (u.toNat : Int)]] w fun e w' => e = .returned (.bool true) ∧ Below w.heap.size w w' := by
  generalize hWa : w.alloc (.cells #[.int .u64 o, .int .u64 p] 23) = Wa
  have sa : Wa.heap.size = w.heap.size + 1 := by subst hWa; simp
  have ba : Below w.heap.size w Wa := by subst hWa; exact (Below.refl _ _).alloc (Nat.le_refl _) _
  have xa : Blk Wa w.heap.size #[.int .u64 o, .int .u64 p] := by subst hWa; exact Blk.new w _ _
  generalize hW : Wa.alloc (.cells #[.slice A1 n1 c1, .slice A2 n2 c2, .int .u64 v1, .int .u64 v2, .int .u8 (u.toNat : Int)] 26) = W
  have sb : W.heap.size = w.heap.size + 1 + 1 := by subst hW; simp [sa]
  have bb : Below w.heap.size w W := by subst hW; exact ba.alloc ba.size _
  have xb : Blk W (w.heap.size + 1) #[.slice A1 n1 c1, .slice A2 n2 c2, .int .u64 v1, .int .u64 v2, .int .u8 (u.toNat : Int)] := by subst hW; rw [← sa]; exact Blk.new Wa _ _
  have xa' : Blk W w.heap.size #[.int .u64 o, .int .u64 p] := by subst hW; exact xa.alloc _
  have e1 : W.cell? ⟨w.heap.size, 0, none⟩ = some (.int .u64 o) := xa'.cell 0
  have e2 : W.cell? ⟨w.heap.size, 1, none⟩ = some (.int .u64 p) := xa'.cell 1
  have e3 : W.cell? ⟨w.heap.size + 1, 0, none⟩ = some (.slice A1 n1 c1) := xb.cell 0
  have e4 : W.cell? ⟨w.heap.size + 1, 4, none⟩ = some (.int .u8 (u.toNat : Int)) := xb.cell 4
  have HX := Lib.hid (show ∀ V, Below W.heap.size W V → Byt V w.heap.size A1 n1 l1 ∧ Byt V w.heap.size A2 n2 l2 ∧ V.cell? ⟨w.heap.size + 1, 1, none⟩ = some (.slice A2 n2 c2) ∧ V.cell? ⟨w.heap.size + 1, 2, none⟩ = some (.int .u64 v1) ∧ V.cell? ⟨w.heap.size + 1, 3, none⟩ = some (.int .u64 v2) from
    fun V hV => ⟨(h1.below bb).below (hV.mono bb.size), (h2.below bb).below (hV.mono bb.size), (xb.below hV xb.lt).cell 1, (xb.below hV xb.lt).cell 2, (xb.below hV xb.lt).cell 3⟩)
  have BW := Lib.hid bb
  have LW := Lib.hid bb.size
  have hrg := Lib.hid (show n1 ≤ 140737488355328 ∧ n2 ≤ 140737488355328 by omega)
  have HM := Lib.hid (show mineB o p = false from (mine_no hp))
  have hpb : (p == o) = false := by simpa using hp
  have hob : (o != 0) = true := by simpa using h0
  clear h1 h2 ba xa bb xb xa' sb
  go_enter Try.func3, Try.ntmps3
  go_wp2_with fail
  try rw [hWa]
  try rw [hW]
  go_quiet (fail)
  clear hWa hW
  have HX := Lib.hid (fun V (hV : Below (W.drewN nq).heap.size (W.drewN nq) V) => HX.out V (((Still.drewN W nq).below _).trans hV))
  have BW := Lib.hid (BW.out.trans ((Still.drewN W nq).below _))
  have LW := Lib.hid (show w.heap.size ≤ (W.drewN nq).heap.size from LW.out)
  obtain ⟨V, hV⟩ : ∃ V, W.drewN nq = V := ⟨_, rfl⟩
  rw [hV] at HX BW LW
  rw [hV]
  clear hV e1 e2 e3 e4
  have N0 := Lib.hid (Ns.none_ V V.heap.size (fun _ => False))
  have B0 := Lib.hid (Below.refl V.heap.size V)
  obtain ⟨y1, _, y3, y4, y5⟩ := HX.out V B0.out
  have C1 := Lib.hid (N0.out.inner_ B0.out.size (fun _ q => q.elim) none 0 o n1 c1 w.heap.size l1 (mt_none _ _) (fun i e => by cases e) y1 (Nat.le_trans LW.out B0.out.size) (by omega) (fun i _ e => by cases e))
  rw [show mtr none = .pointer none from rfl] at C1
  clear y1
  go_wp2_with fail
  (with_reducible refine C1.out.mono ?_)
  rintro e w1 ⟨g1, rfl, nn, kk, _⟩
  have N1 := Lib.hid (show Ns w1 V.heap.size (fun _ => False) [(g1, (⟨false, o, l1, 0, false, []⟩ : Nd))] from nn)
  have B1 := Lib.hid (B0.out.trans (kk.below B0.out.size (fun i e => by cases e)))
  clear nn kk y3 y4 y5 C1
  obtain ⟨y1, _, y3, y4, y5⟩ := HX.out w1 B1.out
  have C2 := Lib.hid (N1.out.leaf_ B1.out.size (fun _ q => q.elim) none 0 o v1 n1 c1 w.heap.size l1 (mt_none _ _) (fun i e => by cases e) y1 (Nat.le_trans LW.out B1.out.size) (by omega) (fun i _ e => by cases e))
  rw [show mtr none = .pointer none from rfl] at C2
  clear y1
  go_wp2_with fail
  (with_reducible refine C2.out.mono ?_)
  rintro e w2 ⟨g2, rfl, nn, kk, _⟩
  have N2 := Lib.hid (show Ns w2 V.heap.size (fun _ => False) [(g1, (⟨false, o, l1, 0, false, []⟩ : Nd)), (g2, (⟨true, o, l1, v1, true, []⟩ : Nd))] from nn)
  have B2 := Lib.hid (B1.out.trans (kk.below B1.out.size (fun i e => by cases e)))
  clear nn kk y3 y4 y5 C2
  obtain ⟨y1, _, y3, y4, y5⟩ := HX.out w2 B2.out
  have C3 := Lib.hid (N2.out.leaf_ B2.out.size (fun _ q => q.elim) none 0 o v1 n1 c1 w.heap.size l1 (mt_none _ _) (fun i e => by cases e) y1 (Nat.le_trans LW.out B2.out.size) (by omega) (fun i _ e => by cases e))
  rw [show mtr none = .pointer none from rfl] at C3
  clear y1
  go_wp2_with fail
  (with_reducible refine C3.out.mono ?_)
  rintro e w3 ⟨g3, rfl, nn, kk, _⟩
  have N3 := Lib.hid (show Ns w3 V.heap.size (fun _ => False) [(g1, (⟨false, o, l1, 0, false, []⟩ : Nd)), (g2, (⟨true, o, l1, v1, true, []⟩ : Nd)), (g3, (⟨true, o, l1, v1, true, []⟩ : Nd))] from nn)
  have B3 := Lib.hid (B2.out.trans (kk.below B2.out.size (fun i e => by cases e)))
  clear nn kk y3 y4 y5 C3
  have C4 := Lib.hid (N3.out.val_ (k := 1) rfl)
  go_wp2_with fail
  (with_reducible refine C4.out.mono ?_)
  rintro e w4 ⟨rfl, hs⟩
  have N4 := Lib.hid (N3.out.still hs)
  have B4 := Lib.hid (B3.out.trans (hs.below _))
  clear hs C4
  have C5 := Lib.hid (N4.out.len_ (k := 1) rfl)
  go_wp2_with fail
  (with_reducible refine C5.out.mono ?_)
  rintro e w5 ⟨rfl, hs⟩
  have N5 := Lib.hid (N4.out.still hs)
  have B5 := Lib.hid (B4.out.trans (hs.below _))
  clear hs C5
  obtain ⟨y1, y2, y3, y4, y5⟩ := HX.out w5 B5.out
  have C6 := Lib.hid (N5.out.f_setpart (k := 1) rfl B5.out.size (fun _ q => q.elim) HM.out A2 n2 c2 w.heap.size l2 y2 (Nat.le_trans LW.out B5.out.size) (by omega))
  clear y1 y2
  go_wp2_with fail
  (with_reducible refine C6.out.mono ?_)
  rintro e w6 ⟨rfl, nn, kk⟩
  have N6 := Lib.hid (show Ns w6 V.heap.size (fun _ => False) [(g1, (⟨false, o, l1, 0, false, []⟩ : Nd)), (g2, (⟨true, o, l1, v1, true, []⟩ : Nd)), (g3, (⟨true, o, l1, v1, true, []⟩ : Nd))] from nn)
  have B6 := Lib.hid (B5.out.trans (kk.below B5.out.size (fun i e => e.1)))
  clear nn kk y3 y4 y5 C6
  obtain ⟨y1, y2, y3, y4, y5⟩ := HX.out w6 B6.out
  have C7 := Lib.hid (N6.out.f_setval (k := 1) rfl B6.out.size (fun _ q => q.elim) HM.out v2)
  clear y1 y2
  go_wp2_with fail
  (with_reducible refine C7.out.mono ?_)
  rintro e w7 ⟨rfl, nn, kk⟩
  have N7 := Lib.hid (show Ns w7 V.heap.size (fun _ => False) [(g1, (⟨false, o, l1, 0, false, []⟩ : Nd)), (g2, (⟨true, o, l1, v1, true, []⟩ : Nd)), (g3, (⟨true, o, l1, v1, true, []⟩ : Nd))] from nn)
  have B7 := Lib.hid (B6.out.trans (kk.below B6.out.size (fun i e => e.1)))
  clear nn kk y3 y4 y5 C7
  obtain ⟨y1, y2, y3, y4, y5⟩ := HX.out w7 B7.out
  have C8 := Lib.hid (N7.out.f_dropval (k := 1) rfl B7.out.size (fun _ q => q.elim) HM.out)
  clear y1 y2
  go_wp2_with fail
  (with_reducible refine C8.out.mono ?_)
  rintro e w8 ⟨rfl, nn, kk⟩
  have N8 := Lib.hid (show Ns w8 V.heap.size (fun _ => False) [(g1, (⟨false, o, l1, 0, false, []⟩ : Nd)), (g2, (⟨true, o, l1, v1, true, []⟩ : Nd)), (g3, (⟨true, o, l1, v1, true, []⟩ : Nd))] from nn)
  have B8 := Lib.hid (B7.out.trans (kk.below B7.out.size (fun i e => e.1)))
  clear nn kk y3 y4 y5 C8
  obtain ⟨y1, y2, y3, y4, y5⟩ := HX.out w8 B8.out
  have C9 := Lib.hid (N8.out.f_setkid (k := 1) (j := 1) rfl rfl B8.out.size (fun _ q => q.elim) HM.out u _ rfl)
  clear y1 y2
  go_wp2_with fail
  (with_reducible refine C9.out.mono ?_)
  rintro e w9 ⟨rfl, nn, kk⟩
  have N9 := Lib.hid (show Ns w9 V.heap.size (fun _ => False) [(g1, (⟨false, o, l1, 0, false, []⟩ : Nd)), (g2, (⟨true, o, l1, v1, true, []⟩ : Nd)), (g3, (⟨true, o, l1, v1, true, []⟩ : Nd))] from nn)
  have B9 := Lib.hid (B8.out.trans (kk.below B8.out.size (fun i e => e.1)))
  clear nn kk y3 y4 y5 C9
  obtain ⟨y1, y2, y3, y4, y5⟩ := HX.out w9 B9.out
  have C10 := Lib.hid (N9.out.f_dropkid (k := 1) rfl B9.out.size (fun _ q => q.elim) HM.out u _ rfl)
  clear y1 y2
  go_wp2_with fail
  (with_reducible refine C10.out.mono ?_)
  rintro e w10 ⟨rfl, nn, kk⟩
  have N10 := Lib.hid (show Ns w10 V.heap.size (fun _ => False) [(g1, (⟨false, o, l1, 0, false, []⟩ : Nd)), (g2, (⟨true, o, l1, v1, true, []⟩ : Nd)), (g3, (⟨true, o, l1, v1, true, []⟩ : Nd))] from nn)
  have B10 := Lib.hid (B9.out.trans (kk.below B9.out.size (fun i e => e.1)))
  clear nn kk y3 y4 y5 C10
  have C11 := Lib.hid (N10.out.val_ (k := 1) rfl)
  go_wp2_with fail
  (with_reducible refine C11.out.mono ?_)
  rintro e w11 ⟨rfl, hs⟩
  have N11 := Lib.hid (N10.out.still hs)
  have B11 := Lib.hid (B10.out.trans (hs.below _))
  clear hs C11
  have C12 := Lib.hid (N11.out.len_ (k := 1) rfl)
  go_wp2_with fail
  (with_reducible refine C12.out.mono ?_)
  rintro e w12 ⟨rfl, hs⟩
  have N12 := Lib.hid (N11.out.still hs)
  have B12 := Lib.hid (B11.out.trans (hs.below _))
  clear hs C12
  have C13 := Lib.hid (N12.out.part_ (k := 1) rfl)
  go_wp2_with fail
  (with_reducible refine C13.out.mono ?_)
  rintro e w13 ⟨A9, c9, rfl, z1, _, z3⟩
  have N13 := Lib.hid (N12.out.below z3)
  have B13 := Lib.hid (B12.out.trans (z3.mono B12.out.size))
  obtain ⟨y1, _⟩ := HX.out w13 B13.out
  have D13 := Lib.hid (rsame_any A9 A1 l1.length n1 c9 c1 w13.heap.size l1 l1 w13 z1 (y1.more (Nat.le_trans LW.out B13.out.size)))
  clear y1 z1 z3 C13
  go_wp2_with fail
  (with_reducible refine D13.out.mono ?_)
  rintro e w14 ⟨rfl, hs⟩
  rw [show sameB l1 l1 = true by simp [sameB]]
  have N14 := Lib.hid (N13.out.still hs)
  have B14 := Lib.hid (B13.out.trans (hs.below _))
  clear hs D13
  have C15 := Lib.hid (N14.out.owner_ (k := 1) rfl)
  go_wp2_with fail
  (with_reducible refine C15.out.mono ?_)
  rintro e w' ⟨rfl, rfl⟩
  clear C15
  go_wp2_with fail
  (with_reducible refine (nalive_any _).mono ?_)
  rintro e wz ⟨rfl, hb⟩
  have HE := Lib.hid (BW.out.trans ((B14.out.trans (hb.mono B14.out.size)).mono LW.out))
  clear hb
  go_wp2
  go_ret
  exact ⟨rfl, HE.out⟩

set_option maxRecDepth 100000 in
set_option maxHeartbeats 4000000 in
theorem w_izs (A1 : Option Addr) (n1 c1 : Nat) (l1 : List UInt8) (A2 : Option Addr) (n2 c2 : Nat) (l2 : List UInt8) (v1 v2 : Int) (u : UInt8) (w : World) (h1 : Byt w w.heap.size A1 n1 l1) (hr1 : n1 ≤ 140737488351232) (h2 : Byt w w.heap.size A2 n2 l2) (hr2 : n2 ≤ 140737488351232) :
    Calls Try.prog 3 #[.bool false, .agg #[.int .u64 0, .int .u64 0], .agg #[.slice A1 n1 c1, .slice A2 n2 c2, .int .u64 v1, .int .u64 v2, .int .u8 (u.toNat : Int)]] w fun e w' => e = .returned (.bool true) ∧ Below w.heap.size w w' := by
  generalize hWa : w.alloc (.cells #[.int .u64 0, .int .u64 0] 23) = Wa
  have sa : Wa.heap.size = w.heap.size + 1 := by subst hWa; simp
  have ba : Below w.heap.size w Wa := by subst hWa; exact (Below.refl _ _).alloc (Nat.le_refl _) _
  have xa : Blk Wa w.heap.size #[.int .u64 0, .int .u64 0] := by subst hWa; exact Blk.new w _ _
  generalize hW : Wa.alloc (.cells #[.slice A1 n1 c1, .slice A2 n2 c2, .int .u64 v1, .int .u64 v2, .int .u8 (u.toNat : Int)] 26) = W
  have sb : W.heap.size = w.heap.size + 1 + 1 := by subst hW; simp [sa]
  have bb : Below w.heap.size w W := by subst hW; exact ba.alloc ba.size _
  have xb : Blk W (w.heap.size + 1) #[.slice A1 n1 c1, .slice A2 n2 c2, .int .u64 v1, .int .u64 v2, .int .u8 (u.toNat : Int)] := by subst hW; rw [← sa]; exact Blk.new Wa _ _
  have xa' : Blk W w.heap.size #[.int .u64 0, .int .u64 0] := by subst hW; exact xa.alloc _
  have e1 : W.cell? ⟨w.heap.size, 0, none⟩ = some (.int .u64 0) := xa'.cell 0
  have e2 : W.cell? ⟨w.heap.size, 1, none⟩ = some (.int .u64 0) := xa'.cell 1
  have e3 : W.cell? ⟨w.heap.size + 1, 0, none⟩ = some (.slice A1 n1 c1) := xb.cell 0
  have e4 : W.cell? ⟨w.heap.size + 1, 4, none⟩ = some (.int .u8 (u.toNat : Int)) := xb.cell 4
  have HX := Lib.hid (show ∀ V, Below W.heap.size W V → Byt V w.heap.size A1 n1 l1 ∧ Byt V w.heap.size A2 n2 l2 ∧ V.cell? ⟨w.heap.size + 1, 1, none⟩ = some (.slice A2 n2 c2) ∧ V.cell? ⟨w.heap.size + 1, 2, none⟩ = some (.int .u64 v1) ∧ V.cell? ⟨w.heap.size + 1, 3, none⟩ = some (.int .u64 v2) from
    fun V hV => ⟨(h1.below bb).below (hV.mono bb.size), (h2.below bb).below (hV.mono bb.size), (xb.below hV xb.lt).cell 1, (xb.below hV xb.lt).cell 2, (xb.below hV xb.lt).cell 3⟩)
  have BW := Lib.hid bb
  have LW := Lib.hid bb.size
  have hrg := Lib.hid (show n1 ≤ 140737488355328 ∧ n2 ≤ 140737488355328 by omega)
  have HM := Lib.hid (show mineB 0 0 = false from (mine_zero 0))
  clear h1 h2 ba xa bb xb xa' sb
  go_enter Try.func3, Try.ntmps3
  go_wp2_with fail
  try rw [hWa]
  try rw [hW]
  go_quiet (fail)
  clear hWa hW
  have HX := Lib.hid (fun V (hV : Below (W.drewN nq).heap.size (W.drewN nq) V) => HX.out V (((Still.drewN W nq).below _).trans hV))
  have BW := Lib.hid (BW.out.trans ((Still.drewN W nq).below _))
  have LW := Lib.hid (show w.heap.size ≤ (W.drewN nq).heap.size from LW.out)
  obtain ⟨V, hV⟩ : ∃ V, W.drewN nq = V := ⟨_, rfl⟩
  rw [hV] at HX BW LW
  rw [hV]
  clear hV e1 e2 e3 e4
  have N0 := Lib.hid (Ns.none_ V V.heap.size (fun _ => False))
  have B0 := Lib.hid (Below.refl V.heap.size V)
  obtain ⟨y1, _, y3, y4, y5⟩ := HX.out V B0.out
  have C1 := Lib.hid (N0.out.inner_ B0.out.size (fun _ q => q.elim) none 0 0 n1 c1 w.heap.size l1 (mt_none _ _) (fun i e => by cases e) y1 (Nat.le_trans LW.out B0.out.size) (by omega) (fun i _ e => by cases e))
  rw [show mtr none = .pointer none from rfl] at C1
  clear y1
  go_wp2_with fail
  (with_reducible refine C1.out.mono ?_)
  rintro e w1 ⟨g1, rfl, nn, kk, _⟩
  have N1 := Lib.hid (show Ns w1 V.heap.size (fun _ => False) [(g1, (⟨false, 0, l1, 0, false, []⟩ : Nd))] from nn)
  have B1 := Lib.hid (B0.out.trans (kk.below B0.out.size (fun i e => by cases e)))
  clear nn kk y3 y4 y5 C1
  obtain ⟨y1, _, y3, y4, y5⟩ := HX.out w1 B1.out
  have C2 := Lib.hid (N1.out.leaf_ B1.out.size (fun _ q => q.elim) none 0 0 v1 n1 c1 w.heap.size l1 (mt_none _ _) (fun i e => by cases e) y1 (Nat.le_trans LW.out B1.out.size) (by omega) (fun i _ e => by cases e))
  rw [show mtr none = .pointer none from rfl] at C2
  clear y1
  go_wp2_with fail
  (with_reducible refine C2.out.mono ?_)
  rintro e w2 ⟨g3, rfl, nn, kk, _⟩
  have N2 := Lib.hid (show Ns w2 V.heap.size (fun _ => False) [(g1, (⟨false, 0, l1, 0, false, []⟩ : Nd)), (g3, (⟨true, 0, l1, v1, true, []⟩ : Nd))] from nn)
  have B2 := Lib.hid (B1.out.trans (kk.below B1.out.size (fun i e => by cases e)))
  clear nn kk y3 y4 y5 C2
  have C3 := Lib.hid (N2.out.val_ (k := 0) rfl)
  go_wp2_with fail
  (with_reducible refine C3.out.mono ?_)
  rintro e w3 ⟨rfl, hs⟩
  have N3 := Lib.hid (N2.out.still hs)
  have B3 := Lib.hid (B2.out.trans (hs.below _))
  clear hs C3
  have C4 := Lib.hid (N3.out.len_ (k := 0) rfl)
  go_wp2_with fail
  (with_reducible refine C4.out.mono ?_)
  rintro e w4 ⟨rfl, hs⟩
  have N4 := Lib.hid (N3.out.still hs)
  have B4 := Lib.hid (B3.out.trans (hs.below _))
  clear hs C4
  obtain ⟨y1, y2, y3, y4, y5⟩ := HX.out w4 B4.out
  have C5 := Lib.hid (N4.out.f_setpart (k := 0) rfl B4.out.size (fun _ q => q.elim) HM.out A2 n2 c2 w.heap.size l2 y2 (Nat.le_trans LW.out B4.out.size) (by omega))
  clear y1 y2
  go_wp2_with fail
  (with_reducible refine C5.out.mono ?_)
  rintro e w5 ⟨rfl, nn, kk⟩
  have N5 := Lib.hid (show Ns w5 V.heap.size (fun _ => False) [(g1, (⟨false, 0, l1, 0, false, []⟩ : Nd)), (g3, (⟨true, 0, l1, v1, true, []⟩ : Nd))] from nn)
  have B5 := Lib.hid (B4.out.trans (kk.below B4.out.size (fun i e => e.1)))
  clear nn kk y3 y4 y5 C5
  obtain ⟨y1, y2, y3, y4, y5⟩ := HX.out w5 B5.out
  have C6 := Lib.hid (N5.out.f_setval (k := 0) rfl B5.out.size (fun _ q => q.elim) HM.out v2)
  clear y1 y2
  go_wp2_with fail
  (with_reducible refine C6.out.mono ?_)
  rintro e w6 ⟨rfl, nn, kk⟩
  have N6 := Lib.hid (show Ns w6 V.heap.size (fun _ => False) [(g1, (⟨false, 0, l1, 0, false, []⟩ : Nd)), (g3, (⟨true, 0, l1, v1, true, []⟩ : Nd))] from nn)
  have B6 := Lib.hid (B5.out.trans (kk.below B5.out.size (fun i e => e.1)))
  clear nn kk y3 y4 y5 C6
  obtain ⟨y1, y2, y3, y4, y5⟩ := HX.out w6 B6.out
  have C7 := Lib.hid (N6.out.f_dropval (k := 0) rfl B6.out.size (fun _ q => q.elim) HM.out)
  clear y1 y2
  go_wp2_with fail
  (with_reducible refine C7.out.mono ?_)
  rintro e w7 ⟨rfl, nn, kk⟩
  have N7 := Lib.hid (show Ns w7 V.heap.size (fun _ => False) [(g1, (⟨false, 0, l1, 0, false, []⟩ : Nd)), (g3, (⟨true, 0, l1, v1, true, []⟩ : Nd))] from nn)
  have B7 := Lib.hid (B6.out.trans (kk.below B6.out.size (fun i e => e.1)))
  clear nn kk y3 y4 y5 C7
  obtain ⟨y1, y2, y3, y4, y5⟩ := HX.out w7 B7.out
  have C8 := Lib.hid (N7.out.f_setkid (k := 0) (j := 0) rfl rfl B7.out.size (fun _ q => q.elim) HM.out u _ rfl)
  clear y1 y2
  go_wp2_with fail
  (with_reducible refine C8.out.mono ?_)
  rintro e w8 ⟨rfl, nn, kk⟩
  have N8 := Lib.hid (show Ns w8 V.heap.size (fun _ => False) [(g1, (⟨false, 0, l1, 0, false, []⟩ : Nd)), (g3, (⟨true, 0, l1, v1, true, []⟩ : Nd))] from nn)
  have B8 := Lib.hid (B7.out.trans (kk.below B7.out.size (fun i e => e.1)))
  clear nn kk y3 y4 y5 C8
  obtain ⟨y1, y2, y3, y4, y5⟩ := HX.out w8 B8.out
  have C9 := Lib.hid (N8.out.f_dropkid (k := 0) rfl B8.out.size (fun _ q => q.elim) HM.out u _ rfl)
  clear y1 y2
  go_wp2_with fail
  (with_reducible refine C9.out.mono ?_)
  rintro e w9 ⟨rfl, nn, kk⟩
  have N9 := Lib.hid (show Ns w9 V.heap.size (fun _ => False) [(g1, (⟨false, 0, l1, 0, false, []⟩ : Nd)), (g3, (⟨true, 0, l1, v1, true, []⟩ : Nd))] from nn)
  have B9 := Lib.hid (B8.out.trans (kk.below B8.out.size (fun i e => e.1)))
  clear nn kk y3 y4 y5 C9
  have C10 := Lib.hid (N9.out.val_ (k := 0) rfl)
  go_wp2_with fail
  (with_reducible refine C10.out.mono ?_)
  rintro e w10 ⟨rfl, hs⟩
  have N10 := Lib.hid (N9.out.still hs)
  have B10 := Lib.hid (B9.out.trans (hs.below _))
  clear hs C10
  have C11 := Lib.hid (N10.out.len_ (k := 0) rfl)
  go_wp2_with fail
  (with_reducible refine C11.out.mono ?_)
  rintro e w11 ⟨rfl, hs⟩
  have N11 := Lib.hid (N10.out.still hs)
  have B11 := Lib.hid (B10.out.trans (hs.below _))
  clear hs C11
  have C12 := Lib.hid (N11.out.part_ (k := 0) rfl)
  go_wp2_with fail
  (with_reducible refine C12.out.mono ?_)
  rintro e w12 ⟨A9, c9, rfl, z1, _, z3⟩
  have N12 := Lib.hid (N11.out.below z3)
  have B12 := Lib.hid (B11.out.trans (z3.mono B11.out.size))
  obtain ⟨y1, _⟩ := HX.out w12 B12.out
  have D12 := Lib.hid (rsame_any A9 A1 l1.length n1 c9 c1 w12.heap.size l1 l1 w12 z1 (y1.more (Nat.le_trans LW.out B12.out.size)))
  clear y1 z1 z3 C12
  go_wp2_with fail
  (with_reducible refine D12.out.mono ?_)
  rintro e w13 ⟨rfl, hs⟩
  rw [show sameB l1 l1 = true by simp [sameB]]
  have N13 := Lib.hid (N12.out.still hs)
  have B13 := Lib.hid (B12.out.trans (hs.below _))
  clear hs D12
  have C14 := Lib.hid (N13.out.owner_ (k := 0) rfl)
  go_wp2_with fail
  (with_reducible refine C14.out.mono ?_)
  rintro e w' ⟨rfl, rfl⟩
  clear C14
  go_wp2_with fail
  (with_reducible refine (nalive_any _).mono ?_)
  rintro e wz ⟨rfl, hb⟩
  have HE := Lib.hid (BW.out.trans ((B13.out.trans (hb.mono B13.out.size)).mono LW.out))
  clear hb
  go_wp2
  go_ret
  exact ⟨rfl, HE.out⟩

set_option maxRecDepth 100000 in
set_option maxHeartbeats 4000000 in
theorem w_izd (p : Int) (A1 : Option Addr) (n1 c1 : Nat) (l1 : List UInt8) (A2 : Option Addr) (n2 c2 : Nat) (l2 : List UInt8) (v1 v2 : Int) (u : UInt8) (w : World) (h1 : Byt w w.heap.size A1 n1 l1) (hr1 : n1 ≤ 140737488351232) (h2 : Byt w w.heap.size A2 n2 l2) (hr2 : n2 ≤ 140737488351232) (hp : ¬ p = 0) :
    Calls Try.prog 3 #[.bool false, .agg #[.int .u64 0, .int .u64 p], .agg #[.slice A1 n1 c1, .slice A2 n2 c2, .int .u64 v1, .int .u64 v2, .int .u8 (u.toNat : Int)]] w fun e w' => e = .returned (.bool true) ∧ Below w.heap.size w w' := by
  generalize hWa : w.alloc (.cells #[.int .u64 0, .int .u64 p] 23) = Wa
  have sa : Wa.heap.size = w.heap.size + 1 := by subst hWa; simp
  have ba : Below w.heap.size w Wa := by subst hWa; exact (Below.refl _ _).alloc (Nat.le_refl _) _
  have xa : Blk Wa w.heap.size #[.int .u64 0, .int .u64 p] := by subst hWa; exact Blk.new w _ _
  generalize hW : Wa.alloc (.cells #[.slice A1 n1 c1, .slice A2 n2 c2, .int .u64 v1, .int .u64 v2, .int .u8 (u.toNat : Int)] 26) = W
  have sb : W.heap.size = w.heap.size + 1 + 1 := by subst hW; simp [sa]
  have bb : Below w.heap.size w W := by subst hW; exact ba.alloc ba.size _
  have xb : Blk W (w.heap.size + 1) #[.slice A1 n1 c1, .slice A2 n2 c2, .int .u64 v1, .int .u64 v2, .int .u8 (u.toNat : Int)] := by subst hW; rw [← sa]; exact Blk.new Wa _ _
  have xa' : Blk W w.heap.size #[.int .u64 0, .int .u64 p] := by subst hW; exact xa.alloc _
  have e1 : W.cell? ⟨w.heap.size, 0, none⟩ = some (.int .u64 0) := xa'.cell 0
  have e2 : W.cell? ⟨w.heap.size, 1, none⟩ = some (.int .u64 p) := xa'.cell 1
  have e3 : W.cell? ⟨w.heap.size + 1, 0, none⟩ = some (.slice A1 n1 c1) := xb.cell 0
  have e4 : W.cell? ⟨w.heap.size + 1, 4, none⟩ = some (.int .u8 (u.toNat : Int)) := xb.cell 4
  have HX := Lib.hid (show ∀ V, Below W.heap.size W V → Byt V w.heap.size A1 n1 l1 ∧ Byt V w.heap.size A2 n2 l2 ∧ V.cell? ⟨w.heap.size + 1, 1, none⟩ = some (.slice A2 n2 c2) ∧ V.cell? ⟨w.heap.size + 1, 2, none⟩ = some (.int .u64 v1) ∧ V.cell? ⟨w.heap.size + 1, 3, none⟩ = some (.int .u64 v2) from
    fun V hV => ⟨(h1.below bb).below (hV.mono bb.size), (h2.below bb).below (hV.mono bb.size), (xb.below hV xb.lt).cell 1, (xb.below hV xb.lt).cell 2, (xb.below hV xb.lt).cell 3⟩)
  have BW := Lib.hid bb
  have LW := Lib.hid bb.size
  have hrg := Lib.hid (show n1 ≤ 140737488355328 ∧ n2 ≤ 140737488355328 by omega)
  have HM := Lib.hid (show mineB 0 p = false from (mine_no hp))
  have hpb : (p == 0) = false := by simpa using hp
  clear h1 h2 ba xa bb xb xa' sb
  go_enter Try.func3, Try.ntmps3
  go_wp2_with fail
  try rw [hWa]
  try rw [hW]
  go_quiet (fail)
  clear hWa hW
  have HX := Lib.hid (fun V (hV : Below (W.drewN nq).heap.size (W.drewN nq) V) => HX.out V (((Still.drewN W nq).below _).trans hV))
  have BW := Lib.hid (BW.out.trans ((Still.drewN W nq).below _))
  have LW := Lib.hid (show w.heap.size ≤ (W.drewN nq).heap.size from LW.out)
  obtain ⟨V, hV⟩ : ∃ V, W.drewN nq = V := ⟨_, rfl⟩
  rw [hV] at HX BW LW
  rw [hV]
  clear hV e1 e2 e3 e4
  have N0 := Lib.hid (Ns.none_ V V.heap.size (fun _ => False))
  have B0 := Lib.hid (Below.refl V.heap.size V)
  obtain ⟨y1, _, y3, y4, y5⟩ := HX.out V B0.out
  have C1 := Lib.hid (N0.out.inner_ B0.out.size (fun _ q => q.elim) none 0 0 n1 c1 w.heap.size l1 (mt_none _ _) (fun i e => by cases e) y1 (Nat.le_trans LW.out B0.out.size) (by omega) (fun i _ e => by cases e))
  rw [show mtr none = .pointer none from rfl] at C1
  clear y1
  go_wp2_with fail
  (with_reducible refine C1.out.mono ?_)
  rintro e w1 ⟨g1, rfl, nn, kk, _⟩
  have N1 := Lib.hid (show Ns w1 V.heap.size (fun _ => False) [(g1, (⟨false, 0, l1, 0, false, []⟩ : Nd))] from nn)
  have B1 := Lib.hid (B0.out.trans (kk.below B0.out.size (fun i e => by cases e)))
  clear nn kk y3 y4 y5 C1
  obtain ⟨y1, _, y3, y4, y5⟩ := HX.out w1 B1.out
  have C2 := Lib.hid (N1.out.leaf_ B1.out.size (fun _ q => q.elim) none 0 0 v1 n1 c1 w.heap.size l1 (mt_none _ _) (fun i e => by cases e) y1 (Nat.le_trans LW.out B1.out.size) (by omega) (fun i _ e => by cases e))
  rw [show mtr none = .pointer none from rfl] at C2
  clear y1
  go_wp2_with fail
  (with_reducible refine C2.out.mono ?_)
  rintro e w2 ⟨g3, rfl, nn, kk, _⟩
  have N2 := Lib.hid (show Ns w2 V.heap.size (fun _ => False) [(g1, (⟨false, 0, l1, 0, false, []⟩ : Nd)), (g3, (⟨true, 0, l1, v1, true, []⟩ : Nd))] from nn)
  have B2 := Lib.hid (B1.out.trans (kk.below B1.out.size (fun i e => by cases e)))
  clear nn kk y3 y4 y5 C2
  have C3 := Lib.hid (N2.out.val_ (k := 0) rfl)
  go_wp2_with fail
  (with_reducible refine C3.out.mono ?_)
  rintro e w3 ⟨rfl, hs⟩
  have N3 := Lib.hid (N2.out.still hs)
  have B3 := Lib.hid (B2.out.trans (hs.below _))
  clear hs C3
  have C4 := Lib.hid (N3.out.len_ (k := 0) rfl)
  go_wp2_with fail
  (with_reducible refine C4.out.mono ?_)
  rintro e w4 ⟨rfl, hs⟩
  have N4 := Lib.hid (N3.out.still hs)
  have B4 := Lib.hid (B3.out.trans (hs.below _))
  clear hs C4
  obtain ⟨y1, y2, y3, y4, y5⟩ := HX.out w4 B4.out
  have C5 := Lib.hid (N4.out.f_setpart (k := 0) rfl B4.out.size (fun _ q => q.elim) HM.out A2 n2 c2 w.heap.size l2 y2 (Nat.le_trans LW.out B4.out.size) (by omega))
  clear y1 y2
  go_wp2_with fail
  (with_reducible refine C5.out.mono ?_)
  rintro e w5 ⟨rfl, nn, kk⟩
  have N5 := Lib.hid (show Ns w5 V.heap.size (fun _ => False) [(g1, (⟨false, 0, l1, 0, false, []⟩ : Nd)), (g3, (⟨true, 0, l1, v1, true, []⟩ : Nd))] from nn)
  have B5 := Lib.hid (B4.out.trans (kk.below B4.out.size (fun i e => e.1)))
  clear nn kk y3 y4 y5 C5
  obtain ⟨y1, y2, y3, y4, y5⟩ := HX.out w5 B5.out
  have C6 := Lib.hid (N5.out.f_setval (k := 0) rfl B5.out.size (fun _ q => q.elim) HM.out v2)
  clear y1 y2
  go_wp2_with fail
  (with_reducible refine C6.out.mono ?_)
  rintro e w6 ⟨rfl, nn, kk⟩
  have N6 := Lib.hid (show Ns w6 V.heap.size (fun _ => False) [(g1, (⟨false, 0, l1, 0, false, []⟩ : Nd)), (g3, (⟨true, 0, l1, v1, true, []⟩ : Nd))] from nn)
  have B6 := Lib.hid (B5.out.trans (kk.below B5.out.size (fun i e => e.1)))
  clear nn kk y3 y4 y5 C6
  obtain ⟨y1, y2, y3, y4, y5⟩ := HX.out w6 B6.out
  have C7 := Lib.hid (N6.out.f_dropval (k := 0) rfl B6.out.size (fun _ q => q.elim) HM.out)
  clear y1 y2
  go_wp2_with fail
  (with_reducible refine C7.out.mono ?_)
  rintro e w7 ⟨rfl, nn, kk⟩
  have N7 := Lib.hid (show Ns w7 V.heap.size (fun _ => False) [(g1, (⟨false, 0, l1, 0, false, []⟩ : Nd)), (g3, (⟨true, 0, l1, v1, true, []⟩ : Nd))] from nn)
  have B7 := Lib.hid (B6.out.trans (kk.below B6.out.size (fun i e => e.1)))
  clear nn kk y3 y4 y5 C7
  obtain ⟨y1, y2, y3, y4, y5⟩ := HX.out w7 B7.out
  have C8 := Lib.hid (N7.out.f_setkid (k := 0) (j := 0) rfl rfl B7.out.size (fun _ q => q.elim) HM.out u _ rfl)
  clear y1 y2
  go_wp2_with fail
  (with_reducible refine C8.out.mono ?_)
  rintro e w8 ⟨rfl, nn, kk⟩
  have N8 := Lib.hid (show Ns w8 V.heap.size (fun _ => False) [(g1, (⟨false, 0, l1, 0, false, []⟩ : Nd)), (g3, (⟨true, 0, l1, v1, true, []⟩ : Nd))] from nn)
  have B8 := Lib.hid (B7.out.trans (kk.below B7.out.size (fun i e => e.1)))
  clear nn kk y3 y4 y5 C8
  obtain ⟨y1, y2, y3, y4, y5⟩ := HX.out w8 B8.out
  have C9 := Lib.hid (N8.out.f_dropkid (k := 0) rfl B8.out.size (fun _ q => q.elim) HM.out u _ rfl)
  clear y1 y2
  go_wp2_with fail
  (with_reducible refine C9.out.mono ?_)
  rintro e w9 ⟨rfl, nn, kk⟩
  have N9 := Lib.hid (show Ns w9 V.heap.size (fun _ => False) [(g1, (⟨false, 0, l1, 0, false, []⟩ : Nd)), (g3, (⟨true, 0, l1, v1, true, []⟩ : Nd))] from nn)
  have B9 := Lib.hid (B8.out.trans (kk.below B8.out.size (fun i e => e.1)))
  clear nn kk y3 y4 y5 C9
  have C10 := Lib.hid (N9.out.val_ (k := 0) rfl)
  go_wp2_with fail
  (with_reducible refine C10.out.mono ?_)
  rintro e w10 ⟨rfl, hs⟩
  have N10 := Lib.hid (N9.out.still hs)
  have B10 := Lib.hid (B9.out.trans (hs.below _))
  clear hs C10
  have C11 := Lib.hid (N10.out.len_ (k := 0) rfl)
  go_wp2_with fail
  (with_reducible refine C11.out.mono ?_)
  rintro e w11 ⟨rfl, hs⟩
  have N11 := Lib.hid (N10.out.still hs)
  have B11 := Lib.hid (B10.out.trans (hs.below _))
  clear hs C11
  have C12 := Lib.hid (N11.out.part_ (k := 0) rfl)
  go_wp2_with fail
  (with_reducible refine C12.out.mono ?_)
  rintro e w12 ⟨A9, c9, rfl, z1, _, z3⟩
  have N12 := Lib.hid (N11.out.below z3)
  have B12 := Lib.hid (B11.out.trans (z3.mono B11.out.size))
  obtain ⟨y1, _⟩ := HX.out w12 B12.out
  have D12 := Lib.hid (rsame_any A9 A1 l1.length n1 c9 c1 w12.heap.size l1 l1 w12 z1 (y1.more (Nat.le_trans LW.out B12.out.size)))
  clear y1 z1 z3 C12
  go_wp2_with fail
  (with_reducible refine D12.out.mono ?_)
  rintro e w13 ⟨rfl, hs⟩
  rw [show sameB l1 l1 = true by simp [sameB]]
  have N13 := Lib.hid (N12.out.still hs)
  have B13 := Lib.hid (B12.out.trans (hs.below _))
  clear hs D12
  have C14 := Lib.hid (N13.out.owner_ (k := 0) rfl)
  go_wp2_with fail
  (with_reducible refine C14.out.mono ?_)
  rintro e w' ⟨rfl, rfl⟩
  clear C14
  go_wp2_with fail
  (with_reducible refine (nalive_any _).mono ?_)
  rintro e wz ⟨rfl, hb⟩
  have HE := Lib.hid (BW.out.trans ((B13.out.trans (hb.mono B13.out.size)).mono LW.out))
  clear hb
  go_wp2
  go_ret
  exact ⟨rfl, HE.out⟩

set_option maxRecDepth 100000 in
set_option maxHeartbeats 4000000 in
theorem w_ios (o : Int) (A1 : Option Addr) (n1 c1 : Nat) (l1 : List UInt8) (A2 : Option Addr) (n2 c2 : Nat) (l2 : List UInt8) (v1 v2 : Int) (u : UInt8) (w : World) (h1 : Byt w w.heap.size A1 n1 l1) (hr1 : n1 ≤ 140737488351232) (h2 : Byt w w.heap.size A2 n2 l2) (hr2 : n2 ≤ 140737488351232) (h0 : ¬ o = 0) :
    Calls Try.prog 3 #[.bool false, .agg #[.int .u64 o, .int .u64 o], .agg #[.slice A1 n1 c1, .slice A2 n2 c2, .int .u64 v1, .int .u64 v2, .int .u8 (u.toNat : Int)]] w fun e w' => e = .returned (.bool true) ∧ Below w.heap.size w w' := by
  generalize hWa : w.alloc (.cells #[.int .u64 o, .int .u64 o] 23) = Wa
  have sa : Wa.heap.size = w.heap.size + 1 := by subst hWa; simp
  have ba : Below w.heap.size w Wa := by subst hWa; exact (Below.refl _ _).alloc (Nat.le_refl _) _
  have xa : Blk Wa w.heap.size #[.int .u64 o, .int .u64 o] := by subst hWa; exact Blk.new w _ _
  generalize hW : Wa.alloc (.cells #[.slice A1 n1 c1, .slice A2 n2 c2, .int .u64 v1, .int .u64 v2, .int .u8 (u.toNat : Int)] 26) = W
  have sb : W.heap.size = w.heap.size + 1 + 1 := by subst hW; simp [sa]
  have bb : Below w.heap.size w W := by subst hW; exact ba.alloc ba.size _
  have xb : Blk W (w.heap.size + 1) #[.slice A1 n1 c1, .slice A2 n2 c2, .int .u64 v1, .int .u64 v2, .int .u8 (u.toNat : Int)] := by subst hW; rw [← sa]; exact Blk.new Wa _ _
  have xa' : Blk W w.heap.size #[.int .u64 o, .int .u64 o] := by subst hW; exact xa.alloc _
  have e1 : W.cell? ⟨w.heap.size, 0, none⟩ = some (.int .u64 o) := xa'.cell 0
  have e2 : W.cell? ⟨w.heap.size, 1, none⟩ = some (.int .u64 o) := xa'.cell 1
  have e3 : W.cell? ⟨w.heap.size + 1, 0, none⟩ = some (.slice A1 n1 c1) := xb.cell 0
  have e4 : W.cell? ⟨w.heap.size + 1, 4, none⟩ = some (.int .u8 (u.toNat : Int)) := xb.cell 4
  have HX := Lib.hid (show ∀ V, Below W.heap.size W V → Byt V w.heap.size A1 n1 l1 ∧ Byt V w.heap.size A2 n2 l2 ∧ V.cell? ⟨w.heap.size + 1, 1, none⟩ = some (.slice A2 n2 c2) ∧ V.cell? ⟨w.heap.size + 1, 2, none⟩ = some (.int .u64 v1) ∧ V.cell? ⟨w.heap.size + 1, 3, none⟩ = some (.int .u64 v2) from
    fun V hV => ⟨(h1.below bb).below (hV.mono bb.size), (h2.below bb).below (hV.mono bb.size), (xb.below hV xb.lt).cell 1, (xb.below hV xb.lt).cell 2, (xb.below hV xb.lt).cell 3⟩)
  have BW := Lib.hid bb
  have LW := Lib.hid bb.size
  have hrg := Lib.hid (show n1 ≤ 140737488355328 ∧ n2 ≤ 140737488355328 by omega)
  have hob : (o != 0) = true := by simpa using h0
  clear h1 h2 ba xa bb xb xa' sb
  go_enter Try.func3, Try.ntmps3
  go_wp2_with fail
  try rw [hWa]
  try rw [hW]
  go_quiet (fail)
  clear hWa hW
  have HX := Lib.hid (fun V (hV : Below (W.drewN nq).heap.size (W.drewN nq) V) => HX.out V (((Still.drewN W nq).below _).trans hV))
  have BW := Lib.hid (BW.out.trans ((Still.drewN W nq).below _))
  have LW := Lib.hid (show w.heap.size ≤ (W.drewN nq).heap.size from LW.out)
  obtain ⟨V, hV⟩ : ∃ V, W.drewN nq = V := ⟨_, rfl⟩
  rw [hV] at HX BW LW
  rw [hV]
  clear hV e1 e2 e3 e4
  have N0 := Lib.hid (Ns.none_ V V.heap.size (fun _ => False))
  have B0 := Lib.hid (Below.refl V.heap.size V)
  obtain ⟨y1, _, y3, y4, y5⟩ := HX.out V B0.out
  have C1 := Lib.hid (N0.out.inner_ B0.out.size (fun _ q => q.elim) none 0 o n1 c1 w.heap.size l1 (mt_none _ _) (fun i e => by cases e) y1 (Nat.le_trans LW.out B0.out.size) (by omega) (fun i _ e => by cases e))
  rw [show mtr none = .pointer none from rfl] at C1
  clear y1
  go_wp2_with fail
  (with_reducible refine C1.out.mono ?_)
  rintro e w1 ⟨g1, rfl, nn, kk, _⟩
  have N1 := Lib.hid (show Ns w1 V.heap.size (fun _ => False) [(g1, (⟨false, o, l1, 0, false, []⟩ : Nd))] from nn)
  have B1 := Lib.hid (B0.out.trans (kk.below B0.out.size (fun i e => by cases e)))
  clear nn kk y3 y4 y5 C1
  obtain ⟨y1, _, y3, y4, y5⟩ := HX.out w1 B1.out
  have C2 := Lib.hid (N1.out.leaf_ B1.out.size (fun _ q => q.elim) none 0 o v1 n1 c1 w.heap.size l1 (mt_none _ _) (fun i e => by cases e) y1 (Nat.le_trans LW.out B1.out.size) (by omega) (fun i _ e => by cases e))
  rw [show mtr none = .pointer none from rfl] at C2
  clear y1
  go_wp2_with fail
  (with_reducible refine C2.out.mono ?_)
  rintro e w2 ⟨g3, rfl, nn, kk, _⟩
  have N2 := Lib.hid (show Ns w2 V.heap.size (fun _ => False) [(g1, (⟨false, o, l1, 0, false, []⟩ : Nd)), (g3, (⟨true, o, l1, v1, true, []⟩ : Nd))] from nn)
  have B2 := Lib.hid (B1.out.trans (kk.below B1.out.size (fun i e => by cases e)))
  clear nn kk y3 y4 y5 C2
  obtain ⟨y1, y2, y3, y4, y5⟩ := HX.out w2 B2.out
  have C3 := Lib.hid (N2.out.y_setval (k := 0) rfl B2.out.size (fun _ q => q.elim) (mine_yes h0 rfl) v1)
  clear y1 y2
  go_wp2_with fail
  (with_reducible refine C3.out.mono ?_)
  rintro e w3 ⟨rfl, nn, kk⟩
  have N3 := Lib.hid (show Ns w3 V.heap.size (fun _ => False) [(g1, (⟨false, o, l1, v1, true, []⟩ : Nd)), (g3, (⟨true, o, l1, v1, true, []⟩ : Nd))] from nn)
  have B3 := Lib.hid (B2.out.trans (kk.below B2.out.size (fun i e => e.1)))
  clear nn kk y3 y4 y5 C3
  obtain ⟨y1, y2, y3, y4, y5⟩ := HX.out w3 B3.out
  have C4 := Lib.hid (N3.out.y_setkid (k := 0) (j := 1) rfl rfl B3.out.size (fun _ q => q.elim) (mine_yes h0 rfl) rfl u _ rfl)
  clear y1 y2
  go_wp2_with fail
  (with_reducible refine C4.out.mono ?_)
  rintro e w4 ⟨rfl, nn, kk⟩
  rw [show setE [] u (some ⟨g3, 0, none⟩) = [(u, some ⟨g3, 0, none⟩)] from set_one u _] at nn
  have N4 := Lib.hid (show Ns w4 V.heap.size (fun _ => False) [(g1, (⟨false, o, l1, v1, true, [(u, some ⟨g3, 0, none⟩)]⟩ : Nd)), (g3, (⟨true, o, l1, v1, true, []⟩ : Nd))] from nn)
  have B4 := Lib.hid (B3.out.trans (kk.below B3.out.size (fun i e => e.1)))
  clear nn kk y3 y4 y5 C4
  go_wp2_with fail
  (with_reducible refine (nalive_any _).mono ?_)
  rintro e wz ⟨rfl, hb⟩
  have HE := Lib.hid (BW.out.trans ((B4.out.trans (hb.mono B4.out.size)).mono LW.out))
  clear hb
  go_wp2
  go_ret
  exact ⟨rfl, HE.out⟩

set_option maxRecDepth 100000 in
set_option maxHeartbeats 4000000 in
theorem w_iod (o p : Int) (A1 : Option Addr) (n1 c1 : Nat) (l1 : List UInt8) (A2 : Option Addr) (n2 c2 : Nat) (l2 : List UInt8) (v1 v2 : Int) (u : UInt8) (w : World) (h1 : Byt w w.heap.size A1 n1 l1) (hr1 : n1 ≤ 140737488351232) (h2 : Byt w w.heap.size A2 n2 l2) (hr2 : n2 ≤ 140737488351232) (h0 : ¬ o = 0) (hp : ¬ p = o) :
    Calls Try.prog 3 #[.bool false, .agg #[.int .u64 o, .int .u64 p], .agg #[.slice A1 n1 c1, .slice A2 n2 c2, .int .u64 v1, .int .u64 v2, .int .u8 (u.toNat : Int)]] w fun e w' => e = .returned (.bool true) ∧ Below w.heap.size w w' := by
  generalize hWa : w.alloc (.cells #[.int .u64 o, .int .u64 p] 23) = Wa
  have sa : Wa.heap.size = w.heap.size + 1 := by subst hWa; simp
  have ba : Below w.heap.size w Wa := by subst hWa; exact (Below.refl _ _).alloc (Nat.le_refl _) _
  have xa : Blk Wa w.heap.size #[.int .u64 o, .int .u64 p] := by subst hWa; exact Blk.new w _ _
  generalize hW : Wa.alloc (.cells #[.slice A1 n1 c1, .slice A2 n2 c2, .int .u64 v1, .int .u64 v2, .int .u8 (u.toNat : Int)] 26) = W
  have sb : W.heap.size = w.heap.size + 1 + 1 := by subst hW; simp [sa]
  have bb : Below w.heap.size w W := by subst hW; exact ba.alloc ba.size _
  have xb : Blk W (w.heap.size + 1) #[.slice A1 n1 c1, .slice A2 n2 c2, .int .u64 v1, .int .u64 v2, .int .u8 (u.toNat : Int)] := by subst hW; rw [← sa]; exact Blk.new Wa _ _
  have xa' : Blk W w.heap.size #[.int .u64 o, .int .u64 p] := by subst hW; exact xa.alloc _
  have e1 : W.cell? ⟨w.heap.size, 0, none⟩ = some (.int .u64 o) := xa'.cell 0
  have e2 : W.cell? ⟨w.heap.size, 1, none⟩ = some (.int .u64 p) := xa'.cell 1
  have e3 : W.cell? ⟨w.heap.size + 1, 0, none⟩ = some (.slice A1 n1 c1) := xb.cell 0
  have e4 : W.cell? ⟨w.heap.size + 1, 4, none⟩ = some (.int .u8 (u.toNat : Int)) := xb.cell 4
  have HX := Lib.hid (show ∀ V, Below W.heap.size W V → Byt V w.heap.size A1 n1 l1 ∧ Byt V w.heap.size A2 n2 l2 ∧ V.cell? ⟨w.heap.size + 1, 1, none⟩ = some (.slice A2 n2 c2) ∧ V.cell? ⟨w.heap.size + 1, 2, none⟩ = some (.int .u64 v1) ∧ V.cell? ⟨w.heap.size + 1, 3, none⟩ = some (.int .u64 v2) from
    fun V hV => ⟨(h1.below bb).below (hV.mono bb.size), (h2.below bb).below (hV.mono bb.size), (xb.below hV xb.lt).cell 1, (xb.below hV xb.lt).cell 2, (xb.below hV xb.lt).cell 3⟩)
  have BW := Lib.hid bb
  have LW := Lib.hid bb.size
  have hrg := Lib.hid (show n1 ≤ 140737488355328 ∧ n2 ≤ 140737488355328 by omega)
  have HM := Lib.hid (show mineB o p = false from (mine_no hp))
  have hpb : (p == o) = false := by simpa using hp
  have hob : (o != 0) = true := by simpa using h0
  clear h1 h2 ba xa bb xb xa' sb
  go_enter Try.func3, Try.ntmps3
  go_wp2_with fail
  try rw [hWa]
  try rw [hW]
  go_quiet (fail)
  clear hWa hW
  have HX := Lib.hid (fun V (hV : Below (W.drewN nq).heap.size (W.drewN nq) V) => HX.out V (((Still.drewN W nq).below _).trans hV))
  have BW := Lib.hid (BW.out.trans ((Still.drewN W nq).below _))
  have LW := Lib.hid (show w.heap.size ≤ (W.drewN nq).heap.size from LW.out)
  obtain ⟨V, hV⟩ : ∃ V, W.drewN nq = V := ⟨_, rfl⟩
  rw [hV] at HX BW LW
  rw [hV]
  clear hV e1 e2 e3 e4
  have N0 := Lib.hid (Ns.none_ V V.heap.size (fun _ => False))
  have B0 := Lib.hid (Below.refl V.heap.size V)
  obtain ⟨y1, _, y3, y4, y5⟩ := HX.out V B0.out
  have C1 := Lib.hid (N0.out.inner_ B0.out.size (fun _ q => q.elim) none 0 o n1 c1 w.heap.size l1 (mt_none _ _) (fun i e => by cases e) y1 (Nat.le_trans LW.out B0.out.size) (by omega) (fun i _ e => by cases e))
  rw [show mtr none = .pointer none from rfl] at C1
  clear y1
  go_wp2_with fail
  (with_reducible refine C1.out.mono ?_)
  rintro e w1 ⟨g1, rfl, nn, kk, _⟩
  have N1 := Lib.hid (show Ns w1 V.heap.size (fun _ => False) [(g1, (⟨false, o, l1, 0, false, []⟩ : Nd))] from nn)
  have B1 := Lib.hid (B0.out.trans (kk.below B0.out.size (fun i e => by cases e)))
  clear nn kk y3 y4 y5 C1
  obtain ⟨y1, _, y3, y4, y5⟩ := HX.out w1 B1.out
  have C2 := Lib.hid (N1.out.leaf_ B1.out.size (fun _ q => q.elim) none 0 o v1 n1 c1 w.heap.size l1 (mt_none _ _) (fun i e => by cases e) y1 (Nat.le_trans LW.out B1.out.size) (by omega) (fun i _ e => by cases e))
  rw [show mtr none = .pointer none from rfl] at C2
  clear y1
  go_wp2_with fail
  (with_reducible refine C2.out.mono ?_)
  rintro e w2 ⟨g3, rfl, nn, kk, _⟩
  have N2 := Lib.hid (show Ns w2 V.heap.size (fun _ => False) [(g1, (⟨false, o, l1, 0, false, []⟩ : Nd)), (g3, (⟨true, o, l1, v1, true, []⟩ : Nd))] from nn)
  have B2 := Lib.hid (B1.out.trans (kk.below B1.out.size (fun i e => by cases e)))
  clear nn kk y3 y4 y5 C2
  obtain ⟨y1, y2, y3, y4, y5⟩ := HX.out w2 B2.out
  have C3 := Lib.hid (N2.out.y_setval (k := 0) rfl B2.out.size (fun _ q => q.elim) (mine_yes h0 rfl) v1)
  clear y1 y2
  go_wp2_with fail
  (with_reducible refine C3.out.mono ?_)
  rintro e w3 ⟨rfl, nn, kk⟩
  have N3 := Lib.hid (show Ns w3 V.heap.size (fun _ => False) [(g1, (⟨false, o, l1, v1, true, []⟩ : Nd)), (g3, (⟨true, o, l1, v1, true, []⟩ : Nd))] from nn)
  have B3 := Lib.hid (B2.out.trans (kk.below B2.out.size (fun i e => e.1)))
  clear nn kk y3 y4 y5 C3
  obtain ⟨y1, y2, y3, y4, y5⟩ := HX.out w3 B3.out
  have C4 := Lib.hid (N3.out.y_setkid (k := 0) (j := 1) rfl rfl B3.out.size (fun _ q => q.elim) (mine_yes h0 rfl) rfl u _ rfl)
  clear y1 y2
  go_wp2_with fail
  (with_reducible refine C4.out.mono ?_)
  rintro e w4 ⟨rfl, nn, kk⟩
  rw [show setE [] u (some ⟨g3, 0, none⟩) = [(u, some ⟨g3, 0, none⟩)] from set_one u _] at nn
  have N4 := Lib.hid (show Ns w4 V.heap.size (fun _ => False) [(g1, (⟨false, o, l1, v1, true, [(u, some ⟨g3, 0, none⟩)]⟩ : Nd)), (g3, (⟨true, o, l1, v1, true, []⟩ : Nd))] from nn)
  have B4 := Lib.hid (B3.out.trans (kk.below B3.out.size (fun i e => e.1)))
  clear nn kk y3 y4 y5 C4
  have C5 := Lib.hid (N4.out.val_ (k := 0) rfl)
  go_wp2_with fail
  (with_reducible refine C5.out.mono ?_)
  rintro e w5 ⟨rfl, hs⟩
  have N5 := Lib.hid (N4.out.still hs)
  have B5 := Lib.hid (B4.out.trans (hs.below _))
  clear hs C5
  have C6 := Lib.hid (N5.out.len_ (k := 0) rfl)
  go_wp2_with fail
  (with_reducible refine C6.out.mono ?_)
  rintro e w6 ⟨rfl, hs⟩
  have N6 := Lib.hid (N5.out.still hs)
  have B6 := Lib.hid (B5.out.trans (hs.below _))
  clear hs C6
  obtain ⟨y1, y2, y3, y4, y5⟩ := HX.out w6 B6.out
  have C7 := Lib.hid (N6.out.f_setpart (k := 0) rfl B6.out.size (fun _ q => q.elim) HM.out A2 n2 c2 w.heap.size l2 y2 (Nat.le_trans LW.out B6.out.size) (by omega))
  clear y1 y2
  go_wp2_with fail
  (with_reducible refine C7.out.mono ?_)
  rintro e w7 ⟨rfl, nn, kk⟩
  have N7 := Lib.hid (show Ns w7 V.heap.size (fun _ => False) [(g1, (⟨false, o, l1, v1, true, [(u, some ⟨g3, 0, none⟩)]⟩ : Nd)), (g3, (⟨true, o, l1, v1, true, []⟩ : Nd))] from nn)
  have B7 := Lib.hid (B6.out.trans (kk.below B6.out.size (fun i e => e.1)))
  clear nn kk y3 y4 y5 C7
  obtain ⟨y1, y2, y3, y4, y5⟩ := HX.out w7 B7.out
  have C8 := Lib.hid (N7.out.f_setval (k := 0) rfl B7.out.size (fun _ q => q.elim) HM.out v2)
  clear y1 y2
  go_wp2_with fail
  (with_reducible refine C8.out.mono ?_)
  rintro e w8 ⟨rfl, nn, kk⟩
  have N8 := Lib.hid (show Ns w8 V.heap.size (fun _ => False) [(g1, (⟨false, o, l1, v1, true, [(u, some ⟨g3, 0, none⟩)]⟩ : Nd)), (g3, (⟨true, o, l1, v1, true, []⟩ : Nd))] from nn)
  have B8 := Lib.hid (B7.out.trans (kk.below B7.out.size (fun i e => e.1)))
  clear nn kk y3 y4 y5 C8
  obtain ⟨y1, y2, y3, y4, y5⟩ := HX.out w8 B8.out
  have C9 := Lib.hid (N8.out.f_dropval (k := 0) rfl B8.out.size (fun _ q => q.elim) HM.out)
  clear y1 y2
  go_wp2_with fail
  (with_reducible refine C9.out.mono ?_)
  rintro e w9 ⟨rfl, nn, kk⟩
  have N9 := Lib.hid (show Ns w9 V.heap.size (fun _ => False) [(g1, (⟨false, o, l1, v1, true, [(u, some ⟨g3, 0, none⟩)]⟩ : Nd)), (g3, (⟨true, o, l1, v1, true, []⟩ : Nd))] from nn)
  have B9 := Lib.hid (B8.out.trans (kk.below B8.out.size (fun i e => e.1)))
  clear nn kk y3 y4 y5 C9
  obtain ⟨y1, y2, y3, y4, y5⟩ := HX.out w9 B9.out
  have C10 := Lib.hid (N9.out.f_setkid (k := 0) (j := 0) rfl rfl B9.out.size (fun _ q => q.elim) HM.out u _ rfl)
  clear y1 y2
  go_wp2_with fail
  (with_reducible refine C10.out.mono ?_)
  rintro e w10 ⟨rfl, nn, kk⟩
  have N10 := Lib.hid (show Ns w10 V.heap.size (fun _ => False) [(g1, (⟨false, o, l1, v1, true, [(u, some ⟨g3, 0, none⟩)]⟩ : Nd)), (g3, (⟨true, o, l1, v1, true, []⟩ : Nd))] from nn)
  have B10 := Lib.hid (B9.out.trans (kk.below B9.out.size (fun i e => e.1)))
  clear nn kk y3 y4 y5 C10
  obtain ⟨y1, y2, y3, y4, y5⟩ := HX.out w10 B10.out
  have C11 := Lib.hid (N10.out.f_dropkid (k := 0) rfl B10.out.size (fun _ q => q.elim) HM.out u _ rfl)
  clear y1 y2
  go_wp2_with fail
  (with_reducible refine C11.out.mono ?_)
  rintro e w11 ⟨rfl, nn, kk⟩
  have N11 := Lib.hid (show Ns w11 V.heap.size (fun _ => False) [(g1, (⟨false, o, l1, v1, true, [(u, some ⟨g3, 0, none⟩)]⟩ : Nd)), (g3, (⟨true, o, l1, v1, true, []⟩ : Nd))] from nn)
  have B11 := Lib.hid (B10.out.trans (kk.below B10.out.size (fun i e => e.1)))
  clear nn kk y3 y4 y5 C11
  have C12 := Lib.hid (N11.out.val_ (k := 0) rfl)
  go_wp2_with fail
  (with_reducible refine C12.out.mono ?_)
  rintro e w12 ⟨rfl, hs⟩
  have N12 := Lib.hid (N11.out.still hs)
  have B12 := Lib.hid (B11.out.trans (hs.below _))
  clear hs C12
  have C13 := Lib.hid (N12.out.len_ (k := 0) rfl)
  go_wp2_with fail
  (with_reducible refine C13.out.mono ?_)
  rintro e w13 ⟨rfl, hs⟩
  have N13 := Lib.hid (N12.out.still hs)
  have B13 := Lib.hid (B12.out.trans (hs.below _))
  clear hs C13
  have C14 := Lib.hid (N13.out.part_ (k := 0) rfl)
  go_wp2_with fail
  (with_reducible refine C14.out.mono ?_)
  rintro e w14 ⟨A9, c9, rfl, z1, _, z3⟩
  have N14 := Lib.hid (N13.out.below z3)
  have B14 := Lib.hid (B13.out.trans (z3.mono B13.out.size))
  obtain ⟨y1, _⟩ := HX.out w14 B14.out
  have D14 := Lib.hid (rsame_any A9 A1 l1.length n1 c9 c1 w14.heap.size l1 l1 w14 z1 (y1.more (Nat.le_trans LW.out B14.out.size)))
  clear y1 z1 z3 C14
  go_wp2_with fail
  (with_reducible refine D14.out.mono ?_)
  rintro e w15 ⟨rfl, hs⟩
  rw [show sameB l1 l1 = true by simp [sameB]]
  have N15 := Lib.hid (N14.out.still hs)
  have B15 := Lib.hid (B14.out.trans (hs.below _))
  clear hs D14
  have C16 := Lib.hid (N15.out.owner_ (k := 0) rfl)
  go_wp2_with fail
  (with_reducible refine C16.out.mono ?_)
  rintro e w' ⟨rfl, rfl⟩
  clear C16
  have C16 := Lib.hid (N15.out.kid_ (k := 0) rfl u _ rfl)
  simp only [get_one] at C16
  have heq := eql_self (some ⟨g3, 0, none⟩)
  go_wp2_with fail
  (with_reducible refine C16.out.mono ?_)
  rintro e w16 ⟨rfl, hs⟩
  have N16 := Lib.hid (N15.out.still hs)
  have B16 := Lib.hid (B15.out.trans (hs.below _))
  clear hs C16
  go_wp2_with fail
  (with_reducible refine (nalive_any _).mono ?_)
  rintro e wz ⟨rfl, hb⟩
  have HE := Lib.hid (BW.out.trans ((B16.out.trans (hb.mono B16.out.size)).mono LW.out))
  clear hb
  go_wp2
  go_ret
  exact ⟨rfl, HE.out⟩

set_option maxRecDepth 100000 in
theorem walk (lf : Bool) (o p : Int) (A1 : Option Addr) (n1 c1 : Nat) (l1 : List UInt8) (A2 : Option Addr) (n2 c2 : Nat) (l2 : List UInt8) (v1 v2 : Int) (u : UInt8) (w : World) (h1 : Byt w w.heap.size A1 n1 l1) (hr1 : n1 ≤ 140737488351232) (h2 : Byt w w.heap.size A2 n2 l2) (hr2 : n2 ≤ 140737488351232) :
    Calls Try.prog 3 #[.bool lf, .agg #[.int .u64 o, .int .u64 p], .agg #[.slice A1 n1 c1, .slice A2 n2 c2, .int .u64 v1, .int .u64 v2, .int .u8 (u.toNat : Int)]] w fun e w' => e = .returned (.bool true) ∧ Below w.heap.size w w' := by
  by_cases h0 : o = 0
  · subst h0
    by_cases hp : p = 0
    · subst hp
      cases lf
      · exact w_izs A1 n1 c1 l1 A2 n2 c2 l2 v1 v2 u w h1 hr1 h2 hr2
      · exact w_lzs A1 n1 c1 l1 A2 n2 c2 l2 v1 v2 u w h1 hr1 h2 hr2
    · cases lf
      · exact w_izd p A1 n1 c1 l1 A2 n2 c2 l2 v1 v2 u w h1 hr1 h2 hr2 hp
      · exact w_lzd p A1 n1 c1 l1 A2 n2 c2 l2 v1 v2 u w h1 hr1 h2 hr2 hp
  · by_cases hp : p = o
    · subst hp
      cases lf
      · exact w_ios p A1 n1 c1 l1 A2 n2 c2 l2 v1 v2 u w h1 hr1 h2 hr2 h0
      · exact w_los p A1 n1 c1 l1 A2 n2 c2 l2 v1 v2 u w h1 hr1 h2 hr2 h0
    · cases lf
      · exact w_iod o p A1 n1 c1 l1 A2 n2 c2 l2 v1 v2 u w h1 hr1 h2 hr2 h0 hp
      · exact w_lod o p A1 n1 c1 l1 A2 n2 c2 l2 v1 v2 u w h1 hr1 h2 hr2 h0 hp

set_option maxRecDepth 100000 in
theorem lifted (os : Os) (started : os.Started) (H : Type) (enc : TypeId × Value → H) :
    ReturnsInHanded {} Try.checked os 3 .any (Rows.nodeFrozenSpec.pre6 enc Try.prog Try.f3 Rows.nodeFrozenRow.domain false) (Rows.nodeFrozenSpec.post enc Try.prog Try.f3 false true false false) := by
  refine returnsInHanded_of_change_sized (C := Try.checked) own started (by kernel_rfl) Try.func3
    (ChangeSpec.witness6 (enc := enc) (C := Try.checked) false ⟨#[], #[.bool false, .agg #[.int .u64 0, .int .u64 0], .agg #[.slice none 0 0, .slice none 0 0, .int .u64 0, .int .u64 0, .int .u8 0]], []⟩ 8 (by kernel_rfl) (by kernel_rfl) (by kernel_rfl) (by kernel_rfl)) ?_
  intro W base args ds gs before hval0 hW hcnd hsz0 _
  have hsz : (DataW.weightsEach Try.prog (Try.f3.params.toList ++ Rows.nodeFrozenSpec.plain.varTypes Try.prog) (ds ++ gs)).all (· ≤ reachBytes) = true := hsz0
  clear hsz0
  have hval : ∀ (j : Nat) t v, Try.f3.params[j]? = some t → args[j]? = some v → Value.okWide Try.prog W .any base t v := hval0
  have hW' := hW
  obtain ⟨p, q, hA0, hV, rfl, hfz, hnd⟩ := hW
  have hA : DataW.TrodAll enc Try.prog W 0 (fun _ => true) true Try.f3.params.toList args.toList ds p := hA0
  rw [Try.params3] at hA hval hsz
  obtain ⟨v0, vs0, d0, ds0, p0, q0, hargs, rfl, rfl, h0, r0⟩ := trodAll_cons hA
  obtain ⟨v1, vs1, d1, ds1, p1, q1, rfl, rfl, rfl, h1, r1⟩ := trodAll_cons r0
  obtain ⟨v2, vs2, d2, ds2, p2, q2, rfl, rfl, rfl, h2, r2⟩ := trodAll_cons r1
  obtain ⟨rfl, rfl, rfl⟩ := trodAll_nil r2
  obtain rfl : args = #[v0, v1, v2] := by cases args; simp_all
  obtain ⟨rfl, rfl⟩ := trodVars_none hV
  have k0 := h0
  have lt0 : ∀ x ∈ p0, x.block < W.heap.size := by obtain ⟨m, hm⟩ := k0; exact DataW.trod_lt m _ _ _ hm
  have k1 := h1
  have lt1 : ∀ x ∈ p1, x.block < W.heap.size := by obtain ⟨m, hm⟩ := k1; exact DataW.trod_lt m _ _ _ hm
  have k2 := h2
  have lt2 : ∀ x ∈ p2, x.block < W.heap.size := by obtain ⟨m, hm⟩ := k2; exact DataW.trod_lt m _ _ _ hm
  obtain ⟨x0, rfl, _, _⟩ := open_bool Try.underlying4 (hval 0 4 v0 rfl rfl) h0
  obtain ⟨o, p, rfl⟩ := open_two64 (hval 1 23 v1 rfl rfl) h1
  obtain ⟨A1, n1, c1, l1, A2, n2, c2, l2, a, b, u, rfl, r1, r2⟩ := open_try (hval 2 26 v2 rfl rfl) h2 (weigh hsz (j := 2) rfl rfl)
  clear hA0 hval0
  refine (walk x0 o p A1 n1 c1 l1 A2 n2 c2 l2 a b u W r1.1 r1.2.2 r2.1 r2.2.2).mono fun e W' ⟨he, bel⟩ => ?_
  subst he
  exact ⟨_, rfl, _, _, _, [], _, [], hW', trodAll_mk1 (shut_bool Try.underlying4 _), (trodAll_cons_mk (Below.trod laidOut (by kernel_rfl) (of_decide_eq_true (by kernel_rfl)) k0 bel lt0) (trodAll_cons_mk (Below.trod laidOut (by kernel_rfl) (of_decide_eq_true (by kernel_rfl)) k1 bel lt1) (trodAll_cons_mk (Below.trod laidOut (by kernel_rfl) (of_decide_eq_true (by kernel_rfl)) k2 bel lt2) trodAll_mk0))), rfl, bel.frame _, fun h => by cases h⟩

set_option maxRecDepth 100000 in
theorem proved : Rows.NodeFrozenSaid :=
  OpenClaim.holds_of_wide 3 Try.f3 rfl rfl rfl rfl rfl rfl rfl ⟨rfl, rfl, rfl, rfl, rfl⟩ rfl rfl rfl rfl rfl (by kernel_rfl) Try.func3 (by kernel_rfl)
    (of_decide_eq_true (by kernel_rfl)) (by unfold Func.isWrapper; first | (rw [if_pos (by decide +kernel)]; kernel_rfl) | (rw [if_neg (by decide +kernel)]; exact ⟨rfl, rfl⟩))
    (fun os started H enc _ => lifted os started H enc)
end Go.Proofs.Ytgelmhldicmmdaa.nodeFrozen
