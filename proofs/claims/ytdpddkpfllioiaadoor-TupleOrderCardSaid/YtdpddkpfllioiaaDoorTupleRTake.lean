/-
  What the document's take answers: the first values, and the bytes behind them, or an error.
-/
import Derived.Test.YtdpddkpfllioiaaDoorTupleTake
import Derived.Test.YtdpddkpfllioiaaDoorFieldRTakeB
namespace Go.Proofs.YtdpddkpfllioiaaDoor
open Go.RowKit

set_option maxRecDepth 100000 in
set_option maxHeartbeats 4000000 in
theorem rttake_any (A A' : Option Addr) (m n c n' c' B : Nat) (fs : List Fd) (b : List UInt8) (w : World) (ha : Fds w B A m fs) (hm : n ≤ m) (hb : Byt w B A' n' b) (hnc : n' ≤ c') (hB : B ≤ w.heap.size) (hn : m ≤ 1000) (hn' : n' ≤ 1000000) :
    Calls Tryd.prog 35 #[.slice A m c, .slice A' n' c', .int .i64 (n : Int)] w (TkPost w (takes (fs.take n) b)) := by
  have HN := Lib.hid (show (fs.take n).length = n from by rw [List.length_take, ha.length]; omega)
  have HA := Lib.hid (fun V (h : Below w.heap.size w V) => And.intro ((ha.more hB).below h) ((hb.more hB).below h))
  clear ha hb
  go_enter Tryd.func35, Tryd.ntmps35
  go_wp2
  go_loopw [1, 9, 10] (fun vb vo i wr => ∃ (k : Nat) (Ab : Option Addr) (nb cb : Nat) (o : List Vl) (b' : List UInt8), k ≤ n ∧ i = .int .i64 k ∧ vb = .slice Ab nb cb ∧ nb ≤ cb ∧ nb ≤ n' ∧ Hid (TkAt (fs.take n) b o k b') ∧ Hid (Byt wr wr.heap.size Ab nb b') ∧ Hid (VRow wr w.heap.size 68 vo k o) ∧ Hid (Below w.heap.size w wr)) (fun _ _ i _ => n - (intOf i).toNat)
  case atStart => exact ⟨0, A', n', c', [], b, Nat.zero_le _, rfl, rfl, hnc, Nat.le_refl _, TkAt.start _ _, (HA.out _ (Below.refl _ _)).2, VRow.nil _ _ _, Below.refl _ _⟩
  case round =>
    obtain ⟨k, Ab, nb, cb, o, b', hk, rfl, rfl, hbc, hbn, HK, HY, HR, HB⟩ := hrel
    obtain ⟨Ao, co, rfl, hco⟩ := HR.out.slice
    by_cases h1 : k < n
    · obtain ⟨ad, f, rfl, hlt, hf, c0, c1⟩ := (HA.out _ HB.out).1.at_ (j := k) (by omega)
      have HF := Lib.hid (show (fs.take n)[k]? = some f from by rw [List.getElem?_take, if_pos h1]; exact hf)
      have hsz := HB.out.size
      have HX := Lib.hid (show Calls Tryd.prog 51 #[.agg #[.int .i64 f.k, .bool f.f], .slice Ab nb cb] wr (FTPost wr (takeF f b').u (takeF f b').i (takeF f b').l (takeF f b').t (restF f b') (errF f b')) from
        rftake_any f.k f.f Ab nb cb wr.heap.size b' wr HY.out hbc (Nat.le_refl _) (by omega))
      have HYL := Lib.hid HY.out.1
      clear hf
      generalize hX : errF f b' = X at HX
      have HXX := Lib.hid hX
      clear hX
      have hkm : (k : Int) < (m : Int) := by omega
      go_wp2_with fail
      clear c0 c1
      (with_reducible refine HX.out.mono ?_)
      rintro e w1 ⟨A1, n1, c1, A2, n2, c2, rfl, y1, y2, h2, nc1, nc2⟩
      have R1 := Lib.hid (HR.out.below h2)
      have Z1 := Lib.hid (HB.out.trans (h2.mono HB.out.size))
      generalize hV : w1.alloc (.cells #[.int .u64 ((takeF f b').u : Int), .int .i64 (takeF f b').i, .slice A1 n1 c1, .bool (takeF f b').t] 68) = V
      have BV := Lib.hid (show Below w1.heap.size w1 V from by subst hV; exact (Below.refl _ _).alloc (Nat.le_refl _) _)
      have hG : Four V w1.heap.size (.int .u64 ((takeF f b').u : Int)) (.int .i64 (takeF f b').i) (.slice A1 n1 c1) (.bool (takeF f b').t) := by subst hV; exact Four.new _ _ _ _ _ _
      have g0 := hG.c0
      have g1 := hG.c1
      have g2 := hG.c2
      have g3 := hG.c3
      have Y1 := Lib.hid ((y1.below BV.out).more BV.out.size)
      have Y2 := Lib.hid ((y2.below BV.out).more BV.out.size)
      have R2 := Lib.hid (R1.out.below BV.out)
      have Z2 := Lib.hid (Z1.out.trans (BV.out.mono Z1.out.size))
      have HZ := Lib.hid hG.lt
      clear hG y1 y2 h2
      by_cases hE : X = 0
      · subst hE
        have HM := Lib.hid (fun (o1 : Obj) => R2.out.alloc o1)
        have HI := Lib.hid (show ∀ (o1 : Obj), VIs (V.alloc o1) (V.alloc o1).heap.size [.int .u64 ((takeF f b').u : Int), .int .i64 (takeF f b').i, .slice A1 n1 c1, .bool (takeF f b').t] (takeF f b') from
          fun o1 => ⟨A1, n1, c1, rfl, (Y1.out.alloc (Nat.le_refl _) o1).more (by simp), nc1⟩)
        have hzs := Z2.out.size
        go_wp2_with (at_builtin
                     refine wpList_append_vrow (V.alloc (.cells #[.int .u64 ((takeF f b').u : Int), .int .i64 (takeF f b').i, .slice A1 n1 c1, .bool (takeF f b').t] 68)) rfl (.tmp 32) (.tmp 34) _ rfl Tryd.underlying23 info_rvl w.heap.size (.slice Ao k co) k o rfl (HM.out _) ⟨V.heap.size, 0, none⟩ 1 [.int .u64 ((takeF f b').u : Int), .int .i64 (takeF f b').i, .slice A1 n1 c1, .bool (takeF f b').t] (takeF f b') rfl (HI.out _) four_cells (by omega) (by unfold maxLen; omega) (by simp; omega) ?_
                     intro v4 w4 hm4 hg4 _
                     have M4 := Lib.hid hm4
                     have Y4 := Lib.hid (((HM.out _).byt (Y2.out.alloc (Nat.le_refl _) _) hg4).more (Nat.le_trans (by simp) hg4.size))
                     have Z4 := Lib.hid (below_vrow (Z2.out.alloc hzs _) (HM.out _) hg4 (Nat.le_refl _) (by simp; omega))
                     clear hm4 hg4)
        go_wp2
        have hle := rest_length HXX.out
        exact ⟨⟨k + 1, A2, n2, c2, o ++ [takeF f b'], restF f b', by omega, by go_num, rfl, nc2, by have := Y2.out.1; have := HYL.out; omega, HK.out.step HF.out HXX.out, Y4, M4, Z4⟩, by simp [intOf]; omega⟩
      · go_wp2
        go_ret3
        exact TkPost.bad (by rw [HK.out.bad HF.out (by rw [HXX.out]; exact hE), HXX.out]) Z2.out
    · obtain rfl : k = n := by omega
      go_wp2
      go_ret3
      exact TkPost.ok (HK.out.done (by rw [HN.out]; exact Nat.le_refl _)) HR.out.vls hco HY.out hbc HB.out
end Go.Proofs.YtdpddkpfllioiaaDoor
