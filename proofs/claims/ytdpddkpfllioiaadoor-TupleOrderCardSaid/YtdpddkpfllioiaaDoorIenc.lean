/-
  What ienc.look, Least, Most, Put, Take answer, where the table of the widths lies as the program's text lays it.
-/
import Derived.Test.YtdpddkpfllioiaaDoorUenc
import Derived.Test.YtdpddkpfllioiaaDoorIencPure
import Derived.Deep.MidRow
import Derived.Laws.ResultCell
namespace Go.Proofs.YtdpddkpfllioiaaDoor
open Go.RowKit

/-- The table of the widths: twelve cells in the variable's own block. -/
def Tab (w : World) : Prop := 2 < w.heap.size ∧
  w.cell? ⟨2, 0, none⟩ = some (.int .i64 1) ∧ w.cell? ⟨2, 1, none⟩ = some (.int .i64 (-128)) ∧ w.cell? ⟨2, 2, none⟩ = some (.int .i64 127) ∧
  w.cell? ⟨2, 3, none⟩ = some (.int .i64 2) ∧ w.cell? ⟨2, 4, none⟩ = some (.int .i64 (-32768)) ∧ w.cell? ⟨2, 5, none⟩ = some (.int .i64 32767) ∧
  w.cell? ⟨2, 6, none⟩ = some (.int .i64 4) ∧ w.cell? ⟨2, 7, none⟩ = some (.int .i64 (-2147483648)) ∧ w.cell? ⟨2, 8, none⟩ = some (.int .i64 2147483647) ∧
  w.cell? ⟨2, 9, none⟩ = some (.int .i64 8) ∧ w.cell? ⟨2, 10, none⟩ = some (.int .i64 (-9223372036854775808)) ∧ w.cell? ⟨2, 11, none⟩ = some (.int .i64 9223372036854775807)
theorem Tab.below {w w' : World} (h : Tab w) (hb : Below w.heap.size w w') : Tab w' := by
  obtain ⟨h0, h⟩ := h
  have hc : ∀ i, w'.cell? ⟨2, i, none⟩ = w.cell? ⟨2, i, none⟩ := fun i => hb.cell (p := ⟨2, i, none⟩) h0
  refine ⟨Nat.lt_of_lt_of_le h0 hb.size, ?_⟩
  simp only [hc]
  exact h

theorem ret_look {x a b c d : Int} (h : a = widI x ∧ b = leastI x ∧ c = imostI x ∧ d = mostE x) : Ending.returned (.tuple #[.agg #[.int .i64 a, .int .i64 b, .int .i64 c], .int .i64 d]) = .returned (.tuple #[.agg #[.int .i64 (widI x), .int .i64 (leastI x), .int .i64 (imostI x)], .int .i64 (mostE x)]) := by
  obtain ⟨rfl, rfl, rfl, rfl⟩ := h
  rfl

theorem num_size : (Tryd.prog.info? 126).map (·.size) = some 3 := by kernel_rfl
theorem load_num (w : World) (g : Nat) {a b c : Value} (h0 : w.cell? ⟨g, 0, none⟩ = some a) (h1 : w.cell? ⟨g, 1, none⟩ = some b) (h2 : w.cell? ⟨g, 2, none⟩ = some c) :
    (loadVar 126 ⟨g, 0, none⟩).run Tryd.prog w = .ok (.agg #[a, b, c]) w := by
  refine run_loadVar_mid w g 0 126 [a, b, c] _ (fun j v hv => ?_) Tryd.underlying126 rfl num_size
  rw [Nat.zero_add]
  match j, hv with
  | 0, hv => simp at hv; subst hv; exact h0
  | 1, hv => simp at hv; subst hv; exact h1
  | 2, hv => simp at hv; subst hv; exact h2
theorem ne_off (g i j : Nat) (h : i ≠ j) : (⟨g, i, none⟩ : Addr) ≠ ⟨g, j, none⟩ := fun e => h (by injection e)
theorem set_num {W : World} {g : Nat} {a b c x y z : Value} (h0 : W.cell? ⟨g, 0, none⟩ = some x) (h1 : W.cell? ⟨g, 1, none⟩ = some y) (h2 : W.cell? ⟨g, 2, none⟩ = some z) :
    (loadVar 126 ⟨g, 0, none⟩).run Tryd.prog (((W.setCell ⟨g, 0, none⟩ a).setCell ⟨g, 1, none⟩ b).setCell ⟨g, 2, none⟩ c) = .ok (.agg #[a, b, c]) (((W.setCell ⟨g, 0, none⟩ a).setCell ⟨g, 1, none⟩ b).setCell ⟨g, 2, none⟩ c) := by
  refine load_num _ g ?_ ?_ ?_
  · rw [World.cell?_setCell_other _ _ _ _ (ne_off g 2 0 (by decide)), World.cell?_setCell_other _ _ _ _ (ne_off g 1 0 (by decide)), World.cell?_setCell_same _ _ _ h0]
  · rw [World.cell?_setCell_other _ _ _ _ (ne_off g 2 1 (by decide)), World.cell?_setCell_same _ _ _ (u := y)]
    rw [World.cell?_setCell_other _ _ _ _ (ne_off g 0 1 (by decide)), h1]
  · rw [World.cell?_setCell_same _ _ _ (u := z)]
    rw [World.cell?_setCell_other _ _ _ _ (ne_off g 1 2 (by decide)), World.cell?_setCell_other _ _ _ _ (ne_off g 0 2 (by decide)), h2]
theorem index_0 (W : World) : (Instr.index 158 (.agg #[.int .i64 1, .int .i64 (-128), .int .i64 127, .int .i64 2, .int .i64 (-32768), .int .i64 32767, .int .i64 4, .int .i64 (-2147483648), .int .i64 2147483647, .int .i64 8, .int .i64 (-9223372036854775808), .int .i64 9223372036854775807]) (.int .i64 0)).run Tryd.prog W = .ok (.agg #[.int .i64 1, .int .i64 (-128), .int .i64 127]) W := by kernel_rfl
theorem index_1 (W : World) : (Instr.index 158 (.agg #[.int .i64 1, .int .i64 (-128), .int .i64 127, .int .i64 2, .int .i64 (-32768), .int .i64 32767, .int .i64 4, .int .i64 (-2147483648), .int .i64 2147483647, .int .i64 8, .int .i64 (-9223372036854775808), .int .i64 9223372036854775807]) (.int .i64 1)).run Tryd.prog W = .ok (.agg #[.int .i64 2, .int .i64 (-32768), .int .i64 32767]) W := by kernel_rfl
theorem index_2 (W : World) : (Instr.index 158 (.agg #[.int .i64 1, .int .i64 (-128), .int .i64 127, .int .i64 2, .int .i64 (-32768), .int .i64 32767, .int .i64 4, .int .i64 (-2147483648), .int .i64 2147483647, .int .i64 8, .int .i64 (-9223372036854775808), .int .i64 9223372036854775807]) (.int .i64 2)).run Tryd.prog W = .ok (.agg #[.int .i64 4, .int .i64 (-2147483648), .int .i64 2147483647]) W := by kernel_rfl
theorem index_3 (W : World) : (Instr.index 158 (.agg #[.int .i64 1, .int .i64 (-128), .int .i64 127, .int .i64 2, .int .i64 (-32768), .int .i64 32767, .int .i64 4, .int .i64 (-2147483648), .int .i64 2147483647, .int .i64 8, .int .i64 (-9223372036854775808), .int .i64 9223372036854775807]) (.int .i64 3)).run Tryd.prog W = .ok (.agg #[.int .i64 8, .int .i64 (-9223372036854775808), .int .i64 9223372036854775807]) W := by kernel_rfl
set_option maxHeartbeats 1000000 in
theorem look_any (x : Int) (w : World) (hT : Tab w) :
    Calls Tryd.prog 78 #[.int .i64 x] w fun e w' => e = .returned (.tuple #[.agg #[.int .i64 (widI x), .int .i64 (leastI x), .int .i64 (imostI x)], .int .i64 (mostE x)]) ∧ Below w.heap.size w w' := by
  have HT := Lib.hid hT
  obtain ⟨h0, c0, c1, c2, c3, c4, c5, c6, c7, c8, c9, c10, c11⟩ := hT
  go_enter Tryd.func78, Tryd.ntmps78
  go_wp2
  clear c0 c1 c2 c3 c4 c5 c6 c7 c8 c9 c10 c11
  go_loopw [7] (fun i wr => ∃ m : Nat, m ≤ 4 ∧ i = .int .i64 m ∧ (1 ≤ m → x ≠ 1) ∧ (2 ≤ m → x ≠ 2) ∧ (3 ≤ m → x ≠ 4) ∧ (4 ≤ m → x ≠ 8) ∧ Below (w.heap.size + 1) (w.alloc (.cells #[.int .i64 0, .int .i64 0, .int .i64 0] 126)) wr) (fun i _ => 4 - (intOf i).toNat)
  case atStart => exact ⟨0, by omega, rfl, by omega, by omega, by omega, by omega, Below.refl _ _⟩
  case round =>
    obtain ⟨m, hm, rfl, x1, x2, x4, x8, hbel⟩ := hrel
    have hz0 : wr.cell? ⟨w.heap.size, 0, none⟩ = some (.int .i64 0) := (hbel.cell (p := ⟨w.heap.size, 0, none⟩) (by simp)).trans (by rw [cell_of_row _ w.heap.size 0 _ _ (0, 0) (heap_alloc_new w _)]; rfl)
    have hz1 : wr.cell? ⟨w.heap.size, 1, none⟩ = some (.int .i64 0) := (hbel.cell (p := ⟨w.heap.size, 1, none⟩) (by simp)).trans (by rw [cell_of_row _ w.heap.size 1 _ _ (0, 0) (heap_alloc_new w _)]; rfl)
    have hz2 : wr.cell? ⟨w.heap.size, 2, none⟩ = some (.int .i64 0) := (hbel.cell (p := ⟨w.heap.size, 2, none⟩) (by simp)).trans (by rw [cell_of_row _ w.heap.size 2 _ _ (0, 0) (heap_alloc_new w _)]; rfl)
    have hf : ∀ o, wr.frozen? ⟨w.heap.size, o, none⟩ = false := fun o => (hbel.frozen (p := ⟨w.heap.size, o, none⟩) (by simp)).trans (by simp only [World.frozen?, heap_alloc_new]; simp)
    have hs : w.heap.size + 1 ≤ wr.heap.size := by have := hbel.size; simpa using this
    have ba : ∀ ob, Below wr.heap.size wr (wr.alloc ob) := fun ob => (Below.refl _ _).alloc (Nat.le_refl _) ob
    have ga0 : ∀ ob, (wr.alloc ob).cell? ⟨w.heap.size, 0, none⟩ = some (.int .i64 0) := fun ob => ((ba ob).cell (p := ⟨w.heap.size, 0, none⟩) (by simp; omega)).trans hz0
    have ga1 : ∀ ob, (wr.alloc ob).cell? ⟨w.heap.size, 1, none⟩ = some (.int .i64 0) := fun ob => ((ba ob).cell (p := ⟨w.heap.size, 1, none⟩) (by simp; omega)).trans hz1
    have ga2 : ∀ ob, (wr.alloc ob).cell? ⟨w.heap.size, 2, none⟩ = some (.int .i64 0) := fun ob => ((ba ob).cell (p := ⟨w.heap.size, 2, none⟩) (by simp; omega)).trans hz2
    have gf : ∀ ob o, (wr.alloc ob).frozen? ⟨w.heap.size, o, none⟩ = false := fun ob o => ((ba ob).frozen (p := ⟨w.heap.size, o, none⟩) (by simp; omega)).trans (hf o)
    clear ba
    have HW := Lib.hid (((Below.refl w.heap.size w).alloc (Nat.le_refl _) (.cells #[.int .i64 0, .int .i64 0, .int .i64 0] 126)).trans (hbel.mono (Nat.le_succ _)))
    have HB := Lib.hid hbel
    clear hbel
    rcases (by omega : m = 0 ∨ m = 1 ∨ m = 2 ∨ m = 3 ∨ m = 4) with rfl | rfl | rfl | rfl | rfl
    · rw [show ((0 : Nat) : Int) = 0 from rfl]
      have hi := index_0
      by_cases hx : x = 1
      · have HR := Lib.hid (show (1 : Int) = widI x ∧ (-128 : Int) = leastI x ∧ (127 : Int) = imostI x ∧ (0 : Int) = mostE x from by subst hx; decide)
        go_wp2
        (try simp only [Exit.inBlock, Exit.then])
        refine bodyPost_ret (v := .tuple #[.agg #[.int .i64 1, .int .i64 (-128), .int .i64 127], .int .i64 0]) (by rw [results_cell_tmp rfl]; simp [asAddr, Result.andThen, set_num (ga0 _) (ga1 _) (ga2 _)]) rfl ?_
        exact ⟨ret_look HR.out, (((HW.out.alloc (by omega) _).setCell (Nat.le_refl _) _).setCell (Nat.le_refl _) _).setCell (Nat.le_refl _) _⟩
      · go_wp2
        exact ⟨⟨1, by omega, rfl, by omega, by omega, by omega, by omega, HB.out.alloc hs _⟩, by simp [intOf]⟩
    · rw [show ((1 : Nat) : Int) = 1 from rfl]
      have hi := index_1
      by_cases hx : x = 2
      · have HR := Lib.hid (show (2 : Int) = widI x ∧ (-32768 : Int) = leastI x ∧ (32767 : Int) = imostI x ∧ (0 : Int) = mostE x from by subst hx; decide)
        go_wp2
        (try simp only [Exit.inBlock, Exit.then])
        refine bodyPost_ret (v := .tuple #[.agg #[.int .i64 2, .int .i64 (-32768), .int .i64 32767], .int .i64 0]) (by rw [results_cell_tmp rfl]; simp [asAddr, Result.andThen, set_num (ga0 _) (ga1 _) (ga2 _)]) rfl ?_
        exact ⟨ret_look HR.out, (((HW.out.alloc (by omega) _).setCell (Nat.le_refl _) _).setCell (Nat.le_refl _) _).setCell (Nat.le_refl _) _⟩
      · go_wp2
        exact ⟨⟨2, by omega, rfl, by omega, by omega, by omega, by omega, HB.out.alloc hs _⟩, by simp [intOf]⟩
    · rw [show ((2 : Nat) : Int) = 2 from rfl]
      have hi := index_2
      by_cases hx : x = 4
      · have HR := Lib.hid (show (4 : Int) = widI x ∧ (-2147483648 : Int) = leastI x ∧ (2147483647 : Int) = imostI x ∧ (0 : Int) = mostE x from by subst hx; decide)
        go_wp2
        (try simp only [Exit.inBlock, Exit.then])
        refine bodyPost_ret (v := .tuple #[.agg #[.int .i64 4, .int .i64 (-2147483648), .int .i64 2147483647], .int .i64 0]) (by rw [results_cell_tmp rfl]; simp [asAddr, Result.andThen, set_num (ga0 _) (ga1 _) (ga2 _)]) rfl ?_
        exact ⟨ret_look HR.out, (((HW.out.alloc (by omega) _).setCell (Nat.le_refl _) _).setCell (Nat.le_refl _) _).setCell (Nat.le_refl _) _⟩
      · go_wp2
        exact ⟨⟨3, by omega, rfl, by omega, by omega, by omega, by omega, HB.out.alloc hs _⟩, by simp [intOf]⟩
    · rw [show ((3 : Nat) : Int) = 3 from rfl]
      have hi := index_3
      by_cases hx : x = 8
      · have HR := Lib.hid (show (8 : Int) = widI x ∧ (-9223372036854775808 : Int) = leastI x ∧ (9223372036854775807 : Int) = imostI x ∧ (0 : Int) = mostE x from by subst hx; decide)
        go_wp2
        (try simp only [Exit.inBlock, Exit.then])
        refine bodyPost_ret (v := .tuple #[.agg #[.int .i64 8, .int .i64 (-9223372036854775808), .int .i64 9223372036854775807], .int .i64 0]) (by rw [results_cell_tmp rfl]; simp [asAddr, Result.andThen, set_num (ga0 _) (ga1 _) (ga2 _)]) rfl ?_
        exact ⟨ret_look HR.out, (((HW.out.alloc (by omega) _).setCell (Nat.le_refl _) _).setCell (Nat.le_refl _) _).setCell (Nat.le_refl _) _⟩
      · go_wp2
        exact ⟨⟨4, by omega, rfl, by omega, by omega, by omega, by omega, HB.out.alloc hs _⟩, by simp [intOf]⟩
    · rw [show ((4 : Nat) : Int) = 4 from rfl]
      have HR := Lib.hid (show (0 : Int) = widI x ∧ (0 : Int) = leastI x ∧ (0 : Int) = imostI x ∧ (1 : Int) = mostE x from by
        have hw : wid x = false := by simp [wid]; omega
        simp [widI, mostE, hw, leastI_no hw, imostI_no hw])
      go_wp2
      (try simp only [Exit.inBlock, Exit.then])
      refine bodyPost_ret (v := .tuple #[.agg #[.int .i64 0, .int .i64 0, .int .i64 0], .int .i64 1]) (by rw [results_cell_tmp rfl]; simp [asAddr, Result.andThen, set_num hz0 hz1 hz2]) rfl ?_
      exact ⟨ret_look HR.out, ((HW.out.setCell (Nat.le_refl _) _).setCell (Nat.le_refl _) _).setCell (Nat.le_refl _) _⟩
end Go.Proofs.YtdpddkpfllioiaaDoor
