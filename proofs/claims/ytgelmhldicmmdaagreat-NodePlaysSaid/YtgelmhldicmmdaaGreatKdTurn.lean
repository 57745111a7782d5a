/-
  Package kids: kids of nothing, of any room; kids turned into another kind.
-/
import Derived.Test.YtgelmhldicmmdaaGreatKdMove
import Derived.Test.YtgelmhldicmmdaaGreatKdKind
namespace Go.Proofs.YtgelmhldicmmdaaGreat
open Go.RowKit

/-- Kids of nothing, new; what stands for them is newer. -/
def RoomPost (w : World) (room : Nat) (e : Ending) (w' : World) : Prop :=
  ∃ o : Ho, e = .returned (.pointer (some ⟨w.heap.size, 0, none⟩)) ∧ Kr w' w.heap.size o room [] ∧ (∀ i, o.D i → w.heap.size < i) ∧ Below w.heap.size w w'
set_option maxRecDepth 100000 in
theorem kroom_row (w : World) (room : Nat) (h1 : 1 ≤ room) (h2 : room ≤ 16) : Calls Tryz.prog 63 #[.int .i64 (room : Int)] w fun e w' => RoomPost w room e w' := by
  obtain ⟨V, hV⟩ : ∃ V, w.alloc (.cells #[.pointer none, .pointer none] 108) = V := ⟨_, rfl⟩
  have L1 : Lst V w.heap.size [.pointer none, .pointer none] := by rw [← hV]; exact Blk.new w _ _
  have b0 : Below w.heap.size w V := by rw [← hV]; exact (Below.refl _ _).alloc (Nat.le_refl _) _
  have hs : V.heap.size = w.heap.size + 1 := by rw [← hV, World.size_alloc]
  obtain ⟨g, hg⟩ : ∃ g, w.heap.size = g := ⟨_, rfl⟩
  have HF := Lib.hid (fun (w1 : World) (q1 : Sm w1 (V.heap.size + 1) V.heap.size room []) (q2 : Below V.heap.size V w1) => show w1.cell? ⟨g, 0, none⟩ = some (.pointer none) ∧ w1.frozen? ⟨g, 0, none⟩ = false ∧ RoomPost w room (.returned (.pointer (some ⟨g, 0, none⟩))) (w1.setCell ⟨g, 0, none⟩ (.pointer (some ⟨V.heap.size + 1, 0, none⟩))) from by
    have L2 : Lst w1 w.heap.size [.pointer none, .pointer none] := Blk.below L1 q2 (by omega)
    have L3 := Lst.set1 L2 0 (.pointer (some ⟨V.heap.size + 1, 0, none⟩))
    have k3 := Kept.set_ (D := (· = w.heap.size)) w1 ⟨w.heap.size, 0, none⟩ (.pointer (some ⟨V.heap.size + 1, 0, none⟩)) rfl
    rw [← hg]
    refine ⟨by rw [Lst.at_ L2]; rfl, Blk.fz L2 _, .row (V.heap.size + 1) V.heap.size, rfl, ⟨L3, q1.kept k3 (by omega) (by omega), fun q => ?_⟩, fun i hi => ?_, ?_⟩
    · rcases q with q | q <;> omega
    · rcases hi with q | q <;> omega
    · exact (b0.trans (q2.mono (by omega))).trans (k3.below (by have := q2.size; omega) (fun i q => by omega)))
  have C := Lib.hid (snew_yes V room h1 h2)
  have HV := Lib.hid hV
  have HG := Lib.hid hg
  have q1 : (room : Int) ≤ 16 := by omega
  clear L1 b0 hs hV hg
  go_enter Tryz.func63, Tryz.ntmps63
  go_wp2_with fail
  rw [HV.out, HG.out]
  (with_reducible refine C.out.mono ?_)
  rintro e w1 ⟨rfl, k1, k2⟩
  obtain ⟨c0, f0, hp⟩ := HF.out w1 k1 k2
  have HP := Lib.hid hp
  clear k1 k2 hp
  go_wp2
  go_ret
  exact HP.out
set_option maxRecDepth 100000 in
theorem kroom_board (w : World) (room : Nat) (h : room = 48 ∨ room = 256) : Calls Tryz.prog 63 #[.int .i64 (room : Int)] w fun e w' => RoomPost w room e w' := by
  obtain ⟨V, hV⟩ : ∃ V, w.alloc (.cells #[.pointer none, .pointer none] 108) = V := ⟨_, rfl⟩
  have L1 : Lst V w.heap.size [.pointer none, .pointer none] := by rw [← hV]; exact Blk.new w _ _
  have b0 : Below w.heap.size w V := by rw [← hV]; exact (Below.refl _ _).alloc (Nat.le_refl _) _
  have hs : V.heap.size = w.heap.size + 1 := by rw [← hV, World.size_alloc]
  obtain ⟨g, hg⟩ : ∃ g, w.heap.size = g := ⟨_, rfl⟩
  have HF := Lib.hid (fun (w1 : World) (q1 : Bd w1 V.heap.size (.slice none 0 0) room [] 0) (q2 : Below V.heap.size V w1) => show w1.cell? ⟨g, 1, none⟩ = some (.pointer none) ∧ w1.frozen? ⟨g, 1, none⟩ = false ∧ RoomPost w room (.returned (.pointer (some ⟨g, 0, none⟩))) (w1.setCell ⟨g, 1, none⟩ (.pointer (some ⟨V.heap.size, 0, none⟩))) from by
    have L2 : Lst w1 w.heap.size [.pointer none, .pointer none] := Blk.below L1 q2 (by omega)
    have L3 := Lst.set1 L2 1 (.pointer (some ⟨V.heap.size, 0, none⟩))
    have k3 := Kept.set_ (D := (· = w.heap.size)) w1 ⟨w.heap.size, 1, none⟩ (.pointer (some ⟨V.heap.size, 0, none⟩)) rfl
    rw [← hg]
    refine ⟨by rw [Lst.at_ L2]; rfl, Blk.fz L2 _, .board V.heap.size (.slice none 0 0), rfl, ⟨L3, ⟨h, 0, q1.kept k3 (fun i hi q => ?_)⟩, fun q => ?_⟩, fun i hi => ?_, ?_⟩
    · rcases hi with q' | q'
      · omega
      · simp [Value.ownBlock] at q'
    · rcases q with q | q
      · omega
      · simp [Value.ownBlock] at q
    · rcases hi with q | q
      · omega
      · simp [Value.ownBlock] at q
    · exact (b0.trans (q2.mono (by omega))).trans (k3.below (by have := q2.size; omega) (fun i q => by omega)))
  have C := Lib.hid (wnew_yes V room h)
  have HV := Lib.hid hV
  have HG := Lib.hid hg
  have q1 : ¬ ((room : Int) ≤ 16) := by omega
  clear L1 b0 hs hV hg
  go_enter Tryz.func63, Tryz.ntmps63
  go_wp2_with fail
  rw [HV.out, HG.out]
  (with_reducible refine C.out.mono ?_)
  rintro e w1 ⟨rfl, k1, k2⟩
  obtain ⟨c0, f0, hp⟩ := HF.out w1 k1 k2
  have HP := Lib.hid hp
  clear k1 k2 hp
  go_wp2
  go_ret
  exact HP.out
set_option maxRecDepth 100000 in
theorem kroom_any (w : World) (n : Nat) : Calls Tryz.prog 63 #[.int .i64 (kindN n : Int)] w fun e w' => RoomPost w (kindN n) e w' := by
  rcases kindN_two n with h | h
  · exact kroom_row w _ (by omega) (by omega)
  · exact kroom_board w _ h
set_option maxRecDepth 100000 in
theorem knew_any (w : World) : Calls Tryz.prog 37 #[] w fun e w' => RoomPost w 4 e w' := by
  have C := Lib.hid (show Calls Tryz.prog 63 #[.int .i64 4] w fun e w' => RoomPost w 4 e w' from kroom_row w 4 (by omega) (by omega))
  have K := Lib.hid (show Calls Tryz.prog 64 #[.int .i64 0] w fun e w' => e = .returned (.int .i64 4) ∧ w' = w from kindof_any w 0)
  go_enter Tryz.func37, Tryz.ntmps37
  go_wp2_with fail
  (with_reducible refine K.out.mono ?_)
  rintro e w1 ⟨rfl, rfl⟩
  go_wp2_with fail
  (with_reducible refine C.out.mono ?_)
  rintro e w2 ⟨o, rfl, h1, h2, h3⟩
  have HP := Lib.hid (show RoomPost w1 4 (.returned (.pointer (some ⟨w1.heap.size, 0, none⟩))) w2 from ⟨o, rfl, h1, h2, h3⟩)
  clear h1 h2 h3
  go_wp2
  go_ret
  exact HP.out

/-- What turning leaves: kids of another room that hold the same; all that stands for them is new. -/
def TurnPost (w w' : World) (g room : Nat) (es : List Ent) : Prop :=
  ∃ d : Ho, Kr w' g d room es ∧ (∀ i, d.D i → w.heap.size ≤ i) ∧ Kept (· = g) w w'
set_option maxRecDepth 100000 in
theorem kturn_any {w : World} {g ro n : Nat} {o : Ho} {es : List Ent} (h : Kr w g o ro es) (hr : es.length ≤ kindN n) :
    Calls Tryz.prog 66 #[.pointer (some ⟨g, 0, none⟩), .int .i64 (kindN n : Int)] w fun e w' => e = .returned (.tuple #[]) ∧ TurnPost w w' g (kindN n) es := by
  have C := Lib.hid (kroom_any w n)
  have H := Lib.hid h
  generalize kindN n = rm at hr C ⊢
  have HR := Lib.hid hr
  clear h hr
  go_enter Tryz.func66, Tryz.ntmps66
  go_wp2_with fail
  (with_reducible refine C.out.mono ?_)
  rintro e w1 ⟨d, rfl, h1, h2, h3⟩
  have H1 := Lib.hid h1
  have HL := Lib.hid (show w.heap.size < w1.heap.size from Blk.lt h1.two)
  have HW := Lib.hid (kwhere_any (H.out.below h3))
  have HX := Lib.hid (kwhere_any h1)
  have HM := Lib.hid (kmove_any (B := w.heap.size + 1) (H.out.below h3).is h1.is (fun i hi => by have := H.out.lt (Or.inr hi); omega) (fun i hi => by have := h2 i hi; omega) HL.out HR.out)
  have HB := Lib.hid h3
  have H2 := Lib.hid h2
  clear h1 h2 h3 C
  go_wp2_with fail
  (with_reducible refine HW.out.mono ?_)
  rintro e w2 ⟨rfl, rfl⟩
  go_wp2_with fail
  (with_reducible refine HX.out.mono ?_)
  rintro e w3 ⟨rfl, rfl⟩
  go_wp2_with fail
  (with_reducible refine HM.out.mono ?_)
  rintro e w4 ⟨rfl, h1, h2⟩
  obtain ⟨d', q1, q2, q3, q4⟩ := h1
  have L4 : Lst w4 w.heap.size d.two := Blk.below H1.out.two h2 (by omega)
  have G4 : Lst w4 g o.two := Blk.below (Blk.below H.out.two HB.out H.out.lt0) h2 (by have := H.out.lt0; omega)
  have HP := Lib.hid (show ∀ x y, d.two = [x, y] → TurnPost w ((w4.setCell ⟨g, 0, none⟩ x).setCell ⟨g, 1, none⟩ y) g rm es from fun x y hxy => by
    have hg := H.out.lt0
    have hs2 := h2.size
    have hs1 := HB.out.size
    have k1 := Kept.set_ (D := (· = g)) w4 ⟨g, 0, none⟩ x rfl
    have k2 := Kept.set_ (D := (· = g)) (w4.setCell ⟨g, 0, none⟩ x) ⟨g, 1, none⟩ y rfl
    have two := Lst.set1 (Lst.set1 G4 0 x) 1 y
    have e2 : ∃ a b, o.two = [a, b] := by cases o <;> exact ⟨_, _, rfl⟩
    obtain ⟨a, b, hab⟩ := e2
    rw [hab] at two
    refine ⟨d', ⟨?_, q1.kept (k1.trans k2) (fun i hi e => ?_), fun e => ?_⟩, fun i hi => ?_, ?_⟩
    · rw [q3, hxy]; exact two
    · have := q4 i hi; omega
    · have := q4 g e; omega
    · have := q4 i hi; omega
    · exact (Kept.of_below (HB.out.trans (h2.mono (Nat.le_succ _)))).trans (k1.trans k2))
  obtain ⟨x, y, hxy⟩ : ∃ x y : Option Addr, d.two = [.pointer x, .pointer y] := by cases d <;> exact ⟨_, _, rfl⟩
  obtain ⟨a, b, hab⟩ : ∃ a b : Option Addr, o.two = [.pointer a, .pointer b] := by cases o <;> exact ⟨_, _, rfl⟩
  have P2 := Lib.hid (HP.out _ _ hxy)
  rw [hxy] at L4
  rw [hab] at G4
  have c0 : w4.cell? ⟨w.heap.size, 0, none⟩ = some (.pointer x) := by rw [Lst.at_ L4]; rfl
  have c1 : w4.cell? ⟨w.heap.size, 1, none⟩ = some (.pointer y) := by rw [Lst.at_ L4]; rfl
  have c2 : w4.cell? ⟨g, 0, none⟩ = some (.pointer a) := by rw [Lst.at_ G4]; rfl
  have c3 : w4.cell? ⟨g, 1, none⟩ = some (.pointer b) := by rw [Lst.at_ G4]; rfl
  have f0 : ∀ k, w4.frozen? ⟨g, k, none⟩ = false := fun k => Blk.fz G4 k
  clear HP q1 q2 q3 q4 h2 hxy hab L4 G4
  go_wp2
  go_end0
  exact ⟨rfl, P2.out⟩
end Go.Proofs.YtgelmhldicmmdaaGreat
