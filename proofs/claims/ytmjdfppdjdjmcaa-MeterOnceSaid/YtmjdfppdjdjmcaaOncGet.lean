/-
  Package meter's thing that is told once: Do, Get, Told.
-/
import Derived.Test.YtmjdfppdjdjmcaaOnc
import Derived.Laws.NewBlocks
namespace Go.Proofs.Ytmjdfppdjdjmcaa
open Go.RowKit

set_option maxRecDepth 100000 in
theorem do_first (b : Nat) (qx qm : Addr) (K : FuncId) (cap : Array Value) (n : Int) (D : Nat → Prop) (E : World → Prop) (c2 : Value) (s t : Int) (w : World)
    (hx : w.cell? qx = some (.pointer (some ⟨b, 0, none⟩))) (hm : w.cell? qm = some (.func (.func K) #[] cap)) (lx : qx.block < w.heap.size) (lm : qm.block < w.heap.size) (nx : ¬ qx.block = b) (nm : ¬ qm.block = b) (dx : ¬ D qx.block) (db : ¬ D b)
    (h : Blk w b #[.int .u32 0, .int .i32 0, c2, .int .i32 s, .int .i64 t]) (hk : ∀ W, Kept (· = b) w W → Tells K cap n D E W) (he : ∀ W W', E W → Kept (· = b) W W' → E W') :
    Calls Try.prog 26 #[.pointer (some ⟨b, 0, none⟩), .func (.func 27) #[] #[.pointer (some qx), .pointer (some qm)]] w fun e w' => e = .returned (.tuple #[]) ∧ Blk w' b #[.int .u32 1, .int .i32 0, c2, .int .i32 2, .int .i64 n] ∧ Kept (fun g => g = b ∨ D g) w w' ∧ E w' := by
  have HS := Lib.hid (slow_any b qx qm K cap n D E c2 s t w hx hm lx lm nx nm dx db h hk he)
  have HL := Lib.hid (bool_load ⟨b, 0, none⟩ 0 w (h.cell 0))
  have hnot : ∀ (x : Bool) (w : World), (Op.unary .not (.bool x)).run Try.prog w = .ok (.bool (!x)) w := fun _ _ => rfl
  clear nx nm lx lm dx db hk he h hm hx
  go_enter Try.func26, Try.ntmps26
  go_wp2_with fail
  (with_reducible refine HL.out.mono ?_)
  rintro e w' ⟨rfl, rfl⟩
  go_wp2_with fail
  (with_reducible refine HS.out.mono ?_)
  rintro e w2 ⟨rfl, h2, k2, e2⟩
  have R := Lib.hid (And.intro h2 (And.intro k2 e2))
  clear h2 k2 e2
  go_wp2
  go_end0
  exact ⟨rfl, R.out.1, R.out.2.1, R.out.2.2⟩

set_option maxRecDepth 100000 in
theorem do_done (a : Addr) (fv : Value) (w : World) (h0 : w.cell? a = some (.int .u32 1)) :
    Calls Try.prog 26 #[.pointer (some a), fv] w fun e w' => e = .returned (.tuple #[]) ∧ w' = w := by
  have HL := Lib.hid (bool_load a 1 w h0)
  have hnot : ∀ (x : Bool) (w : World), (Op.unary .not (.bool x)).run Try.prog w = .ok (.bool (!x)) w := fun _ _ => rfl
  go_enter Try.func26, Try.ntmps26
  go_wp2_with fail
  (with_reducible refine HL.out.mono ?_)
  rintro e w' ⟨rfl, rfl⟩
  go_wp2
  go_end0
  exact ⟨rfl, rfl⟩

set_option maxRecDepth 100000 in
theorem get_nil (K : FuncId) (cap : Array Value) (w : World) : Calls Try.prog 14 #[.pointer none, .func (.func K) #[] cap] w fun e w' => e = .returned (.int .i64 0) ∧ Below w.heap.size w w' := by
  go_enter Try.func14, Try.ntmps14
  go_wp2
  go_ret
  exact ⟨rfl, ((Below.refl _ _).alloc (Nat.le_refl _) _).alloc (by simp) _⟩

set_option maxRecDepth 100000 in
theorem told_nil (w : World) : Calls Try.prog 17 #[.pointer none] w fun e w' => e = .returned (.bool false) ∧ w' = w := by
  go_enter Try.func17, Try.ntmps17
  go_wp2
  go_ret
  exact ⟨rfl, rfl⟩
set_option maxRecDepth 100000 in
theorem told_any (b : Nat) (x : Int) (w : World) (hc : w.cell? ⟨b, 3, none⟩ = some (.int .i32 x)) : Calls Try.prog 17 #[.pointer (some ⟨b, 0, none⟩)] w fun e w' => e = .returned (.bool (x == 2)) ∧ w' = w := by
  have HL := Lib.hid (get32 ⟨b, 3, none⟩ x w hc)
  go_enter Try.func17, Try.ntmps17
  go_wp2_with fail
  (with_reducible refine HL.out.mono ?_)
  rintro e w' ⟨rfl, rfl⟩
  go_wp2
  go_ret
  exact ⟨rfl, rfl⟩

set_option maxRecDepth 100000 in
set_option maxHeartbeats 1600000 in
/-- Get, at the first time: what the function tells, which is asked once. -/
theorem get_first (b : Nat) (K : FuncId) (cap : Array Value) (n : Int) (D : Nat → Prop) (E : World → Prop) (c2 : Value) (t : Int) (w : World) (hD : ∀ g, D g → g < w.heap.size ∧ g ≠ b)
    (h : Blk w b #[.int .u32 0, .int .i32 0, c2, .int .i32 0, .int .i64 t]) (hk : ∀ W, Kept (· = b) w W → Tells K cap n D E W) (he : ∀ W W', E W → Kept (· = b) W W' → E W') :
    Calls Try.prog 14 #[.pointer (some ⟨b, 0, none⟩), .func (.func K) #[] cap] w fun e w' => e = .returned (.int .i64 n) ∧ Blk w' b #[.int .u32 1, .int .i32 0, c2, .int .i32 2, .int .i64 n] ∧ Kept (fun g => g = b ∨ D g) w w' ∧ E w' := by
  have hmf : ∀ (fn : Fn) (first cap : Array Value) (w : World), (Instr.makeFunc fn first cap).run Try.prog w = .ok (.func fn first cap) w := fun _ _ _ _ => rfl
  generalize hW : (w.alloc (.cells #[.pointer (some ⟨b, 0, none⟩)] 63)).alloc (.cells #[.func (.func K) #[] cap] 35) = W
  have hlt := h.lt
  have BW := Lib.hid (show Below w.heap.size w W by subst hW; exact ((Below.refl _ _).alloc (Nat.le_refl _) _).alloc (by simp) _)
  have hx : W.cell? ⟨w.heap.size, 0, none⟩ = some (.pointer (some ⟨b, 0, none⟩)) := by
    subst hW
    exact ((Blk.new w _ _).alloc _).cell 0
  have hm : W.cell? ⟨w.heap.size + 1, 0, none⟩ = some (.func (.func K) #[] cap) := by
    subst hW
    have := Blk.new (w.alloc (.cells #[.pointer (some ⟨b, 0, none⟩)] 63)) 35 #[.func (.func K) #[] cap]
    rw [World.size_alloc] at this
    exact this.cell 0
  have hsz : W.heap.size = w.heap.size + 2 := by subst hW; simp
  have hb : Blk W b #[.int .u32 0, .int .i32 0, c2, .int .i32 0, .int .i64 t] := h.below BW.out hlt
  have HG := Lib.hid (get32 ⟨b, 3, none⟩ 0 W (hb.cell 3))
  have HF := Lib.hid (do_first b ⟨w.heap.size, 0, none⟩ ⟨w.heap.size + 1, 0, none⟩ K cap n D E c2 0 t W hx hm (by simp; omega) (by simp; omega) (by simp; omega) (by simp; omega) (fun q => by have := (hD _ q).1; simp at this) (fun q => (hD _ q).2 rfl) hb (fun V hV => hk V ((Kept.of_below BW.out).trans hV)) he)
  have HX := Lib.hid hx
  have HQ := Lib.hid (show ¬ (w.heap.size = b ∨ D w.heap.size) by rintro (q | q); omega; have := (hD _ q).1; omega)
  have HZ := Lib.hid hsz
  clear h hk he hm hb hD hsz hlt
  go_enter Try.func14, Try.ntmps14
  go_wp2_with fail
  (with_reducible refine HG.out.mono ?_)
  rintro e w' ⟨rfl, rfl⟩
  go_wp2_with fail
  (with_reducible refine HF.out.mono ?_)
  rintro e w2 ⟨rfl, h2, k2, e2⟩
  have B2 := Lib.hid h2
  have K2 := Lib.hid k2
  have E2 := Lib.hid e2
  have hx2 : w2.cell? ⟨w.heap.size, 0, none⟩ = some (.pointer (some ⟨b, 0, none⟩)) := (k2.cell (p := ⟨w.heap.size, 0, none⟩) (by have := HZ.out; simp; omega) HQ.out).trans HX.out
  have hc4 : w2.cell? ⟨b, 4, none⟩ = some (.int .i64 n) := h2.cell 4
  clear h2 k2 e2 hx hW
  go_wp2
  go_ret
  exact ⟨rfl, B2.out, (Kept.of_below BW.out).trans K2.out, E2.out⟩

set_option maxRecDepth 100000 in
set_option maxHeartbeats 1600000 in
/-- Get, told already: that again; the function is not asked. -/
theorem get_again (b : Nat) (K : FuncId) (cap : Array Value) (n : Int) (c1 c2 : Value) (w : World) (h : Blk w b #[.int .u32 1, c1, c2, .int .i32 2, .int .i64 n]) :
    Calls Try.prog 14 #[.pointer (some ⟨b, 0, none⟩), .func (.func K) #[] cap] w fun e w' => e = .returned (.int .i64 n) ∧ Below w.heap.size w w' := by
  have hmf : ∀ (fn : Fn) (first cap : Array Value) (w : World), (Instr.makeFunc fn first cap).run Try.prog w = .ok (.func fn first cap) w := fun _ _ _ _ => rfl
  generalize hW : (w.alloc (.cells #[.pointer (some ⟨b, 0, none⟩)] 63)).alloc (.cells #[.func (.func K) #[] cap] 35) = W
  have hlt := h.lt
  have BW := Lib.hid (show Below w.heap.size w W by subst hW; exact ((Below.refl _ _).alloc (Nat.le_refl _) _).alloc (by simp) _)
  have hx : W.cell? ⟨w.heap.size, 0, none⟩ = some (.pointer (some ⟨b, 0, none⟩)) := by
    subst hW
    exact ((Blk.new w _ _).alloc _).cell 0
  have hb : Blk W b #[.int .u32 1, c1, c2, .int .i32 2, .int .i64 n] := h.below BW.out hlt
  have HG := Lib.hid (get32 ⟨b, 3, none⟩ 2 W (hb.cell 3))
  have HF := Lib.hid (fun fv => do_done ⟨b, 0, none⟩ fv W (hb.cell 0))
  have hc4 : W.cell? ⟨b, 4, none⟩ = some (.int .i64 n) := hb.cell 4
  clear h hb hlt
  go_enter Try.func14, Try.ntmps14
  go_wp2_with fail
  (with_reducible refine HG.out.mono ?_)
  rintro e w' ⟨rfl, rfl⟩
  go_wp2_with fail
  (with_reducible refine (HF.out _).mono ?_)
  rintro e w' ⟨rfl, rfl⟩
  clear hW
  go_wp2
  go_ret
  exact ⟨rfl, BW.out⟩
end Go.Proofs.Ytmjdfppdjdjmcaa
