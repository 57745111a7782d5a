/-
  Package meter's thing that is told once: made within sync.Once by whatever function is handed over (its own contract is asked), and told again.
-/
import Derived.Test.YtmjdfppdjdjmcaaMtr
import Derived.Deep.RegionWith
namespace Go.Proofs.Ytmjdfppdjdjmcaa
open Go.RowKit

/-- What a function that is handed over does: it tells n, writes to blocks in D alone, and leaves E behind. -/
abbrev Tells (K : FuncId) (cap : Array Value) (n : Int) (D : Nat → Prop) (E : World → Prop) (W : World) : Prop :=
  (∀ V, (callFunc K cap).run Try.prog V = .ok (.enter K cap) V) ∧ Calls Try.prog K cap W fun e W' => e = .returned (.int .i64 n) ∧ Kept D W W' ∧ E W'

set_option maxRecDepth 100000 in
theorem ask_idle (w : World) : CallsD Try.prog 39 #[] .returning w fun e u' w' => e = .returned (.tuple #[]) ∧ u' = .returning ∧ w' = w := by
  refine callsD_of_wpS Try.func39 rfl fun c₀ cs hu => ?_
  apply wpS_region
  simp [wpOpsS, go_sem, recoverD, hu, Try.ntmps39]
  cases c₀
  simp_all [bodyPostS, results, Try.results39]

set_option maxRecDepth 100000 in
theorem ask_any (K : FuncId) (cap : Array Value) (n : Int) (D : Nat → Prop) (E : World → Prop) (w : World) (h : Tells K cap n D E w) :
    Calls Try.prog 29 #[.func (.func K) #[] cap] w fun e w' => e = .returned (.int .i64 n) ∧ Kept D w w' ∧ E w' := by
  have hn : ∀ w, (binOp .eql 35 (.func (.func K) #[] cap) .nilFunc).run Try.prog w = .ok (.bool false) w := fun _ => by kernel_rfl
  go_enter_defers Try.func29, Try.ntmps29
  obtain ⟨hf, hc⟩ := h
  have HC := Lib.hid hc
  clear hc
  go_wp2_with fail
  (with_reducible refine Calls.mono HC.out ?_)
  rintro e w' ⟨rfl, hk⟩
  go_wp2
  refine leaves_cons (f := 39) (args := #[]) (by simp) (by simp [go_sem]) ?_
  refine (ask_idle _).mono ?_
  rintro e u' w'' ⟨rfl, rfl, rfl⟩
  simp [Leaves, settle, results, Try.results29, hk]


set_option maxRecDepth 100000 in
theorem put32 (a : Addr) (x : Value) (y : Int) (w : World) (hc : w.cell? a = some x) (hz : w.frozen? a = false) :
    Calls Try.prog 28 #[.pointer (some a), .int .i32 y] w fun e w' => e = .returned (.tuple #[]) ∧ w' = w.setCell a (.int .i32 y) := by
  have hs := store_i32 (y := y) hc hz
  go_enter Try.func28, Try.ntmps28
  go_wp2
  go_end0
  exact ⟨rfl, rfl⟩
set_option maxRecDepth 100000 in
theorem get32 (a : Addr) (x : Int) (w : World) (hc : w.cell? a = some (.int .i32 x)) :
    Calls Try.prog 25 #[.pointer (some a)] w fun e w' => e = .returned (.int .i32 x) ∧ w' = w := by
  have hs := load_i32 hc
  go_enter Try.func25, Try.ntmps25
  go_wp2
  go_ret
  exact ⟨rfl, rfl⟩

set_option maxRecDepth 100000 in
set_option maxHeartbeats 1600000 in
theorem get1_any (b : Nat) (qx qm : Addr) (K : FuncId) (cap : Array Value) (n : Int) (D : Nat → Prop) (E : World → Prop) (c0 c1 c2 : Value) (s t : Int) (w : World)
    (hx : w.cell? qx = some (.pointer (some ⟨b, 0, none⟩))) (hm : w.cell? qm = some (.func (.func K) #[] cap)) (lx : qx.block < w.heap.size) (lm : qm.block < w.heap.size) (nx : ¬ qx.block = b) (nm : ¬ qm.block = b) (dx : ¬ D qx.block) (db : ¬ D b)
    (h : Blk w b #[c0, c1, c2, .int .i32 s, .int .i64 t]) (hk : ∀ W, Kept (· = b) w W → Tells K cap n D E W) (he : ∀ W W', E W → Kept (· = b) W W' → E W') :
    Calls Try.prog 27 #[.pointer (some qx), .pointer (some qm)] w fun e w' => e = .returned (.tuple #[]) ∧ Blk w' b #[c0, c1, c2, .int .i32 2, .int .i64 n] ∧ Kept (fun g => g = b ∨ D g) w w' ∧ E w' := by
  have HN := Lib.hid (And.intro nx nm)
  have HL := Lib.hid (And.intro lx lm)
  have HD := Lib.hid (And.intro dx db)
  have HK := Lib.hid hk
  have HE := Lib.hid he
  have HB := Lib.hid h
  have HM := Lib.hid hm
  have HX := Lib.hid hx
  clear nx nm lx lm dx db hk he h
  go_enter Try.func27, Try.ntmps27
  go_wp2_with fail
  (with_reducible refine (put32 ⟨b, 3, none⟩ _ 1 _ (HB.out.cell 3) (HB.out.fz 3)).mono ?_)
  rintro e w1 ⟨rfl, hw⟩
  obtain ⟨h1, k1⟩ := HB.out.put hw (cs' := #[c0, c1, c2, .int .i32 1, .int .i64 t]) (by simp)
  have B1 := Lib.hid h1
  have K1 := Lib.hid k1
  clear hw h1 k1 hm hx
  have hx1 : w1.cell? qx = some (.pointer (some ⟨b, 0, none⟩)) := (K1.out.cell HL.out.1 HN.out.1).trans HX.out
  have hm1 : w1.cell? qm = some (.func (.func K) #[] cap) := (K1.out.cell HL.out.2 HN.out.2).trans HM.out
  have HX1 := Lib.hid hx1
  go_wp2_with fail
  go_region_with (go_at_call 29; refine (ask_any K cap n D E _ (HK.out _ K1.out.drew)).mono ?_; rintro e v1 ⟨rfl, kv, ev⟩; have KV := Lib.hid kv; have EV := Lib.hid ev; have BV := Lib.hid (kv.blk (w := w1.drew) B1.out HD.out.2); have hx2 : v1.cell? qx = some (.pointer (some ⟨b, 0, none⟩)) := (kv.cell (w := w1.drew) (Nat.lt_of_lt_of_le HL.out.1 K1.out.size) HD.out.1).trans HX1.out; have hc4 := BV.out.cell 4; have hz4 := BV.out.fz 4; clear kv ev)
  all_goals (
    generalize hw : v1.setCell ⟨b, 4, none⟩ (.int .i64 n) = w2
    obtain ⟨h2, k2⟩ := BV.out.put hw.symm (cs' := #[c0, c1, c2, .int .i32 1, .int .i64 n]) (by simp)
    have B2 := Lib.hid h2
    have K2 := Lib.hid k2
    have hx3 : w2.cell? qx = some (.pointer (some ⟨b, 0, none⟩)) := (k2.cell (lt_cell hx2) HN.out.1).trans hx2
    clear hw h2 k2 hx1 hm1 hx2 hc4 hz4
    go_wp2_with fail
    (with_reducible refine (put32 ⟨b, 3, none⟩ _ 2 _ (B2.out.cell 3) (B2.out.fz 3)).mono ?_)
    rintro e w3 ⟨rfl, hw⟩
    obtain ⟨h3, k3⟩ := B2.out.put hw (cs' := #[c0, c1, c2, .int .i32 2, .int .i64 n]) (by simp)
    have B3 := Lib.hid h3
    have K3 := Lib.hid (K2.out.trans k3)
    clear hw h3 k3 hx3
    go_wp2
    go_end0
    exact ⟨rfl, B3.out, ((K1.out.drew.mono fun _ => Or.inl).trans (KV.out.mono fun _ => Or.inr)).trans (K3.out.mono fun _ => Or.inl), HE.out _ _ EV.out K3.out⟩)

set_option maxRecDepth 100000 in
theorem bool_load (a : Addr) (x : Int) (w : World) (hc : w.cell? a = some (.int .u32 x)) :
    Calls Try.prog 36 #[.pointer (some a)] w fun e w' => e = .returned (.bool (x != 0)) ∧ w' = w := by
  have hs := load_u32 hc
  go_enter Try.func36, Try.ntmps36
  go_wp2
  go_ret
  exact ⟨rfl, rfl⟩

set_option maxRecDepth 100000 in
set_option maxHeartbeats 1600000 in
theorem slow_any (b : Nat) (qx qm : Addr) (K : FuncId) (cap : Array Value) (n : Int) (D : Nat → Prop) (E : World → Prop) (c2 : Value) (s t : Int) (w : World)
    (hx : w.cell? qx = some (.pointer (some ⟨b, 0, none⟩))) (hm : w.cell? qm = some (.func (.func K) #[] cap)) (lx : qx.block < w.heap.size) (lm : qm.block < w.heap.size) (nx : ¬ qx.block = b) (nm : ¬ qm.block = b) (dx : ¬ D qx.block) (db : ¬ D b)
    (h : Blk w b #[.int .u32 0, .int .i32 0, c2, .int .i32 s, .int .i64 t]) (hk : ∀ W, Kept (· = b) w W → Tells K cap n D E W) (he : ∀ W W', E W → Kept (· = b) W W' → E W') :
    Calls Try.prog 37 #[.pointer (some ⟨b, 0, none⟩), .func (.func 27) #[] #[.pointer (some qx), .pointer (some qm)]] w fun e w' => e = .returned (.tuple #[]) ∧ Blk w' b #[.int .u32 1, .int .i32 0, c2, .int .i32 2, .int .i64 n] ∧ Kept (fun g => g = b ∨ D g) w w' ∧ E w' := by
  have HN := Lib.hid (And.intro nx nm)
  have HL := Lib.hid (And.intro lx lm)
  have HD := Lib.hid (And.intro dx db)
  have HK := Lib.hid hk
  have HE := Lib.hid he
  have HB := Lib.hid h
  have HM := Lib.hid hm
  have HX := Lib.hid hx
  clear nx nm lx lm dx db hk he h hm hx
  have hnot : ∀ (x : Bool) (w : World), (Op.unary .not (.bool x)).run Try.prog w = .ok (.bool (!x)) w := fun _ _ => rfl
  go_enter_defers Try.func37, Try.ntmps37
  go_wp2_with fail
  (with_reducible refine (lock_free ⟨b, 1, none⟩ _ (HB.out.cell 1) (HB.out.fz 1)).mono ?_)
  rintro e w1 ⟨rfl, hw⟩
  obtain ⟨h1, k1⟩ := HB.out.put hw (cs' := #[.int .u32 0, .int .i32 1, c2, .int .i32 s, .int .i64 t]) (by simp)
  have B1 := Lib.hid h1
  have K1 := Lib.hid k1
  clear hw h1 k1
  go_wp2_with fail
  (with_reducible refine (bool_load ⟨b, 0, none⟩ 0 _ (B1.out.cell 0)).mono ?_)
  rintro e w' ⟨rfl, rfl⟩
  go_wp2_with fail
  (with_reducible refine (get1_any b qx qm K cap n D E _ _ c2 s t w' ((K1.out.cell HL.out.1 HN.out.1).trans HX.out) ((K1.out.cell HL.out.2 HN.out.2).trans HM.out) (Nat.lt_of_lt_of_le HL.out.1 K1.out.size) (Nat.lt_of_lt_of_le HL.out.2 K1.out.size) HN.out.1 HN.out.2 HD.out.1 HD.out.2 B1.out (fun W hW => HK.out W (K1.out.trans hW)) HE.out).mono ?_)
  rintro e w2 ⟨rfl, h2, k2, e2⟩
  have B2 := Lib.hid h2
  have K2 := Lib.hid ((K1.out.mono fun _ => Or.inl).trans k2)
  have E2 := Lib.hid e2
  clear h2 k2 e2
  go_wp2
  refine leaves_cons (f := 43) (args := #[.pointer (some ⟨b, 0, none⟩), .bool true]) (by simp) (by simp [go_sem]) ?_
  refine (store_deferred ⟨b, 0, none⟩ (.int .u32 0) .returning _ (B2.out.cell 0) (B2.out.fz 0)).mono ?_
  rintro e u' w3 ⟨rfl, rfl, hw⟩
  obtain ⟨h3, k3⟩ := Blk.put (w := w2.drew) B2.out hw (cs' := #[.int .u32 1, .int .i32 1, c2, .int .i32 2, .int .i64 n]) (by simp)
  refine leaves_cons (f := 42) (args := #[.pointer (some ⟨b, 1, none⟩)]) (by simp [settle]) (by simp [go_sem]) ?_
  refine (unlock_deferred ⟨b, 1, none⟩ _ _ (h3.cell 1) (h3.fz 1)).mono ?_
  rintro e u' w4 ⟨rfl, rfl, hw4⟩
  obtain ⟨h4, k4⟩ := h3.put hw4 (cs' := #[.int .u32 1, .int .i32 0, c2, .int .i32 2, .int .i64 n]) (by simp)
  have K4 : Kept (fun g => g = b ∨ D g) w w4 := (K2.out.drew.trans (k3.mono fun _ => Or.inl)).trans (k4.mono fun _ => Or.inl)
  have k5 : Kept (· = b) w2 w4 := ((Kept.refl _ w2).drew.trans k3).trans k4
  have e4 := HE.out _ _ E2.out k5
  simp [Leaves, settle, results, Try.results37, h4, K4, e4]
end Go.Proofs.Ytmjdfppdjdjmcaa
