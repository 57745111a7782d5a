/-
  Proved here: what is asked for first is told, and told again, whatever is asked then; it is made once; nobody's is never made; nothing that came in is turned. No condition.
-/
import Derived.Test.YtmjdfppdjdjmcaaRow
import Derived.Test.YtmjdfppdjdjmcaaMtrAlive
import Derived.Test.YtmjdfppdjdjmcaaMtrRef
import Derived.Deep.DeepCutAuto
namespace Go.Proofs.Ytmjdfppdjdjmcaa.meterOnce
open Go.ChangeShapes Go.WideShapes Go.ChangeAt Go.RowKit

set_option maxRecDepth 100000 in
/-- The function that is handed over: it counts that it was asked, and tells the number. -/
theorem tells (a g : Nat) (u : Int) (W : World) (ha : Blk W a #[.int .i64 0]) (hg : Blk W g #[.int .i32 u]) (e : IntKind.i64.wrap u = u) (hn : ¬ a = g) :
    Tells 15 #[.pointer (some ⟨a, 0, none⟩), .pointer (some ⟨g, 0, none⟩)] u (· = a) (fun V => Blk V a #[.int .i64 1]) W := by
  refine ⟨fun _ => by kernel_rfl, ?_⟩
  have c0 : W.cell? ⟨a, 0, none⟩ = some (.int .i64 0) := ha.cell 0
  have z0 := ha.fz 0
  have HB := Lib.hid (show Blk (W.setCell ⟨a, 0, none⟩ (.int .i64 1)) a #[.int .i64 1] by simpa using ha.set_ 0 (.int .i64 1))
  have HG := Lib.hid (show (W.setCell ⟨a, 0, none⟩ (.int .i64 1)).cell? ⟨g, 0, none⟩ = some (.int .i32 u) from (World.cell?_setCell_other _ _ _ _ (fun q => hn (congrArg Addr.block q))).trans (hg.cell 0))
  have cg := HG.out
  clear ha hg
  go_enter Try.func15, Try.ntmps15
  go_wp2
  go_ret
  exact ⟨rfl, Kept.set_ _ _ _ rfl, HB.out⟩

/-- How it stands behind k rounds: nothing told yet, or told the first number, and asked once. -/
def At (w : World) (l : List Int) (k : Nat) (wr : World) : Prop :=
  Below w.heap.size w wr ∧ ((k = 0 ∧ Blk wr w.heap.size #[.int .u32 0, .int .i32 0, .int .u32 0, .int .i32 0, .int .i64 0] ∧ Blk wr (w.heap.size + 1) #[.int .i64 0, .bool false] ∧ Blk wr (w.heap.size + 1 + 1) #[.int .i64 0]) ∨
    (0 < k ∧ ∃ u, l[0]? = some u ∧ Blk wr w.heap.size #[.int .u32 1, .int .i32 0, .int .u32 0, .int .i32 2, .int .i64 u] ∧ Blk wr (w.heap.size + 1) #[.int .i64 u, .bool true] ∧ Blk wr (w.heap.size + 1 + 1) #[.int .i64 1]))


set_option maxRecDepth 100000 in
set_option maxHeartbeats 4000000 in
theorem walk (A : Option Addr) (n c : Nat) (l : List Int) (w : World) (hl : I32 w w.heap.size A n l) (nc : n ≤ c) :
    Calls Try.prog 5 #[.slice A n c] w fun e w' => e = .returned (.bool true) ∧ Below w.heap.size w w' := by
  have na : n ≤ 9223372036854775807 := by have := hl.2.1; unfold maxLen at this; omega
  have HL := Lib.hid (fun V (h : Below w.heap.size w V) => hl.below h)
  clear hl
  have hmx : (max 50 0 : Int) = 50 := by decide
  have HS0 := Lib.hid (show At w l 0 (((w.alloc (.cells #[.int .u32 0, .int .i32 0, .int .u32 0, .int .i32 0, .int .i64 0] 62)).alloc (.cells #[.int .i64 0, .bool false] 65)).alloc (.cells #[.int .i64 0] 3)) from
    ⟨(((Below.refl _ _).alloc (Nat.le_refl _) _).alloc (by simp) _).alloc (by simp; omega) _, .inl ⟨rfl, ((Blk.new w _ _).alloc _).alloc _,
      (by have := (Blk.new (w.alloc (.cells #[.int .u32 0, .int .i32 0, .int .u32 0, .int .i32 0, .int .i64 0] 62)) 65 #[.int .i64 0, .bool false]).alloc (.cells #[.int .i64 0] 3); rwa [World.size_alloc] at this),
      (by have := Blk.new ((w.alloc (.cells #[.int .u32 0, .int .i32 0, .int .u32 0, .int .i32 0, .int .i64 0] 62)).alloc (.cells #[.int .i64 0, .bool false] 65)) 3 #[.int .i64 0]; rwa [World.size_alloc, World.size_alloc] at this)⟩⟩)
  by_cases h50 : 50 < n
  · go_enter Try.func5, Try.ntmps5
    go_wp2_with fail
    go_loopw [19] (fun i wr => ∃ k : Nat, k ≤ 50 ∧ i = .int .i64 k ∧ Hid (At w l k wr)) (fun i _ => 50 - (intOf i).toNat)
    case atStart => exact ⟨0, Nat.zero_le _, rfl, HS0.out⟩
    case round =>
      obtain ⟨k, hk, rfl, HA⟩ := hrel
      have ZK := Lib.hid HA.out.1
      by_cases h1 : k < 50
      · obtain ⟨ad, u, rfl, hlt, hu, ⟨u1, u2⟩, hcu⟩ := (HL.out _ ZK.out).at_ (k := k) (by omega)
        have HU := Lib.hid hu
        clear hu
        have e1 : IntKind.i64.wrap ((k : Int) + 1) = (k : Int) + 1 := IntWalk.i64_in _ (by omega)
        have e2 : IntKind.i64.wrap u = u := IntWalk.i64_in _ (by omega)
        have hmf : ∀ (fn : Fn) (first cap : Array Value) (w : World), (Instr.makeFunc fn first cap).run Try.prog w = .ok (.func fn first cap) w := fun _ _ _ _ => rfl
        have hnot : ∀ (x : Bool) (w : World), (Op.unary .not (.bool x)).run Try.prog w = .ok (.bool (!x)) w := fun _ _ => rfl
        generalize hW : (wr.alloc (.cells #[.int .i64 k] 3)).alloc (.cells #[.int .i32 u] 21) = W
        have ZW := Lib.hid (show Below wr.heap.size wr W by subst hW; exact ((Below.refl _ _).alloc (Nat.le_refl _) _).alloc (by simp) _)
        have BI := Lib.hid (show Blk W wr.heap.size #[.int .i64 k] by subst hW; exact (Blk.new wr _ _).alloc _)
        have BN := Lib.hid (show Blk W (wr.heap.size + 1) #[.int .i32 u] by subst hW; have := Blk.new (wr.alloc (.cells #[.int .i64 k] 3)) 21 #[.int .i32 u]; rwa [World.size_alloc] at this)
        have HS := Lib.hid (show w.heap.size + 1 + 1 < wr.heap.size by
          rcases HA.out.2 with ⟨_, _, _, h⟩ | ⟨_, _, _, _, _, h⟩ <;> exact h.lt)
        rcases HA.out.2 with H0 | H0
        · obtain ⟨hk0, X0, R0, A0⟩ := H0
          have VL := Lib.hid (show l[0]? = some u from hk0 ▸ HU.out)
          clear hk0
          have XW := Lib.hid (X0.below ZW.out X0.lt)
          have RW := Lib.hid (R0.below ZW.out R0.lt)
          have AW := Lib.hid (A0.below ZW.out A0.lt)
          clear X0 R0 A0
          have h2 : w.heap.size + 1 + 1 < W.heap.size := AW.out.lt
          have CG := Lib.hid (get_first w.heap.size 15 #[.pointer (some ⟨w.heap.size + 1 + 1, 0, none⟩), .pointer (some ⟨wr.heap.size + 1, 0, none⟩)] u (· = w.heap.size + 1 + 1) (fun V => Blk V (w.heap.size + 1 + 1) #[.int .i64 1]) (.int .u32 0) 0 W (fun g q => by omega) XW.out
            (fun V hV => tells (w.heap.size + 1 + 1) (wr.heap.size + 1) u V (hV.blk AW.out (by omega)) (hV.blk BN.out (by have := HS.out; omega)) e2 (by have := HS.out; omega))
            (fun V V' hE hV => hV.blk hE (by omega)))
          go_wp2_with fail
          (with_reducible refine CG.out.mono ?_)
          rintro e w1 ⟨rfl, x1, k1, a1⟩
          have X1 := Lib.hid x1
          have A1 := Lib.hid a1
          have R1 := Lib.hid (k1.blk RW.out (by omega))
          have N1 := Lib.hid (k1.blk BN.out (by have := HS.out; omega))
          have I1 := Lib.hid (k1.blk BI.out (by have := HS.out; omega))
          have Z1 := Lib.hid ((ZK.out.trans (ZW.out.mono ZK.out.size)).trans (k1.below (B := w.heap.size) (by omega) (fun g q => by omega)))
          clear x1 a1 k1 hW CG XW RW AW hcu
          have c0 : w1.cell? ⟨w.heap.size + 1, 0, none⟩ = some (.int .i64 0) := R1.out.cell 0
          have c1 : w1.cell? ⟨w.heap.size + 1, 1, none⟩ = some (.bool false) := R1.out.cell 1
          have cn : w1.cell? ⟨wr.heap.size + 1, 0, none⟩ = some (.int .i32 u) := N1.out.cell 0
          go_wp2_with fail
          (with_reducible refine (rget_no u w1 0).mono ?_)
          rintro e w2 ⟨rfl, z2⟩
          have X2 := Lib.hid (X1.out.below z2 X1.out.lt)
          have A2 := Lib.hid (A1.out.below z2 A1.out.lt)
          have R2 := Lib.hid (R1.out.below z2 R1.out.lt)
          have I2 := Lib.hid (I1.out.below z2 I1.out.lt)
          have Z2 := Lib.hid (Z1.out.trans (z2.mono Z1.out.size))
          clear z2 c0 c1 cn
          generalize hW3 : w2.alloc (.cells #[.int .i64 u, .bool true] 65) = W3
          have B3 : Below w2.heap.size w2 W3 := by subst hW3; exact (Below.refl _ _).alloc (Nat.le_refl _) _
          have X3 := Lib.hid (X2.out.below B3 X2.out.lt)
          have A3 := Lib.hid (A2.out.below B3 A2.out.lt)
          have R3 := Lib.hid (R2.out.below B3 R2.out.lt)
          have I3 := Lib.hid (I2.out.below B3 I2.out.lt)
          have Z3 := Lib.hid (Z2.out.trans (B3.mono Z2.out.size))
          clear B3
          have d0 : W3.cell? ⟨w.heap.size + 1, 0, none⟩ = some (.int .i64 0) := R3.out.cell 0
          have d1 : W3.cell? ⟨w.heap.size + 1, 1, none⟩ = some (.bool false) := R3.out.cell 1
          have f0 := R3.out.fz 0
          have f1 := R3.out.fz 1
          have s0 : W3.cell? ⟨w2.heap.size, 0, none⟩ = some (.int .i64 u) := by subst hW3; exact (Blk.new w2 _ _).cell 0
          have s1 : W3.cell? ⟨w2.heap.size, 1, none⟩ = some (.bool true) := by subst hW3; exact (Blk.new w2 _ _).cell 1
          go_upto_region 11 with fail
          generalize hW4 : (W3.setCell ⟨w.heap.size + 1, 0, none⟩ (.int .i64 u)).setCell ⟨w.heap.size + 1, 1, none⟩ (.bool true) = w4
          have K4 : Kept (· = w.heap.size + 1) W3 w4 := by subst hW4; exact Kept.trans (Kept.set_ W3 ⟨w.heap.size + 1, 0, none⟩ _ rfl) (Kept.set_ _ ⟨w.heap.size + 1, 1, none⟩ _ rfl)
          have R4 := Lib.hid (show Blk w4 (w.heap.size + 1) #[.int .i64 u, .bool true] by subst hW4; simpa using (R3.out.set_ 0 (.int .i64 u)).set_ 1 (.bool true))
          have X4 := Lib.hid (K4.blk X3.out (by omega))
          have A4 := Lib.hid (K4.blk A3.out (by omega))
          have I4 := Lib.hid (K4.blk I3.out (by have := HS.out; omega))
          have Z4 := Lib.hid (Z3.out.trans (K4.below (B := w.heap.size) Z3.out.size (fun g q => by omega)))
          clear K4 hW4 hW3 d0 d1 f0 f1 s0 s1
          have ca : w4.cell? ⟨w.heap.size + 1 + 1, 0, none⟩ = some (.int .i64 1) := A4.out.cell 0
          have CT := Lib.hid (told_any w.heap.size 2 w4 (X4.out.cell 3))
          go_wp2_with fail
          (with_reducible refine CT.out.mono ?_)
          rintro e w' ⟨rfl, rfl⟩
          go_wp2_with fail
          (with_reducible refine (get_nil 18 _ w').mono ?_)
          rintro e w5 ⟨rfl, z5⟩
          have Z5 := Lib.hid (Z4.out.trans (z5.mono Z4.out.size))
          have R5 := Lib.hid (R4.out.below z5 R4.out.lt)
          have X5 := Lib.hid (X4.out.below z5 X4.out.lt)
          have A5 := Lib.hid (A4.out.below z5 A4.out.lt)
          clear z5 ca
          go_wp2
          exact ⟨⟨k + 1, by omega, by go_num, Lib.hid ⟨Z5.out, .inr ⟨by omega, u, VL.out, X5.out, R5.out, A5.out⟩⟩⟩, by simp [intOf]; omega⟩
        · obtain ⟨hk0, v, hv, X0, R0, A0⟩ := H0
          have VL := Lib.hid hv
          have XW := Lib.hid (X0.below ZW.out X0.lt)
          have RW := Lib.hid (R0.below ZW.out R0.lt)
          have AW := Lib.hid (A0.below ZW.out A0.lt)
          clear X0 R0 A0 hv
          have h2 : w.heap.size + 1 + 1 < W.heap.size := AW.out.lt
          have CG := Lib.hid (get_again w.heap.size 15 #[.pointer (some ⟨w.heap.size + 1 + 1, 0, none⟩), .pointer (some ⟨wr.heap.size + 1, 0, none⟩)] v _ _ W XW.out)
          go_wp2_with fail
          (with_reducible refine CG.out.mono ?_)
          rintro e w1 ⟨rfl, z1⟩
          have X1 := Lib.hid (XW.out.below z1 XW.out.lt)
          have A1 := Lib.hid (AW.out.below z1 AW.out.lt)
          have R1 := Lib.hid (RW.out.below z1 RW.out.lt)
          have N1 := Lib.hid (BN.out.below z1 BN.out.lt)
          have I1 := Lib.hid (BI.out.below z1 BI.out.lt)
          have Z1 := Lib.hid ((ZK.out.trans (ZW.out.mono ZK.out.size)).trans (z1.mono (by omega)))
          clear z1 hW CG XW RW AW hcu
          have c0 : w1.cell? ⟨w.heap.size + 1, 0, none⟩ = some (.int .i64 v) := R1.out.cell 0
          have c1 : w1.cell? ⟨w.heap.size + 1, 1, none⟩ = some (.bool true) := R1.out.cell 1
          have cn : w1.cell? ⟨wr.heap.size + 1, 0, none⟩ = some (.int .i32 u) := N1.out.cell 0
          go_wp2_with fail
          (with_reducible refine (rget_yes u w1 v).mono ?_)
          rintro e w2 ⟨rfl, z2⟩
          have X2 := Lib.hid (X1.out.below z2 X1.out.lt)
          have A2 := Lib.hid (A1.out.below z2 A1.out.lt)
          have R2 := Lib.hid (R1.out.below z2 R1.out.lt)
          have I2 := Lib.hid (I1.out.below z2 I1.out.lt)
          have Z2 := Lib.hid (Z1.out.trans (z2.mono Z1.out.size))
          clear z2 c0 c1 cn
          generalize hW3 : w2.alloc (.cells #[.int .i64 v, .bool true] 65) = W3
          have B3 : Below w2.heap.size w2 W3 := by subst hW3; exact (Below.refl _ _).alloc (Nat.le_refl _) _
          have X3 := Lib.hid (X2.out.below B3 X2.out.lt)
          have A3 := Lib.hid (A2.out.below B3 A2.out.lt)
          have R3 := Lib.hid (R2.out.below B3 R2.out.lt)
          have I3 := Lib.hid (I2.out.below B3 I2.out.lt)
          have Z3 := Lib.hid (Z2.out.trans (B3.mono Z2.out.size))
          clear B3
          have d0 : W3.cell? ⟨w.heap.size + 1, 0, none⟩ = some (.int .i64 v) := R3.out.cell 0
          have d1 : W3.cell? ⟨w.heap.size + 1, 1, none⟩ = some (.bool true) := R3.out.cell 1
          have f0 := R3.out.fz 0
          have f1 := R3.out.fz 1
          have s0 : W3.cell? ⟨w2.heap.size, 0, none⟩ = some (.int .i64 v) := by subst hW3; exact (Blk.new w2 _ _).cell 0
          have s1 : W3.cell? ⟨w2.heap.size, 1, none⟩ = some (.bool true) := by subst hW3; exact (Blk.new w2 _ _).cell 1
          go_upto_region 11 with fail
          generalize hW4 : (W3.setCell ⟨w.heap.size + 1, 0, none⟩ (.int .i64 v)).setCell ⟨w.heap.size + 1, 1, none⟩ (.bool true) = w4
          have K4 : Kept (· = w.heap.size + 1) W3 w4 := by subst hW4; exact Kept.trans (Kept.set_ W3 ⟨w.heap.size + 1, 0, none⟩ _ rfl) (Kept.set_ _ ⟨w.heap.size + 1, 1, none⟩ _ rfl)
          have R4 := Lib.hid (show Blk w4 (w.heap.size + 1) #[.int .i64 v, .bool true] by subst hW4; simpa using (R3.out.set_ 0 (.int .i64 v)).set_ 1 (.bool true))
          have X4 := Lib.hid (K4.blk X3.out (by omega))
          have A4 := Lib.hid (K4.blk A3.out (by omega))
          have I4 := Lib.hid (K4.blk I3.out (by have := HS.out; omega))
          have Z4 := Lib.hid (Z3.out.trans (K4.below (B := w.heap.size) Z3.out.size (fun g q => by omega)))
          clear K4 hW4 hW3 d0 d1 f0 f1 s0 s1
          have ca : w4.cell? ⟨w.heap.size + 1 + 1, 0, none⟩ = some (.int .i64 1) := A4.out.cell 0
          have CT := Lib.hid (told_any w.heap.size 2 w4 (X4.out.cell 3))
          go_wp2_with fail
          (with_reducible refine CT.out.mono ?_)
          rintro e w' ⟨rfl, rfl⟩
          go_wp2_with fail
          (with_reducible refine (get_nil 18 _ w').mono ?_)
          rintro e w5 ⟨rfl, z5⟩
          have Z5 := Lib.hid (Z4.out.trans (z5.mono Z4.out.size))
          have R5 := Lib.hid (R4.out.below z5 R4.out.lt)
          have X5 := Lib.hid (X4.out.below z5 X4.out.lt)
          have A5 := Lib.hid (A4.out.below z5 A4.out.lt)
          clear z5 ca
          go_wp2
          exact ⟨⟨k + 1, by omega, by go_num, Lib.hid ⟨Z5.out, .inr ⟨by omega, v, VL.out, X5.out, R5.out, A5.out⟩⟩⟩, by simp [intOf]; omega⟩
      · have hkq : k = 50 := by omega
        have hnot : ∀ (x : Bool) (w : World), (Op.unary .not (.bool x)).run Try.prog w = .ok (.bool (!x)) w := fun _ _ => rfl
        obtain ⟨s, hs, hs2⟩ : ∃ s, wr.cell? ⟨w.heap.size, 3, none⟩ = some (.int .i32 s) ∧ (s == 2) = decide (0 < (n : Int)) := by
          rcases HA.out.2 with ⟨h0, h, _⟩ | ⟨h0, _, _, h, _⟩
          · exact ⟨0, h.cell 3, by simp; omega⟩
          · exact ⟨2, h.cell 3, by simp; omega⟩
        have CT := Lib.hid (told_any w.heap.size s wr hs)
        clear hs hkq
        go_wp2_with fail
        (with_reducible refine CT.out.mono ?_)
        rintro e w' ⟨rfl, rfl⟩
        rw [hs2]
        clear hs2
        go_wp2_with fail
        (with_reducible refine (told_nil w').mono ?_)
        rintro e w' ⟨rfl, rfl⟩
        go_wp2_with fail
        (with_reducible refine (alive_any _).mono ?_)
        rintro e w4 ⟨rfl, h4⟩
        have B4 := Lib.hid (ZK.out.trans (h4.mono ZK.out.size))
        clear h4
        go_wp2
        go_ret
        exact ⟨rfl, B4.out⟩
  · go_enter Try.func5, Try.ntmps5
    go_wp2_with fail
    go_loopw [19] (fun i wr => ∃ k : Nat, k ≤ n ∧ i = .int .i64 k ∧ Hid (At w l k wr)) (fun i _ => n - (intOf i).toNat)
    case atStart => exact ⟨0, Nat.zero_le _, rfl, HS0.out⟩
    case round =>
      obtain ⟨k, hk, rfl, HA⟩ := hrel
      have ZK := Lib.hid HA.out.1
      by_cases h1 : k < n
      · obtain ⟨ad, u, rfl, hlt, hu, ⟨u1, u2⟩, hcu⟩ := (HL.out _ ZK.out).at_ (k := k) (by omega)
        have HU := Lib.hid hu
        clear hu
        have e1 : IntKind.i64.wrap ((k : Int) + 1) = (k : Int) + 1 := IntWalk.i64_in _ (by omega)
        have e2 : IntKind.i64.wrap u = u := IntWalk.i64_in _ (by omega)
        have hmf : ∀ (fn : Fn) (first cap : Array Value) (w : World), (Instr.makeFunc fn first cap).run Try.prog w = .ok (.func fn first cap) w := fun _ _ _ _ => rfl
        have hnot : ∀ (x : Bool) (w : World), (Op.unary .not (.bool x)).run Try.prog w = .ok (.bool (!x)) w := fun _ _ => rfl
        generalize hW : (wr.alloc (.cells #[.int .i64 k] 3)).alloc (.cells #[.int .i32 u] 21) = W
        have ZW := Lib.hid (show Below wr.heap.size wr W by subst hW; exact ((Below.refl _ _).alloc (Nat.le_refl _) _).alloc (by simp) _)
        have BI := Lib.hid (show Blk W wr.heap.size #[.int .i64 k] by subst hW; exact (Blk.new wr _ _).alloc _)
        have BN := Lib.hid (show Blk W (wr.heap.size + 1) #[.int .i32 u] by subst hW; have := Blk.new (wr.alloc (.cells #[.int .i64 k] 3)) 21 #[.int .i32 u]; rwa [World.size_alloc] at this)
        have HS := Lib.hid (show w.heap.size + 1 + 1 < wr.heap.size by
          rcases HA.out.2 with ⟨_, _, _, h⟩ | ⟨_, _, _, _, _, h⟩ <;> exact h.lt)
        rcases HA.out.2 with H0 | H0
        · obtain ⟨hk0, X0, R0, A0⟩ := H0
          have VL := Lib.hid (show l[0]? = some u from hk0 ▸ HU.out)
          clear hk0
          have XW := Lib.hid (X0.below ZW.out X0.lt)
          have RW := Lib.hid (R0.below ZW.out R0.lt)
          have AW := Lib.hid (A0.below ZW.out A0.lt)
          clear X0 R0 A0
          have h2 : w.heap.size + 1 + 1 < W.heap.size := AW.out.lt
          have CG := Lib.hid (get_first w.heap.size 15 #[.pointer (some ⟨w.heap.size + 1 + 1, 0, none⟩), .pointer (some ⟨wr.heap.size + 1, 0, none⟩)] u (· = w.heap.size + 1 + 1) (fun V => Blk V (w.heap.size + 1 + 1) #[.int .i64 1]) (.int .u32 0) 0 W (fun g q => by omega) XW.out
            (fun V hV => tells (w.heap.size + 1 + 1) (wr.heap.size + 1) u V (hV.blk AW.out (by omega)) (hV.blk BN.out (by have := HS.out; omega)) e2 (by have := HS.out; omega))
            (fun V V' hE hV => hV.blk hE (by omega)))
          go_wp2_with fail
          (with_reducible refine CG.out.mono ?_)
          rintro e w1 ⟨rfl, x1, k1, a1⟩
          have X1 := Lib.hid x1
          have A1 := Lib.hid a1
          have R1 := Lib.hid (k1.blk RW.out (by omega))
          have N1 := Lib.hid (k1.blk BN.out (by have := HS.out; omega))
          have I1 := Lib.hid (k1.blk BI.out (by have := HS.out; omega))
          have Z1 := Lib.hid ((ZK.out.trans (ZW.out.mono ZK.out.size)).trans (k1.below (B := w.heap.size) (by omega) (fun g q => by omega)))
          clear x1 a1 k1 hW CG XW RW AW hcu
          have c0 : w1.cell? ⟨w.heap.size + 1, 0, none⟩ = some (.int .i64 0) := R1.out.cell 0
          have c1 : w1.cell? ⟨w.heap.size + 1, 1, none⟩ = some (.bool false) := R1.out.cell 1
          have cn : w1.cell? ⟨wr.heap.size + 1, 0, none⟩ = some (.int .i32 u) := N1.out.cell 0
          go_wp2_with fail
          (with_reducible refine (rget_no u w1 0).mono ?_)
          rintro e w2 ⟨rfl, z2⟩
          have X2 := Lib.hid (X1.out.below z2 X1.out.lt)
          have A2 := Lib.hid (A1.out.below z2 A1.out.lt)
          have R2 := Lib.hid (R1.out.below z2 R1.out.lt)
          have I2 := Lib.hid (I1.out.below z2 I1.out.lt)
          have Z2 := Lib.hid (Z1.out.trans (z2.mono Z1.out.size))
          clear z2 c0 c1 cn
          generalize hW3 : w2.alloc (.cells #[.int .i64 u, .bool true] 65) = W3
          have B3 : Below w2.heap.size w2 W3 := by subst hW3; exact (Below.refl _ _).alloc (Nat.le_refl _) _
          have X3 := Lib.hid (X2.out.below B3 X2.out.lt)
          have A3 := Lib.hid (A2.out.below B3 A2.out.lt)
          have R3 := Lib.hid (R2.out.below B3 R2.out.lt)
          have I3 := Lib.hid (I2.out.below B3 I2.out.lt)
          have Z3 := Lib.hid (Z2.out.trans (B3.mono Z2.out.size))
          clear B3
          have d0 : W3.cell? ⟨w.heap.size + 1, 0, none⟩ = some (.int .i64 0) := R3.out.cell 0
          have d1 : W3.cell? ⟨w.heap.size + 1, 1, none⟩ = some (.bool false) := R3.out.cell 1
          have f0 := R3.out.fz 0
          have f1 := R3.out.fz 1
          have s0 : W3.cell? ⟨w2.heap.size, 0, none⟩ = some (.int .i64 u) := by subst hW3; exact (Blk.new w2 _ _).cell 0
          have s1 : W3.cell? ⟨w2.heap.size, 1, none⟩ = some (.bool true) := by subst hW3; exact (Blk.new w2 _ _).cell 1
          go_upto_region 11 with fail
          generalize hW4 : (W3.setCell ⟨w.heap.size + 1, 0, none⟩ (.int .i64 u)).setCell ⟨w.heap.size + 1, 1, none⟩ (.bool true) = w4
          have K4 : Kept (· = w.heap.size + 1) W3 w4 := by subst hW4; exact Kept.trans (Kept.set_ W3 ⟨w.heap.size + 1, 0, none⟩ _ rfl) (Kept.set_ _ ⟨w.heap.size + 1, 1, none⟩ _ rfl)
          have R4 := Lib.hid (show Blk w4 (w.heap.size + 1) #[.int .i64 u, .bool true] by subst hW4; simpa using (R3.out.set_ 0 (.int .i64 u)).set_ 1 (.bool true))
          have X4 := Lib.hid (K4.blk X3.out (by omega))
          have A4 := Lib.hid (K4.blk A3.out (by omega))
          have I4 := Lib.hid (K4.blk I3.out (by have := HS.out; omega))
          have Z4 := Lib.hid (Z3.out.trans (K4.below (B := w.heap.size) Z3.out.size (fun g q => by omega)))
          clear K4 hW4 hW3 d0 d1 f0 f1 s0 s1
          have ca : w4.cell? ⟨w.heap.size + 1 + 1, 0, none⟩ = some (.int .i64 1) := A4.out.cell 0
          have CT := Lib.hid (told_any w.heap.size 2 w4 (X4.out.cell 3))
          go_wp2_with fail
          (with_reducible refine CT.out.mono ?_)
          rintro e w' ⟨rfl, rfl⟩
          go_wp2_with fail
          (with_reducible refine (get_nil 18 _ w').mono ?_)
          rintro e w5 ⟨rfl, z5⟩
          have Z5 := Lib.hid (Z4.out.trans (z5.mono Z4.out.size))
          have R5 := Lib.hid (R4.out.below z5 R4.out.lt)
          have X5 := Lib.hid (X4.out.below z5 X4.out.lt)
          have A5 := Lib.hid (A4.out.below z5 A4.out.lt)
          clear z5 ca
          go_wp2
          exact ⟨⟨k + 1, by omega, by go_num, Lib.hid ⟨Z5.out, .inr ⟨by omega, u, VL.out, X5.out, R5.out, A5.out⟩⟩⟩, by simp [intOf]; omega⟩
        · obtain ⟨hk0, v, hv, X0, R0, A0⟩ := H0
          have VL := Lib.hid hv
          have XW := Lib.hid (X0.below ZW.out X0.lt)
          have RW := Lib.hid (R0.below ZW.out R0.lt)
          have AW := Lib.hid (A0.below ZW.out A0.lt)
          clear X0 R0 A0 hv
          have h2 : w.heap.size + 1 + 1 < W.heap.size := AW.out.lt
          have CG := Lib.hid (get_again w.heap.size 15 #[.pointer (some ⟨w.heap.size + 1 + 1, 0, none⟩), .pointer (some ⟨wr.heap.size + 1, 0, none⟩)] v _ _ W XW.out)
          go_wp2_with fail
          (with_reducible refine CG.out.mono ?_)
          rintro e w1 ⟨rfl, z1⟩
          have X1 := Lib.hid (XW.out.below z1 XW.out.lt)
          have A1 := Lib.hid (AW.out.below z1 AW.out.lt)
          have R1 := Lib.hid (RW.out.below z1 RW.out.lt)
          have N1 := Lib.hid (BN.out.below z1 BN.out.lt)
          have I1 := Lib.hid (BI.out.below z1 BI.out.lt)
          have Z1 := Lib.hid ((ZK.out.trans (ZW.out.mono ZK.out.size)).trans (z1.mono (by omega)))
          clear z1 hW CG XW RW AW hcu
          have c0 : w1.cell? ⟨w.heap.size + 1, 0, none⟩ = some (.int .i64 v) := R1.out.cell 0
          have c1 : w1.cell? ⟨w.heap.size + 1, 1, none⟩ = some (.bool true) := R1.out.cell 1
          have cn : w1.cell? ⟨wr.heap.size + 1, 0, none⟩ = some (.int .i32 u) := N1.out.cell 0
          go_wp2_with fail
          (with_reducible refine (rget_yes u w1 v).mono ?_)
          rintro e w2 ⟨rfl, z2⟩
          have X2 := Lib.hid (X1.out.below z2 X1.out.lt)
          have A2 := Lib.hid (A1.out.below z2 A1.out.lt)
          have R2 := Lib.hid (R1.out.below z2 R1.out.lt)
          have I2 := Lib.hid (I1.out.below z2 I1.out.lt)
          have Z2 := Lib.hid (Z1.out.trans (z2.mono Z1.out.size))
          clear z2 c0 c1 cn
          generalize hW3 : w2.alloc (.cells #[.int .i64 v, .bool true] 65) = W3
          have B3 : Below w2.heap.size w2 W3 := by subst hW3; exact (Below.refl _ _).alloc (Nat.le_refl _) _
          have X3 := Lib.hid (X2.out.below B3 X2.out.lt)
          have A3 := Lib.hid (A2.out.below B3 A2.out.lt)
          have R3 := Lib.hid (R2.out.below B3 R2.out.lt)
          have I3 := Lib.hid (I2.out.below B3 I2.out.lt)
          have Z3 := Lib.hid (Z2.out.trans (B3.mono Z2.out.size))
          clear B3
          have d0 : W3.cell? ⟨w.heap.size + 1, 0, none⟩ = some (.int .i64 v) := R3.out.cell 0
          have d1 : W3.cell? ⟨w.heap.size + 1, 1, none⟩ = some (.bool true) := R3.out.cell 1
          have f0 := R3.out.fz 0
          have f1 := R3.out.fz 1
          have s0 : W3.cell? ⟨w2.heap.size, 0, none⟩ = some (.int .i64 v) := by subst hW3; exact (Blk.new w2 _ _).cell 0
          have s1 : W3.cell? ⟨w2.heap.size, 1, none⟩ = some (.bool true) := by subst hW3; exact (Blk.new w2 _ _).cell 1
          go_upto_region 11 with fail
          generalize hW4 : (W3.setCell ⟨w.heap.size + 1, 0, none⟩ (.int .i64 v)).setCell ⟨w.heap.size + 1, 1, none⟩ (.bool true) = w4
          have K4 : Kept (· = w.heap.size + 1) W3 w4 := by subst hW4; exact Kept.trans (Kept.set_ W3 ⟨w.heap.size + 1, 0, none⟩ _ rfl) (Kept.set_ _ ⟨w.heap.size + 1, 1, none⟩ _ rfl)
          have R4 := Lib.hid (show Blk w4 (w.heap.size + 1) #[.int .i64 v, .bool true] by subst hW4; simpa using (R3.out.set_ 0 (.int .i64 v)).set_ 1 (.bool true))
          have X4 := Lib.hid (K4.blk X3.out (by omega))
          have A4 := Lib.hid (K4.blk A3.out (by omega))
          have I4 := Lib.hid (K4.blk I3.out (by have := HS.out; omega))
          have Z4 := Lib.hid (Z3.out.trans (K4.below (B := w.heap.size) Z3.out.size (fun g q => by omega)))
          clear K4 hW4 hW3 d0 d1 f0 f1 s0 s1
          have ca : w4.cell? ⟨w.heap.size + 1 + 1, 0, none⟩ = some (.int .i64 1) := A4.out.cell 0
          have CT := Lib.hid (told_any w.heap.size 2 w4 (X4.out.cell 3))
          go_wp2_with fail
          (with_reducible refine CT.out.mono ?_)
          rintro e w' ⟨rfl, rfl⟩
          go_wp2_with fail
          (with_reducible refine (get_nil 18 _ w').mono ?_)
          rintro e w5 ⟨rfl, z5⟩
          have Z5 := Lib.hid (Z4.out.trans (z5.mono Z4.out.size))
          have R5 := Lib.hid (R4.out.below z5 R4.out.lt)
          have X5 := Lib.hid (X4.out.below z5 X4.out.lt)
          have A5 := Lib.hid (A4.out.below z5 A4.out.lt)
          clear z5 ca
          go_wp2
          exact ⟨⟨k + 1, by omega, by go_num, Lib.hid ⟨Z5.out, .inr ⟨by omega, v, VL.out, X5.out, R5.out, A5.out⟩⟩⟩, by simp [intOf]; omega⟩
      · have hkq : k = n := by omega
        have hnot : ∀ (x : Bool) (w : World), (Op.unary .not (.bool x)).run Try.prog w = .ok (.bool (!x)) w := fun _ _ => rfl
        obtain ⟨s, hs, hs2⟩ : ∃ s, wr.cell? ⟨w.heap.size, 3, none⟩ = some (.int .i32 s) ∧ (s == 2) = decide (0 < (n : Int)) := by
          rcases HA.out.2 with ⟨h0, h, _⟩ | ⟨h0, _, _, h, _⟩
          · exact ⟨0, h.cell 3, by simp; omega⟩
          · exact ⟨2, h.cell 3, by simp; omega⟩
        have CT := Lib.hid (told_any w.heap.size s wr hs)
        clear hs hkq
        go_wp2_with fail
        (with_reducible refine CT.out.mono ?_)
        rintro e w' ⟨rfl, rfl⟩
        rw [hs2]
        clear hs2
        go_wp2_with fail
        (with_reducible refine (told_nil w').mono ?_)
        rintro e w' ⟨rfl, rfl⟩
        go_wp2_with fail
        (with_reducible refine (alive_any _).mono ?_)
        rintro e w4 ⟨rfl, h4⟩
        have B4 := Lib.hid (ZK.out.trans (h4.mono ZK.out.size))
        clear h4
        go_wp2
        go_ret
        exact ⟨rfl, B4.out⟩

set_option maxRecDepth 100000 in
theorem lifted (os : Os) (started : os.Started) (H : Type) (enc : TypeId × Value → H) :
    ReturnsInHanded {} Try.checked os 5 .any (Rows.meterOnceSpec.pre6 enc Try.prog Try.f5 Rows.meterOnceRow.domain false) (Rows.meterOnceSpec.post enc Try.prog Try.f5 false true false false) := by
  refine returnsInHanded_of_change (C := Try.checked) own started (by kernel_rfl) Try.func5
    (ChangeSpec.witness6 (enc := enc) (C := Try.checked) false ⟨#[], #[.slice none 0 0], []⟩ 8 (by kernel_rfl) (by kernel_rfl) (by kernel_rfl) (by kernel_rfl)) ?_
  intro W base args ds gs before hval0 hW hcnd _
  have hval : ∀ (j : Nat) t v, Try.f5.params[j]? = some t → args[j]? = some v → Value.okWide Try.prog W .any base t v := hval0
  have hW' := hW
  obtain ⟨p, q, hA0, hV, rfl, hfz, hnd⟩ := hW
  have hA : DataW.TrodAll enc Try.prog W 0 (fun _ => true) true Try.f5.params.toList args.toList ds p := hA0
  rw [Try.params5] at hA hval
  obtain ⟨v0, vs0, d0, ds0, p0, q0, hargs, rfl, rfl, h0, r0⟩ := trodAll_cons hA
  obtain ⟨rfl, rfl, rfl⟩ := trodAll_nil r0
  obtain rfl : args = #[v0] := by cases args; simp_all
  obtain ⟨rfl, rfl⟩ := trodVars_none hV
  have k0 := h0
  have lt0 : ∀ x ∈ p0, x.block < W.heap.size := by obtain ⟨m, hm⟩ := k0; exact DataW.trod_lt m _ _ _ hm
  obtain ⟨A0, n0, c0, l0, rfl, b0, nc0⟩ := open_i32 (hval 0 22 v0 rfl rfl) h0
  clear hA0 hval0
  refine (walk A0 n0 c0 l0 W b0 nc0).mono fun e W' ⟨he, bel⟩ => ?_
  subst he
  exact ⟨_, rfl, _, _, _, [], _, [], hW', trodAll_mk1 (shut_bool Try.underlying4 _), (trodAll_cons_mk (Below.trod laidOut (by kernel_rfl) (of_decide_eq_true (by kernel_rfl)) k0 bel lt0) trodAll_mk0), rfl, bel.frame _, fun h => by cases h⟩

set_option maxRecDepth 100000 in
theorem proved : Rows.MeterOnceSaid :=
  OpenClaim.holds_of_wide 5 Try.f5 rfl rfl rfl rfl rfl rfl rfl ⟨rfl, rfl, rfl, rfl, rfl⟩ rfl rfl rfl rfl rfl (by kernel_rfl) Try.func5 (by kernel_rfl)
    (of_decide_eq_true (by kernel_rfl)) (by unfold Func.isWrapper; first | (rw [if_pos (by decide +kernel)]; kernel_rfl) | (rw [if_neg (by decide +kernel)]; exact ⟨rfl, rfl⟩))
    (fun os started H enc _ => lifted os started H enc)
end Go.Proofs.Ytmjdfppdjdjmcaa.meterOnce
