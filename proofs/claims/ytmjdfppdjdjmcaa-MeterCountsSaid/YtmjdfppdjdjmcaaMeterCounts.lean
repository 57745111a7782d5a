/-
  Proved here: a meter that counts any numbers, in any order, is the document's behind each; nobody's counts nothing; nothing that came in is turned. No condition.
-/
import Derived.Test.YtmjdfppdjdjmcaaRow
import Derived.Test.YtmjdfppdjdjmcaaMtrAlive
import Derived.Test.YtmjdfppdjdjmcaaMtrRef
import Derived.Deep.RegionHeld3
namespace Go.Proofs.Ytmjdfppdjdjmcaa.meterCounts
open Go.ChangeShapes Go.WideShapes Go.ChangeAt Go.RowKit

set_option maxRecDepth 100000 in
set_option maxHeartbeats 4000000 in
theorem walk (A : Option Addr) (n c : Nat) (l : List Int) (y : Int) (w : World) (hl : I32 w w.heap.size A n l) (nc : n ≤ c) (wy : (Lit.int .i32 y).wf = true) :
    Calls Try.prog 3 #[.slice A n c, .int .i32 y] w fun e w' => e = .returned (.bool true) ∧ Below w.heap.size w w' := by
  have hy : -2147483648 ≤ y ∧ y ≤ 2147483647 := by simpa [Lit.wf, IntKind.min, IntKind.max, IntKind.signed, IntKind.bits] using wy
  obtain ⟨hy1, hy2⟩ := hy
  have na : n ≤ 9223372036854775807 := by have := hl.2.1; unfold maxLen at this; omega
  have HL := Lib.hid (fun V (h : Below w.heap.size w V) => hl.below h)
  clear hl wy
  have hmx : (max 50 0 : Int) = 50 := by decide
  have BW := Lib.hid (show Below w.heap.size w ((w.alloc (.cells #[.int .i64 0] 29)).alloc (.cells #[.int .i64 0] 32)) from ((Below.refl _ _).alloc (Nat.le_refl _) _).alloc (by simp) _)
  have BM := Lib.hid (show Blk ((w.alloc (.cells #[.int .i64 0] 29)).alloc (.cells #[.int .i64 0] 32)) w.heap.size #[.int .i64 0] from (Blk.new w _ _).alloc _)
  have BR := Lib.hid (show Blk ((w.alloc (.cells #[.int .i64 0] 29)).alloc (.cells #[.int .i64 0] 32)) (w.heap.size + 1) #[.int .i64 0] from by have := Blk.new (w.alloc (.cells #[.int .i64 0] 29)) 32 #[.int .i64 0]; rwa [World.size_alloc] at this)
  by_cases h50 : 50 < n
  · go_enter Try.func3, Try.ntmps3
    go_wp2_with fail
    go_loopw [16] (fun i wr => ∃ k : Nat, k ≤ 50 ∧ i = .int .i64 k ∧ ∃ s : Int, 0 ≤ s ∧ s ≤ k * 2147483647 ∧ Hid (Blk wr w.heap.size #[.int .i64 s]) ∧ Hid (Blk wr (w.heap.size + 1) #[.int .i64 s]) ∧ Hid (Below w.heap.size w wr)) (fun i _ => 50 - (intOf i).toNat)
    case atStart => exact ⟨0, Nat.zero_le _, rfl, 0, by omega, by omega, BM.out, BR.out, BW.out⟩
    case round =>
      obtain ⟨k, hk, rfl, s, s0, s1, MK, RK, ZK⟩ := hrel
      by_cases h1 : k < 50
      · obtain ⟨ad, u, rfl, hlt, _, ⟨u1, u2⟩, hcu⟩ := (HL.out _ ZK.out).at_ (k := k) (by omega)
        have e1 : IntKind.i64.wrap ((k : Int) + 1) = (k : Int) + 1 := IntWalk.i64_in _ (by omega)
        have e2 : IntKind.i64.wrap u = u := IntWalk.i64_in _ (by omega)
        have e3 : IntKind.i64.wrap y = y := IntWalk.i64_in _ (by omega)
        have M0 := Lib.hid (show 0 ≤ madeN s u ∧ madeN s u ≤ ((k + 1 : Nat) : Int) * 2147483647 from by unfold madeN; split <;> omega)
        go_wp2_with fail
        (with_reducible refine (made_any w.heap.size s u wr MK.out s0 (by omega)).mono ?_)
        rintro e w1 ⟨rfl, h1, k1⟩
        have M1 := Lib.hid h1
        have R1 := Lib.hid (k1.blk RK.out (by omega))
        have Z1 := Lib.hid (ZK.out.trans (k1.below (B := w.heap.size) ZK.out.size (fun g q => by omega)))
        clear h1 k1 hcu
        go_wp2_with fail
        (with_reducible refine (made_nil u w1).mono ?_)
        rintro e w' ⟨rfl, rfl⟩
        have hcr : w'.cell? ⟨w.heap.size + 1, 0, none⟩ = some (.int .i64 s) := R1.out.cell 0
        go_wp2_with fail
        (with_reducible refine (rmade_any s u w' s0 (by omega)).mono ?_)
        rintro e w2 ⟨rfl, z2⟩
        have M2 := Lib.hid (M1.out.below z2 M1.out.lt)
        have R2 := Lib.hid (R1.out.below z2 R1.out.lt)
        have Z2 := Lib.hid (Z1.out.trans (z2.mono Z1.out.size))
        clear z2 hcr
        obtain ⟨v, hv⟩ : ∃ v, madeN s u = v := ⟨_, rfl⟩
        rw [hv] at M0 M2
        rw [hv]
        clear hv
        obtain ⟨v0, v1'⟩ := M0.out
        have hcr : w2.cell? ⟨w.heap.size + 1, 0, none⟩ = some (.int .i64 s) := R2.out.cell 0
        have hzr : w2.frozen? ⟨w.heap.size + 1, 0, none⟩ = false := R2.out.fz 0
        go_wp2_with fail
        generalize hw : w2.setCell ⟨w.heap.size + 1, 0, none⟩ (.int .i64 v) = w3
        obtain ⟨h3, k3⟩ := R2.out.put hw.symm (cs' := #[.int .i64 v]) (by simp)
        have M3 := Lib.hid (k3.blk M2.out (by omega))
        have R3 := Lib.hid h3
        have Z3 := Lib.hid (Z2.out.trans (k3.below (B := w.heap.size) Z2.out.size (fun g q => by omega)))
        have hcm : w3.cell? ⟨w.heap.size, 0, none⟩ = some (.int .i64 v) := M3.out.cell 0
        have hcr3 : w3.cell? ⟨w.heap.size + 1, 0, none⟩ = some (.int .i64 v) := R3.out.cell 0
        have HC := Lib.hid (fun V (h : Below w3.heap.size w3 V) => show V.cell? ⟨w.heap.size, 0, none⟩ = some (.int .i64 v) ∧ V.cell? ⟨w.heap.size + 1, 0, none⟩ = some (.int .i64 v) from ⟨(h.cell (p := ⟨w.heap.size, 0, none⟩) M3.out.lt).trans hcm, (h.cell (p := ⟨w.heap.size + 1, 0, none⟩) R3.out.lt).trans hcr3⟩)
        clear hw h3 k3 hcr hzr
        have hb0 : Below w3.heap.size w3 w3 := Below.refl _ _
        obtain ⟨d, hd⟩ : ∃ d, sinceN v y = d := ⟨_, rfl⟩
        have CS := Lib.hid (fun V hc => hd ▸ since_any w.heap.size v y V hc v0 (by omega) (by omega))
        have CR := Lib.hid (fun V => hd ▸ rsince_any v y V (by omega) (by omega))
        clear hd
        go_region_held3 (fun w' => w'.cell? ⟨w.heap.size, 0, none⟩ = some (.int .i64 v) ∧ w'.cell? ⟨w.heap.size + 1, 0, none⟩ = some (.int .i64 v))
          (first | go_keep | exact HC.out _ hb1)
          (first
            | (go_at_call 8; refine (count_any w.heap.size v _ (HC.out _ (by repeat (first | assumption | apply below_drewN | apply Below.drew))).1).mono ?_; rintro e v2 ⟨rfl, rfl⟩)
            | (go_at_call 9; refine (CS.out _ (HC.out _ (by repeat (first | assumption | apply below_drewN | apply Below.drew))).1).mono ?_; rintro e v3 ⟨rfl, rfl⟩)
            | (go_at_call 10; refine (CR.out _).mono ?_; rintro e v1 ⟨rfl, z1⟩; have hb1 : Below w3.heap.size w3 v1 := Below.trans (by repeat (first | assumption | apply below_drewN | apply Below.drew)) z1))
        have Z4 := Lib.hid (Z3.out.trans (hb1.mono Z3.out.size))
        have M4 := Lib.hid (M3.out.below hb1 M3.out.lt)
        have R4 := Lib.hid (R3.out.below hb1 R3.out.lt)
        clear hcm hcr3 hb0 hb1 z1
        go_wp2
        exact ⟨⟨k + 1, by omega, by go_num, v, v0, v1', M4, R4, Z4⟩, by simp [intOf]; omega⟩
      · obtain rfl : k = 50 := by omega
        go_wp2_with fail
        (with_reducible refine (count_nil wr).mono ?_)
        rintro e w' ⟨rfl, rfl⟩
        have e3 : IntKind.i64.wrap y = y := IntWalk.i64_in _ (by omega)
        go_wp2_with fail
        (with_reducible refine (since_nil y w').mono ?_)
        rintro e w' ⟨rfl, rfl⟩
        go_wp2_with fail
        (with_reducible refine (alive_any _).mono ?_)
        rintro e w4 ⟨rfl, h4⟩
        have B4 := Lib.hid (ZK.out.trans (h4.mono ZK.out.size))
        clear h4
        go_wp2
        go_ret
        exact ⟨rfl, B4.out⟩
  · go_enter Try.func3, Try.ntmps3
    go_wp2_with fail
    go_loopw [16] (fun i wr => ∃ k : Nat, k ≤ n ∧ i = .int .i64 k ∧ ∃ s : Int, 0 ≤ s ∧ s ≤ k * 2147483647 ∧ Hid (Blk wr w.heap.size #[.int .i64 s]) ∧ Hid (Blk wr (w.heap.size + 1) #[.int .i64 s]) ∧ Hid (Below w.heap.size w wr)) (fun i _ => n - (intOf i).toNat)
    case atStart => exact ⟨0, Nat.zero_le _, rfl, 0, by omega, by omega, BM.out, BR.out, BW.out⟩
    case round =>
      obtain ⟨k, hk, rfl, s, s0, s1, MK, RK, ZK⟩ := hrel
      by_cases h1 : k < n
      · obtain ⟨ad, u, rfl, hlt, _, ⟨u1, u2⟩, hcu⟩ := (HL.out _ ZK.out).at_ (k := k) (by omega)
        have e1 : IntKind.i64.wrap ((k : Int) + 1) = (k : Int) + 1 := IntWalk.i64_in _ (by omega)
        have e2 : IntKind.i64.wrap u = u := IntWalk.i64_in _ (by omega)
        have e3 : IntKind.i64.wrap y = y := IntWalk.i64_in _ (by omega)
        have M0 := Lib.hid (show 0 ≤ madeN s u ∧ madeN s u ≤ ((k + 1 : Nat) : Int) * 2147483647 from by unfold madeN; split <;> omega)
        go_wp2_with fail
        (with_reducible refine (made_any w.heap.size s u wr MK.out s0 (by omega)).mono ?_)
        rintro e w1 ⟨rfl, h1, k1⟩
        have M1 := Lib.hid h1
        have R1 := Lib.hid (k1.blk RK.out (by omega))
        have Z1 := Lib.hid (ZK.out.trans (k1.below (B := w.heap.size) ZK.out.size (fun g q => by omega)))
        clear h1 k1 hcu
        go_wp2_with fail
        (with_reducible refine (made_nil u w1).mono ?_)
        rintro e w' ⟨rfl, rfl⟩
        have hcr : w'.cell? ⟨w.heap.size + 1, 0, none⟩ = some (.int .i64 s) := R1.out.cell 0
        go_wp2_with fail
        (with_reducible refine (rmade_any s u w' s0 (by omega)).mono ?_)
        rintro e w2 ⟨rfl, z2⟩
        have M2 := Lib.hid (M1.out.below z2 M1.out.lt)
        have R2 := Lib.hid (R1.out.below z2 R1.out.lt)
        have Z2 := Lib.hid (Z1.out.trans (z2.mono Z1.out.size))
        clear z2 hcr
        obtain ⟨v, hv⟩ : ∃ v, madeN s u = v := ⟨_, rfl⟩
        rw [hv] at M0 M2
        rw [hv]
        clear hv
        obtain ⟨v0, v1'⟩ := M0.out
        have hcr : w2.cell? ⟨w.heap.size + 1, 0, none⟩ = some (.int .i64 s) := R2.out.cell 0
        have hzr : w2.frozen? ⟨w.heap.size + 1, 0, none⟩ = false := R2.out.fz 0
        go_wp2_with fail
        generalize hw : w2.setCell ⟨w.heap.size + 1, 0, none⟩ (.int .i64 v) = w3
        obtain ⟨h3, k3⟩ := R2.out.put hw.symm (cs' := #[.int .i64 v]) (by simp)
        have M3 := Lib.hid (k3.blk M2.out (by omega))
        have R3 := Lib.hid h3
        have Z3 := Lib.hid (Z2.out.trans (k3.below (B := w.heap.size) Z2.out.size (fun g q => by omega)))
        have hcm : w3.cell? ⟨w.heap.size, 0, none⟩ = some (.int .i64 v) := M3.out.cell 0
        have hcr3 : w3.cell? ⟨w.heap.size + 1, 0, none⟩ = some (.int .i64 v) := R3.out.cell 0
        have HC := Lib.hid (fun V (h : Below w3.heap.size w3 V) => show V.cell? ⟨w.heap.size, 0, none⟩ = some (.int .i64 v) ∧ V.cell? ⟨w.heap.size + 1, 0, none⟩ = some (.int .i64 v) from ⟨(h.cell (p := ⟨w.heap.size, 0, none⟩) M3.out.lt).trans hcm, (h.cell (p := ⟨w.heap.size + 1, 0, none⟩) R3.out.lt).trans hcr3⟩)
        clear hw h3 k3 hcr hzr
        have hb0 : Below w3.heap.size w3 w3 := Below.refl _ _
        obtain ⟨d, hd⟩ : ∃ d, sinceN v y = d := ⟨_, rfl⟩
        have CS := Lib.hid (fun V hc => hd ▸ since_any w.heap.size v y V hc v0 (by omega) (by omega))
        have CR := Lib.hid (fun V => hd ▸ rsince_any v y V (by omega) (by omega))
        clear hd
        go_region_held3 (fun w' => w'.cell? ⟨w.heap.size, 0, none⟩ = some (.int .i64 v) ∧ w'.cell? ⟨w.heap.size + 1, 0, none⟩ = some (.int .i64 v))
          (first | go_keep | exact HC.out _ hb1)
          (first
            | (go_at_call 8; refine (count_any w.heap.size v _ (HC.out _ (by repeat (first | assumption | apply below_drewN | apply Below.drew))).1).mono ?_; rintro e v2 ⟨rfl, rfl⟩)
            | (go_at_call 9; refine (CS.out _ (HC.out _ (by repeat (first | assumption | apply below_drewN | apply Below.drew))).1).mono ?_; rintro e v3 ⟨rfl, rfl⟩)
            | (go_at_call 10; refine (CR.out _).mono ?_; rintro e v1 ⟨rfl, z1⟩; have hb1 : Below w3.heap.size w3 v1 := Below.trans (by repeat (first | assumption | apply below_drewN | apply Below.drew)) z1))
        have Z4 := Lib.hid (Z3.out.trans (hb1.mono Z3.out.size))
        have M4 := Lib.hid (M3.out.below hb1 M3.out.lt)
        have R4 := Lib.hid (R3.out.below hb1 R3.out.lt)
        clear hcm hcr3 hb0 hb1 z1
        go_wp2
        exact ⟨⟨k + 1, by omega, by go_num, v, v0, v1', M4, R4, Z4⟩, by simp [intOf]; omega⟩
      · obtain rfl : k = n := by omega
        go_wp2_with fail
        (with_reducible refine (count_nil wr).mono ?_)
        rintro e w' ⟨rfl, rfl⟩
        have e3 : IntKind.i64.wrap y = y := IntWalk.i64_in _ (by omega)
        go_wp2_with fail
        (with_reducible refine (since_nil y w').mono ?_)
        rintro e w' ⟨rfl, rfl⟩
        go_wp2_with fail
        (with_reducible refine (alive_any _).mono ?_)
        rintro e w4 ⟨rfl, h4⟩
        have B4 := Lib.hid (ZK.out.trans (h4.mono ZK.out.size))
        clear h4
        go_wp2
        go_ret
        exact ⟨rfl, B4.out⟩

set_option maxRecDepth 100000 in
theorem lifted (os : Os) (started : os.Started) (H : Type) (enc : TypeId × Value → H) :
    ReturnsInHanded {} Try.checked os 3 .any (Rows.meterCountsSpec.pre6 enc Try.prog Try.f3 Rows.meterCountsRow.domain false) (Rows.meterCountsSpec.post enc Try.prog Try.f3 false true false false) := by
  refine returnsInHanded_of_change (C := Try.checked) own started (by kernel_rfl) Try.func3
    (ChangeSpec.witness6 (enc := enc) (C := Try.checked) false ⟨#[], #[.slice none 0 0, .int .i32 0], []⟩ 8 (by kernel_rfl) (by kernel_rfl) (by kernel_rfl) (by kernel_rfl)) ?_
  intro W base args ds gs before hval0 hW hcnd _
  have hval : ∀ (j : Nat) t v, Try.f3.params[j]? = some t → args[j]? = some v → Value.okWide Try.prog W .any base t v := hval0
  have hW' := hW
  obtain ⟨p, q, hA0, hV, rfl, hfz, hnd⟩ := hW
  have hA : DataW.TrodAll enc Try.prog W 0 (fun _ => true) true Try.f3.params.toList args.toList ds p := hA0
  rw [Try.params3] at hA hval
  obtain ⟨v0, vs0, d0, ds0, p0, q0, hargs, rfl, rfl, h0, r0⟩ := trodAll_cons hA
  obtain ⟨v1, vs1, d1, ds1, p1, q1, rfl, rfl, rfl, h1, r1⟩ := trodAll_cons r0
  obtain ⟨rfl, rfl, rfl⟩ := trodAll_nil r1
  obtain rfl : args = #[v0, v1] := by cases args; simp_all
  obtain ⟨rfl, rfl⟩ := trodVars_none hV
  have k0 := h0
  have lt0 : ∀ x ∈ p0, x.block < W.heap.size := by obtain ⟨m, hm⟩ := k0; exact DataW.trod_lt m _ _ _ hm
  have k1 := h1
  have lt1 : ∀ x ∈ p1, x.block < W.heap.size := by obtain ⟨m, hm⟩ := k1; exact DataW.trod_lt m _ _ _ hm
  obtain ⟨A0, n0, c0, l0, rfl, b0, nc0⟩ := open_i32 (hval 0 22 v0 rfl rfl) h0
  obtain ⟨x1, rfl, _, _, wx1⟩ := open_int Try.underlying21 (hval 1 21 v1 rfl rfl) h1
  clear hA0 hval0
  refine (walk A0 n0 c0 l0 x1 W b0 nc0 wx1).mono fun e W' ⟨he, bel⟩ => ?_
  subst he
  exact ⟨_, rfl, _, _, _, [], _, [], hW', trodAll_mk1 (shut_bool Try.underlying4 _), (trodAll_cons_mk (Below.trod laidOut (by kernel_rfl) (of_decide_eq_true (by kernel_rfl)) k0 bel lt0) (trodAll_cons_mk (Below.trod laidOut (by kernel_rfl) (of_decide_eq_true (by kernel_rfl)) k1 bel lt1) trodAll_mk0)), rfl, bel.frame _, fun h => by cases h⟩

set_option maxRecDepth 100000 in
theorem proved : Rows.MeterCountsSaid :=
  OpenClaim.holds_of_wide 3 Try.f3 rfl rfl rfl rfl rfl rfl rfl ⟨rfl, rfl, rfl, rfl, rfl⟩ rfl rfl rfl rfl rfl (by kernel_rfl) Try.func3 (by kernel_rfl)
    (of_decide_eq_true (by kernel_rfl)) (by unfold Func.isWrapper; first | (rw [if_pos (by decide +kernel)]; kernel_rfl) | (rw [if_neg (by decide +kernel)]; exact ⟨rfl, rfl⟩))
    (fun os started H enc _ => lifted os started H enc)
end Go.Proofs.Ytmjdfppdjdjmcaa.meterCounts
