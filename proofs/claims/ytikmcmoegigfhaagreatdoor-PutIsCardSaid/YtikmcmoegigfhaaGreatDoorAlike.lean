/-
  How many pairs, from the first one on, have its key's byte at a place.
-/
import Derived.Test.YtikmcmoegigfhaaGreatDoorShape
import Derived.Test.YtikmcmoegigfhaaGreatDoorCanRead
import Derived.Test.YtikmcmoegigfhaaGreatDoorText
namespace Go.Proofs.YtikmcmoegigfhaaGreatDoor
open Go.RowKit

set_option maxRecDepth 100000 in
theorem alike1_any (A : Option Addr) (n c B q i x y : Nat) (ps : List PV) (bt : Nat → UInt8) (w : World) (ha : Prs w B A n ps) (h0 : 0 < n) (hi : i < n)
    (hbt : ∀ i p, ps[i]? = some p → p.key[q]? = some (bt i)) (cx : w.cell? ⟨x, 0, none⟩ = some (.slice A n c)) (cy : w.cell? ⟨y, 0, none⟩ = some (.int .i64 (q : Int))) :
    Calls Tryz.prog 94 #[.int .i64 (i : Int), .pointer (some ⟨x, 0, none⟩), .pointer (some ⟨y, 0, none⟩)] w fun e w' => e = .returned (.bool (bt i != bt 0)) ∧ Still w w' := by
  obtain ⟨ad, p, rfl, _, e1, c1, c2, b1⟩ := ha.at_ hi
  obtain ⟨ad', p0, e, _, e2, c3, c4, b2⟩ := ha.at_ h0
  cases e
  have k1 := hbt i p e1
  have k2 := hbt 0 p0 e2
  obtain ⟨z1, hz1⟩ : ∃ z, bt i = z := ⟨_, rfl⟩
  obtain ⟨z2, hz2⟩ : ∃ z, bt 0 = z := ⟨_, rfl⟩
  rw [hz1] at k1 ⊢
  rw [hz2] at k2 ⊢
  have l1 : q < p.n := by have := (List.getElem?_eq_some_iff.1 k1).1; have := b1.1; omega
  have l2 : q < p0.n := by have := (List.getElem?_eq_some_iff.1 k2).1; have := b2.1; omega
  obtain ⟨d1, u1, f1, _, g1, h1⟩ := b1.at_ l1
  obtain ⟨d2, u2, f2, _, g2, h2⟩ := b2.at_ l2
  rw [k1] at g1
  rw [k2] at g2
  injection g1 with g1
  injection g2 with g2
  subst g1 g2
  rw [f1] at c1
  rw [f2] at c3
  have HE := Lib.hid (show (z1 != z2) = ((z1.toNat : Int) != (z2.toNat : Int)) from by
    by_cases h : z1 = z2
    · rw [h, bne_self_eq_false, bne_self_eq_false]
    · have : ¬ (z1.toNat : Int) = z2.toNat := fun q => h (UInt8.toNat_inj.1 (by omega))
      rw [bne_iff_ne.2 h, bne_iff_ne.2 this])
  rw [HE.out]
  rw [Nat.zero_mul, show ad.add 0 = ad by simp [Addr.add]] at c3
  obtain ⟨kz1, hkz1⟩ : ∃ v : Int, (z1.toNat : Int) = v := ⟨_, rfl⟩
  obtain ⟨kz2, hkz2⟩ : ∃ v : Int, (z2.toNat : Int) = v := ⟨_, rfl⟩
  rw [hkz1] at h1 ⊢
  rw [hkz2] at h2 ⊢
  clear ha hbt hz1 hz2 k1 k2 b1 b2 e1 e2 c2 c4 f1 f2 HE hkz1 hkz2
  generalize p.n = m1 at *
  generalize p.c = r1 at *
  generalize p0.n = m2 at *
  generalize p0.c = r2 at *
  go_enter Tryz.func94, Tryz.ntmps94
  go_wp2
  go_quiet (fail)
  go_wp2
  go_ret
  exact ⟨rfl, by repeat (first | exact Still.refl _ | apply Still.step)⟩

set_option maxRecDepth 100000 in
set_option maxHeartbeats 1000000 in
theorem ssearch_any (n x y : Nat) (f : Nat → Bool) (w : World) (hn : n ≤ 1000000) (hm : ∀ i j, i ≤ j → f i = true → f j = true)
    (hf : ∀ W i, Still w W → i < n → Calls Tryz.prog 94 #[.int .i64 (i : Int), .pointer (some ⟨x, 0, none⟩), .pointer (some ⟨y, 0, none⟩)] W fun e w' => e = .returned (.bool (f i)) ∧ Still W w') :
    Calls Tryz.prog 93 #[.int .i64 (n : Int), .func (.func 94) #[] #[.pointer (some ⟨x, 0, none⟩), .pointer (some ⟨y, 0, none⟩)]] w fun e w' => ∃ j : Nat, e = .returned (.int .i64 (j : Int)) ∧ j ≤ n ∧ (∀ i, i < j → f i = false) ∧ (∀ i, j ≤ i → i < n → f i = true) ∧ Still w w' := by
  have HF := Lib.hid hf
  have HM := Lib.hid hm
  clear hf hm
  go_enter Tryz.func93, Tryz.ntmps93
  go_wp2
  go_loopg [5, 6] n (fun m s5 s6 wr => ∃ lo hi : Nat, s5 = .int .i64 lo ∧ s6 = .int .i64 hi ∧ lo ≤ hi ∧ hi ≤ n ∧ hi - lo ≤ m ∧ (∀ i, i < lo → f i = false) ∧ (∀ i, hi ≤ i → i < n → f i = true) ∧ Still w wr)
  case atStart => exact ⟨0, n, rfl, rfl, Nat.zero_le _, Nat.le_refl _, by omega, fun i h => by omega, fun i h1 h2 => by omega, Still.refl _⟩
  case round =>
    obtain ⟨lo, hi, rfl, rfl, hlh, hin, hg, h1, h2, hs⟩ := hrel
    have H1 := Lib.hid h1
    have H2 := Lib.hid h2
    have HS := Lib.hid hs
    clear h1 h2 hs
    by_cases hlt : lo < hi
    · have HC := Lib.hid (HF.out wr ((lo + hi) / 2) HS.out (by omega))
      have e1 : IntKind.u64.wrap ((lo : Int) + (hi : Int)) = (lo : Int) + (hi : Int) := by rw [IntKind.wrap_u64]; omega
      have e2 : IntKind.i64.wrap ((lo : Int) + (hi : Int)) = (lo : Int) + (hi : Int) := by rw [IntKind.wrap_i64]; omega
      rw [show (((lo + hi) / 2 : Nat) : Int) = ((lo : Int) + (hi : Int)) / 2 by omega] at HC
      obtain ⟨y, hy⟩ : ∃ y, f ((lo + hi) / 2) = y := ⟨_, rfl⟩
      rw [hy] at HC
      have HY := Lib.hid hy
      clear hy
      cases y with
      | false =>
        go_wp2_with fail
        (with_reducible refine HC.out.mono ?_)
        rintro e w1 ⟨rfl, hs1⟩
        have S1 := Lib.hid (HS.out.trans hs1)
        clear hs1
        go_wp2_with fail
        go_roundg (hi - ((lo + hi) / 2 + 1))
        case measure => omega
        case rel =>
          refine ⟨(lo + hi) / 2 + 1, hi, by rw [show ((lo : Int) + (hi : Int)) / 2 + 1 = (((lo + hi) / 2 + 1 : Nat) : Int) by omega], rfl, by omega, hin, Nat.le_refl _, fun i h => ?_, H2.out, S1.out⟩
          cases hfi : f i with
          | false => rfl
          | true => have := HM.out i ((lo + hi) / 2) (by omega) hfi; rw [HY.out] at this; exact this.symm
      | true =>
        go_wp2_with fail
        (with_reducible refine HC.out.mono ?_)
        rintro e w1 ⟨rfl, hs1⟩
        have S1 := Lib.hid (HS.out.trans hs1)
        clear hs1
        go_wp2_with fail
        go_roundg ((lo + hi) / 2 - lo)
        case measure => omega
        case rel => exact ⟨lo, (lo + hi) / 2, rfl, by rw [show ((lo : Int) + (hi : Int)) / 2 = (((lo + hi) / 2 : Nat) : Int) by omega], by omega, by omega, Nat.le_refl _, H1.out, fun i h3 h4 => HM.out _ i h3 HY.out, S1.out⟩
    · have : hi = lo := by omega
      subst this
      go_wp2
      go_ret
      exact ⟨hi, rfl, hin, H1.out, H2.out, by repeat (first | exact HS.out | apply Still.step)⟩

set_option maxRecDepth 100000 in
theorem alike_any (A : Option Addr) (n c B q : Nat) (ps : List PV) (bt : Nat → UInt8) (w : World) (ha : Prs w B A n ps) (hB : B ≤ w.heap.size) (h0 : 0 < n) (hn : n ≤ 1000000)
    (hbt : ∀ i p, ps[i]? = some p → p.key[q]? = some (bt i)) (hm : ∀ i j, i ≤ j → j < n → (bt i).toNat ≤ (bt j).toNat) :
    Calls Tryz.prog 72 #[.slice A n c, .int .i64 (q : Int)] w fun e w' => ∃ j : Nat, e = .returned (.int .i64 (j : Int)) ∧ 0 < j ∧ j ≤ n ∧ (∀ i, i < j → bt i = bt 0) ∧ (∀ i, j ≤ i → i < n → bt i ≠ bt 0) ∧ Below w.heap.size w w' := by
  have HP := Lib.hid ha
  have HBT := Lib.hid hbt
  have HM := Lib.hid hm
  clear ha hbt hm
  go_enter Tryz.func72, Tryz.ntmps72
  obtain ⟨U, hU⟩ : ∃ U, ((w.alloc (.cells #[.slice A n c] 58)).alloc (.cells #[.int .i64 (q : Int)] 3)) = U := ⟨_, rfl⟩
  have bU : Below w.heap.size w U := by
    rw [← hU]
    exact ((Below.refl _ _).alloc (Nat.le_refl _) _).alloc (by simp) _
  have c1 : U.cell? ⟨w.heap.size, 0, none⟩ = some (.slice A n c) := by
    rw [← hU, World.cell?_alloc_lt _ _ _ (by simp)]
    exact (Blk.new w _ #[.slice A n c]).cell 0
  have c2 : U.cell? ⟨w.heap.size + 1, 0, none⟩ = some (.int .i64 (q : Int)) := by
    rw [← hU]
    have : ((w.alloc (.cells #[.slice A n c] 58)).alloc (.cells #[.int .i64 (q : Int)] 3)).cell? ⟨(w.alloc (.cells #[.slice A n c] 58)).heap.size, 0, none⟩ = some (.int .i64 (q : Int)) := (Blk.new (w.alloc (.cells #[.slice A n c] 58)) 3 #[.int .i64 (q : Int)]).cell 0
    rw [World.size_alloc] at this
    exact this
  have HU := Lib.hid hU
  have S := Lib.hid (ssearch_any n w.heap.size (w.heap.size + 1) (fun i => bt (min i (n - 1)) != bt 0) U hn (fun i j hij hf => by
      have h1 := HM.out 0 (min i (n - 1)) (by omega) (by omega)
      have h2 := HM.out (min i (n - 1)) (min j (n - 1)) (by omega) (by omega)
      have h3 : bt (min i (n - 1)) ≠ bt 0 := by simpa using hf
      have h4 : bt (min j (n - 1)) ≠ bt 0 := fun e => by
        rw [e] at h2
        exact h3 (UInt8.toNat_inj.1 (by omega))
      simpa using h4) (fun W i hs hi => by
      have k : Kept (fun _ => False) U W := Kept.still hs
      have := alike1_any A n c B q i w.heap.size (w.heap.size + 1) ps bt W ((HP.out.below (bU.mono hB)).below (hs.below _)) h0 hi HBT.out ((k.cell (by exact lt_cell c1) (fun q => q)).trans c1) ((k.cell (by exact lt_cell c2) (fun q => q)).trans c2)
      rw [show min i (n - 1) = i by omega]
      exact this))
  have BU := Lib.hid bU
  clear hU bU c1 c2
  go_wp2_with fail
  rw [HU.out]
  (with_reducible refine S.out.mono ?_)
  rintro e w1 ⟨j, rfl, j1, j2, j3, j4⟩
  have HE := Lib.hid (show 0 < j ∧ j ≤ n ∧ (∀ i, i < j → bt i = bt 0) ∧ (∀ i, j ≤ i → i < n → bt i ≠ bt 0) ∧ Below w.heap.size w w1 from by
    refine ⟨?_, j1, fun i hi => ?_, fun i h1 h2 => ?_, BU.out.trans (j4.below _)⟩
    · rcases Nat.eq_zero_or_pos j with e | e
      · subst e
        have := j3 0 (Nat.le_refl _) h0
        simp at this
      · exact e
    · have := j2 i hi
      rw [show min i (n - 1) = i by omega] at this
      simpa using this
    · have := j3 i h1 h2
      rw [show min i (n - 1) = i by omega] at this
      simpa using this)
  clear S j1 j2 j3 j4
  go_wp2
  go_ret
  exact ⟨j, rfl, HE.out⟩
end Go.Proofs.YtikmcmoegigfhaaGreatDoor
