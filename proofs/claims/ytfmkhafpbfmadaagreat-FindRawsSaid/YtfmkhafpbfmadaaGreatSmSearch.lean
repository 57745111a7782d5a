/-
  slices.BinarySearch over bytes that rise: where a byte stands, and whether it is there.
-/
import Derived.Test.YtfmkhafpbfmadaaGreatMem
import Derived.Test.YtfmkhafpbfmadaaGreatSmPure
import Derived.Test.YtfmkhafpbfmadaaGreatChecked
import Derived.Deep.LoopGhost
namespace Go.Proofs.YtfmkhafpbfmadaaGreat
open Go.RowKit

set_option maxRecDepth 100000 in
theorem nan_cmp (x : Int) (w : World) : Calls Tryz.prog 126 #[.int .u8 x] w fun e w' => e = .returned (.bool false) ∧ w' = w := by
  go_enter Tryz.func126, Tryz.ntmps126
  go_wp2
  go_ret
  exact ⟨by simp, rfl⟩
set_option maxRecDepth 100000 in
theorem nan_sl (x : Int) (w : World) : Calls Tryz.prog 124 #[.int .u8 x] w fun e w' => e = .returned (.bool false) ∧ w' = w := by
  go_enter Tryz.func124, Tryz.ntmps124
  go_wp2
  go_ret
  exact ⟨by simp, rfl⟩
set_option maxRecDepth 100000 in
theorem less_any (x y : Int) (w : World) : Calls Tryz.prog 123 #[.int .u8 x, .int .u8 y] w fun e w' => e = .returned (.bool (decide (x < y))) ∧ w' = w := by
  go_enter Tryz.func123, Tryz.ntmps123
  go_wp2_with (go_at_call 126; refine (nan_cmp _ _).mono ?_; rintro e w' ⟨rfl, rfl⟩)
  go_ret
  exact ⟨rfl, rfl⟩

set_option maxHeartbeats 4000000 in
set_option maxRecDepth 100000 in
theorem search_any (g off n c : Nat) (es : List Ent) (b : UInt8) (w : World) (hn : es.length = n) (h16 : n ≤ 16)
    (hc : ∀ (j : Nat) (e : Ent), es[j]? = some e → w.cell? ⟨g, off + j, none⟩ = some (.int .u8 (e.1.toNat : Int))) (hs : Up es) :
    Calls Tryz.prog 120 #[.slice (some ⟨g, off, none⟩) n c, .int .u8 (b.toNat : Int)] w fun e w' =>
      e = .returned (.tuple #[.int .i64 (pos es b.toNat : Nat), .bool (hasE es b.toNat)]) ∧ Still w w' := by
  have HC := Lib.hid hc
  have HS := Lib.hid hs
  have HN := Lib.hid hn
  clear hc hs hn
  obtain ⟨z, hz⟩ : ∃ z : Nat, b.toNat = z := ⟨_, rfl⟩
  rw [hz]
  clear hz
  go_enter Tryz.func120, Tryz.ntmps120
  go_wp2
  go_loopg [7, 8] n (fun m s7 s8 wr => ∃ lo hi : Nat, s7 = .int .i64 lo ∧ s8 = .int .i64 hi ∧ lo ≤ hi ∧ hi ≤ n ∧ hi - lo ≤ m ∧ Still w wr ∧ (∀ t e, t < lo → es[t]? = some e → e.1.toNat < z) ∧ (∀ t e, hi ≤ t → es[t]? = some e → z ≤ e.1.toNat))
  case atStart => exact ⟨0, n, rfl, rfl, Nat.zero_le _, Nat.le_refl _, by omega, Still.refl _, fun t e ht => absurd ht (Nat.not_lt_zero _), fun t e h1 h2 => by have := (List.getElem?_eq_some_iff.1 h2).1; have := HN.out; omega⟩
  case round =>
    obtain ⟨lo, hi, rfl, rfl, hlh, hin, hg, ⟨q, rfl⟩, h1, h2⟩ := hrel
    have H1 := Lib.hid h1
    have H2 := Lib.hid h2
    clear h1 h2
    by_cases hlt : lo < hi
    · obtain ⟨y, hy⟩ : ∃ y, es[(lo + hi) / 2]? = some y := ⟨es[(lo + hi) / 2]'(by have := HN.out; omega), List.getElem?_eq_getElem _⟩
      have cm : w.cell? ⟨g, off + (lo + hi) / 2, none⟩ = some (.int .u8 (y.1.toNat : Int)) := HC.out _ _ hy
      have HY := Lib.hid hy
      clear hy
      obtain ⟨u, hu⟩ : ∃ u : Nat, y.1.toNat = u := ⟨_, rfl⟩
      have HU := Lib.hid hu
      rw [hu] at cm
      clear hu
      by_cases hyx : u < z
      · have hyx' : (u : Int) < (z : Int) := by omega
        go_wp2_with (first | (go_at_call 123; refine (less_any _ _ _).mono ?_; rintro e w' ⟨rfl, rfl⟩) | (go_at_call 124; refine (nan_sl _ _).mono ?_; rintro e w' ⟨rfl, rfl⟩))
        go_roundg (hi - ((lo + hi) / 2 + 1))
        case measure => omega
        case rel =>
          refine ⟨(lo + hi) / 2 + 1, hi, by rw [show ((lo : Int) + (hi : Int)) / 2 + 1 = (((lo + hi) / 2 + 1 : Nat) : Int) by omega], rfl, by omega, hin, Nat.le_refl _, ⟨_, rfl⟩, fun t e ht he => ?_, H2.out⟩
          rcases Nat.lt_or_eq_of_le (show t ≤ (lo + hi) / 2 by omega) with q1 | q1
          · have := HS.out.at_ q1 he HY.out; have := HU.out; omega
          · subst q1; have h5 := HY.out; rw [h5] at he; cases he; have := HU.out; omega
      · have hyx' : ¬ ((u : Int) < (z : Int)) := by omega
        go_wp2_with (first | (go_at_call 123; refine (less_any _ _ _).mono ?_; rintro e w' ⟨rfl, rfl⟩) | (go_at_call 124; refine (nan_sl _ _).mono ?_; rintro e w' ⟨rfl, rfl⟩))
        go_roundg ((lo + hi) / 2 - lo)
        case measure => omega
        case rel =>
          refine ⟨lo, (lo + hi) / 2, rfl, by rw [show ((lo : Int) + (hi : Int)) / 2 = (((lo + hi) / 2 : Nat) : Int) by omega], by omega, by omega, Nat.le_refl _, ⟨_, rfl⟩, H1.out, fun t e ht he => ?_⟩
          rcases Nat.lt_or_eq_of_le ht with q1 | q1
          · have := HS.out.at_ q1 HY.out he; have := HU.out; omega
          · subst q1; have h5 := HY.out; rw [h5] at he; cases he; have := HU.out; omega
    · have : hi = lo := by omega
      subst this
      have EP := Lib.hid (show pos es z = hi from pos_of (by have := HN.out; omega) H1.out H2.out)
      by_cases hl : hi < n
      · obtain ⟨y, hy⟩ : ∃ y, es[hi]? = some y := ⟨es[hi]'(by have := HN.out; omega), List.getElem?_eq_getElem _⟩
        have cm : w.cell? ⟨g, off + hi, none⟩ = some (.int .u8 (y.1.toNat : Int)) := HC.out _ _ hy
        have E := Lib.hid (show hasE es z = decide (y.1.toNat = z) by
          unfold hasE look
          rw [EP.out, hy]
          by_cases q : y.1.toNat = z <;> simp [q])
        clear hy
        obtain ⟨u, hu⟩ : ∃ u : Nat, y.1.toNat = u := ⟨_, rfl⟩
        rw [hu] at cm E
        clear hu
        by_cases hyx : u = z
        · subst hyx
          go_wp2_with (first | (go_at_call 123; refine (less_any _ _ _).mono ?_; rintro e w' ⟨rfl, rfl⟩) | (go_at_call 124; refine (nan_sl _ _).mono ?_; rintro e w' ⟨rfl, rfl⟩))
          go_ret2
          refine ⟨?_, ⟨_, rfl⟩⟩
          rw [EP.out, E.out]
          simp
        · have hyx' : ¬ ((u : Int) = (z : Int)) := by omega
          go_wp2_with (first | (go_at_call 123; refine (less_any _ _ _).mono ?_; rintro e w' ⟨rfl, rfl⟩) | (go_at_call 124; refine (nan_sl _ _).mono ?_; rintro e w' ⟨rfl, rfl⟩))
          go_ret2
          refine ⟨?_, ⟨_, rfl⟩⟩
          rw [EP.out, E.out]
          simp [hyx]
          omega
      · have E := Lib.hid (show hasE es z = false by
          unfold hasE look
          rw [EP.out, List.getElem?_eq_none (by have := HN.out; omega)]
          rfl)
        go_wp2_with (first | (go_at_call 123; refine (less_any _ _ _).mono ?_; rintro e w' ⟨rfl, rfl⟩) | (go_at_call 124; refine (nan_sl _ _).mono ?_; rintro e w' ⟨rfl, rfl⟩))
        go_ret2
        refine ⟨?_, ⟨_, rfl⟩⟩
        rw [EP.out, E.out]
        first | rfl | simp
end Go.Proofs.YtfmkhafpbfmadaaGreat
