/-
  What tuple.Check and the document's Check answer.
-/
import Derived.Test.YtdpddkpfllioiaaDoorTupleMem
import Derived.Test.YtdpddkpfllioiaaDoorField
namespace Go.Proofs.YtdpddkpfllioiaaDoor
open Go.RowKit

set_option maxRecDepth 100000 in
set_option maxHeartbeats 1000000 in
theorem tcheck_any (A : Option Addr) (n c B : Nat) (fs : List Fd) (w : World) (ha : Fds w B A n fs) (hB : B ≤ w.heap.size) :
    Calls Tryd.prog 16 #[.slice A n c] w fun e w' => e = .returned (.int .i64 (chkL fs)) ∧ Below w.heap.size w w' := by
  have HN := Lib.hid ha.length
  have HA := Lib.hid (fun V (h : Below w.heap.size w V) => (ha.more hB).below h)
  have hm : n ≤ 9223372036854775807 := by have := ha.2.1; unfold maxLen at this; omega
  clear ha
  by_cases hg : 255 < n
  · go_enter Tryd.func16, Tryd.ntmps16
    go_wp2
    go_ret
    exact ⟨ret_int (chkL_many (by rw [HN.out]; exact hg)).symm, Below.refl _ _⟩
  · go_enter Tryd.func16, Tryd.ntmps16
    go_wp2
    go_loopw [11] (fun i wr => ∃ k : Nat, k ≤ n ∧ i = .int .i64 k ∧ Hid (∀ (j : Nat) (f : Fd), j < k → fs[j]? = some f → 1 ≤ f.k ∧ f.k ≤ 10) ∧ Hid (Below w.heap.size w wr)) (fun i _ => n - (intOf i).toNat)
    case atStart => exact ⟨0, Nat.zero_le _, rfl, fun j f hj => by omega, Below.refl _ _⟩
    case round =>
      obtain ⟨k, hk, rfl, HO, HB⟩ := hrel
      by_cases h1 : k < n
      · obtain ⟨ad, f, rfl, hlt, hf, c0, c1⟩ := (HA.out _ HB.out).at_ h1
        have HF := Lib.hid hf
        clear hf
        go_wp2_with fail
        (with_reducible refine (check_any f.k f.f _).mono ?_)
        rintro e w1 ⟨rfl, h2⟩
        have B2 := Lib.hid ((HB.out.alloc HB.out.size _).trans (h2.mono (by have := HB.out.size; simp; omega)))
        clear h2 c0 c1
        by_cases hf : 1 ≤ f.k ∧ f.k ≤ 10
        · rw [show chk f.k = 0 from if_pos hf]
          go_wp2
          exact ⟨⟨k + 1, by omega, by go_num, fun j g hj hg => by
            by_cases e : j = k
            · subst e; rw [HF.out] at hg; injection hg with hg; subst hg; exact hf
            · exact HO.out j g (by omega) hg, B2⟩, by simp [intOf]; omega⟩
        · rw [show chk f.k = 9 from if_neg hf]
          go_wp2
          go_ret
          exact ⟨ret_int (chkL_bad (by rw [HN.out]; exact hg) HF.out hf).symm, B2.out⟩
      · go_wp2
        go_ret
        exact ⟨ret_int (chkL_ok (by rw [HN.out]; exact hg) (fun j f hj hf => HO.out j f (by have := HN.out; omega) hf)).symm, HB.out⟩
set_option maxRecDepth 100000 in
set_option maxHeartbeats 1000000 in
theorem rtcheck_any (A : Option Addr) (n c B : Nat) (fs : List Fd) (w : World) (ha : Fds w B A n fs) :
    Calls Tryd.prog 17 #[.slice A n c] w fun e w' => e = .returned (.int .i64 (chkL fs)) ∧ Still w w' := by
  have HN := Lib.hid ha.length
  have HA := Lib.hid ha
  have hm : n ≤ 9223372036854775807 := by have := ha.2.1; unfold maxLen at this; omega
  clear ha
  by_cases hg : 255 < n
  · go_enter Tryd.func17, Tryd.ntmps17
    go_wp2
    go_ret
    exact ⟨ret_int (chkL_many (by rw [HN.out]; exact hg)).symm, Still.refl _⟩
  · go_enter Tryd.func17, Tryd.ntmps17
    go_wp2
    go_loopw [3] (fun i wr => ∃ k : Nat, k ≤ n ∧ i = .int .i64 k ∧ Hid (∀ (j : Nat) (f : Fd), j < k → fs[j]? = some f → 1 ≤ f.k ∧ f.k ≤ 10) ∧ Still w wr) (fun i _ => n - (intOf i).toNat)
    case atStart => exact ⟨0, Nat.zero_le _, rfl, fun j f hj => by omega, Still.refl _⟩
    case round =>
      obtain ⟨k, hk, rfl, HO, q, rfl⟩ := hrel
      by_cases h1 : k < n
      · obtain ⟨ad, f, rfl, hlt, hf, c0, c1⟩ := HA.out.at_ h1
        have HF := Lib.hid hf
        clear hf
        have d0 : (k : Int) < (n : Int) := by omega
        by_cases hf : 1 ≤ f.k ∧ f.k ≤ 10
        · have e1 : ¬ f.k < 1 := by omega
          have e2 : ¬ 10 < f.k := by omega
          go_wp2
          exact ⟨⟨k + 1, by omega, by go_num, fun j g hj hg => by
            by_cases e : j = k
            · subst e; rw [HF.out] at hg; injection hg with hg; subst hg; exact hf
            · exact HO.out j g (by omega) hg, (by repeat (first | exact Still.drewN _ _ | exact Still.refl _ | apply Still.step))⟩, by simp [intOf]; omega⟩
        · by_cases e1 : f.k < 1
          · go_wp2
            go_ret
            exact ⟨ret_int (chkL_bad (by rw [HN.out]; exact hg) HF.out hf).symm, (by repeat (first | exact Still.drewN _ _ | exact Still.refl _ | apply Still.step))⟩
          · have e2 : 10 < f.k := by omega
            go_wp2
            go_ret
            exact ⟨ret_int (chkL_bad (by rw [HN.out]; exact hg) HF.out hf).symm, (by repeat (first | exact Still.drewN _ _ | exact Still.refl _ | apply Still.step))⟩
      · go_wp2
        go_ret
        exact ⟨ret_int (chkL_ok (by rw [HN.out]; exact hg) (fun j f hj hf => HO.out j f (by have := HN.out; omega) hf)).symm, Still.drewN _ _⟩
end Go.Proofs.YtdpddkpfllioiaaDoor
