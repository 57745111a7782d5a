/-
  What the statements' own same answers of values that are the same: yes.
-/
import Derived.Test.YtdpddkpfllioiaaDoorTupleTab
import Derived.BigQuiet
namespace Go.Proofs.YtdpddkpfllioiaaDoor
open Go.RowKit

theorem rsame_self (A A' : Option Addr) (n n' c c' B : Nat) (l : List UInt8) (w : World) (ha : Byt w B A n l) (hb : Byt w B A' n' l) :
    Calls Tryd.prog 15 #[.slice A n c, .slice A' n' c'] w fun e w' => e = .returned (.bool true) ∧ Still w w' := by
  have q := rsame_any A A' n n' c c' B l l w ha hb
  rw [show sameB l l = true from by simp [sameB]] at q
  exact q

set_option maxRecDepth 100000 in
set_option maxHeartbeats 4000000 in
theorem tsame_yes (A A' : Option Addr) (n n' c c' B : Nat) (vs : List Vl) (w : World) (ha : Vls w B A n vs) (hb : Vls w B A' n' vs) :
    Calls Tryd.prog 20 #[.slice A n c, .slice A' n' c'] w fun e w' => e = .returned (.bool true) ∧ Still w w' := by
  obtain rfl : n = n' := by rw [← ha.length, ← hb.length]
  have hm : n ≤ 9223372036854775807 := by obtain ⟨_, q, _⟩ := ha; have := q.2.1; unfold maxLen at this; omega
  have HA := Lib.hid (And.intro ha hb)
  clear ha hb
  go_enter Tryd.func20, Tryd.ntmps20
  go_wp2
  go_loopw [13] (fun i wr => ∃ k : Nat, k ≤ n ∧ i = .int .i64 k ∧ Still w wr) (fun i _ => n - (intOf i).toNat)
  case atStart => exact ⟨0, Nat.zero_le _, rfl, Still.refl _⟩
  case round =>
    obtain ⟨k, hk, rfl, q, rfl⟩ := hrel
    by_cases h1 : k < n
    · obtain ⟨ad, v, A1, m1, p1, rfl, _, hv, c0, c1, c2, c3, hy, _⟩ := HA.out.1.at_ h1
      obtain ⟨ad', v', A2, m2, p2, rfl, _, hv', d0, d1, d2, d3, hy', _⟩ := HA.out.2.at_ h1
      obtain rfl : v = v' := by rw [hv] at hv'; exact Option.some.inj hv'
      have HY := Lib.hid (And.intro hy hy')
      clear hv hv' hy hy'
      have i4 : (k : Int) < (n : Int) := by omega
      go_wp2_with fail
      go_quiet ((go_at_call 15; exact quiet_st2 (rsame_self _ _ _ _ _ _ B v.l _ (HY.out.1.drewN _) (HY.out.2.drewN _))))
      go_wp2
      exact ⟨⟨k + 1, by omega, by go_num, (by repeat (first | exact Still.refl _ | apply Still.step))⟩, by simp [intOf]; omega⟩
    · go_wp2
      go_ret
      exact ⟨rfl, (by repeat (first | exact Still.refl _ | apply Still.step))⟩
end Go.Proofs.YtdpddkpfllioiaaDoor
