/-
  The two keys that each statement of put asks. No program is run.
-/
import Derived.Test.YtikmcmoegigfhaaGreatDoorPutC
namespace Go.Proofs.YtikmcmoegigfhaaGreatDoor
open Go.RowKit

theorem alP_sh : oshL (some (lfP 3 5 [1, 2], .nil)) = [76, 48, 49, 48, 50, 61, 53] := by
  have d : ∀ n, n < 10 → Lib.decDigits n = [UInt8.ofNat (48 + n)] := fun n hn => by
    rw [Lib.decDigits]
    simp [hn]
    try omega
  simp only [oshL, lfP, shL, begL, valL, endL, Fo.sh, Fo.len, if_true]
  rw [show Int.toNat 5 = 5 from rfl, d 5 (by omega)]
  decide
def alQ : Nn × Fo := (⟨false, 4, [1], 0, false⟩, .cons 2 ⟨true, 4, [], 5, true⟩ .nil (.cons 4 ⟨true, 4, [], 6, true⟩ .nil .nil))
theorem alQ_put : tputs 4 6 (lfP 3 5 [1, 2], .nil) [1, 4] = alQ := by
  unfold tputs
  rw [if_neg (by simp [lfP, tlist, Fo.list])]
  rfl
theorem alQ_sh : oshL (some alQ) = [52, 60, 48, 49, 58, 48, 50, 76, 61, 53, 58, 48, 52, 76, 61, 54, 62] := by
  have d : ∀ n, n < 10 → Lib.decDigits n = [UInt8.ofNat (48 + n)] := fun n hn => by
    rw [Lib.decDigits]
    simp [hn]
    try omega
  simp only [oshL, alQ, shL, begL, valL, endL, Fo.sh, Fo.len, if_true, Bool.false_eq_true, if_false]
  rw [show kindN (0 + 1 + 1) = 4 from rfl, show Int.toNat 5 = 5 from rfl, show Int.toNat 6 = 6 from rfl, d 4 (by omega), d 5 (by omega), d 6 (by omega)]
  decide
theorem alP_can : Can [⟨none, 0, 0, [1, 2], 5⟩] (lfP 3 5 [1, 2], .nil) := Can.leaf 3 ⟨none, 0, 0, [1, 2], 5⟩
theorem alP_ok : ook (some (lfP 3 5 [1, 2], .nil)) := ⟨⟨by decide, by decide, by decide⟩, trivial⟩
theorem alQ_ok : ook (some alQ) := ⟨⟨by decide, by decide, by decide⟩, ⟨by decide, by decide, by decide⟩, trivial, ⟨by decide, by decide, by decide⟩, trivial, trivial⟩
end Go.Proofs.YtikmcmoegigfhaaGreatDoor
