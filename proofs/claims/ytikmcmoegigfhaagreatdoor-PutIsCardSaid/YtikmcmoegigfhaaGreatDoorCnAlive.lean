/-
  Trees as they are asked behind each other; the tree of the two keys that every statement asks.
  The two keys that every statement asks.
-/
import Derived.Test.YtikmcmoegigfhaaGreatDoorBuild
import Derived.Test.YtikmcmoegigfhaaGreatDoorShape
namespace Go.Proofs.YtikmcmoegigfhaaGreatDoor
open Go.RowKit Go.Shelf

theorem OTre.below {w w' : World} {t : Option (Nn × Fo)} {p : Option Addr} (h : OTre w (· < w.heap.size) t p) (hb : Below w.heap.size w w') : OTre w' (· < w'.heap.size) t p := by
  cases t with
  | none => exact h
  | some xk =>
    obtain ⟨g, e, h1⟩ := h
    exact ⟨g, e, (h1.below (fun _ q => q) hb).mono (fun i hi => Nat.lt_of_lt_of_le hi hb.size)⟩
theorem OTre.mono {w : World} {S S' : Nat → Prop} {t : Option (Nn × Fo)} {p : Option Addr} (h : OTre w S t p) (hS : ∀ i, S i → S' i) : OTre w S' t p := by
  cases t with
  | none => exact h
  | some xk =>
    obtain ⟨g, e, h1⟩ := h
    exact ⟨g, e, h1.mono hS⟩
theorem OTre.here {w : World} {S : Nat → Prop} {t : Option (Nn × Fo)} {p : Option Addr} (h : OTre w S t p) : OTre w (· < w.heap.size) t p := by
  cases t with
  | none => exact h
  | some xk =>
    obtain ⟨g, e, h1⟩ := h
    exact ⟨g, e, h1.there.mono (fun i hi => hi.2)⟩
def alT : Nn × Fo := (⟨false, 1, [1], 5, true⟩, .cons 2 ⟨true, 1, [], 6, true⟩ .nil .nil)
theorem alT_is : cT 1 3 [([1], 5), ([1, 2], 6)] = alT := by rfl
theorem alT_fits : Fits (some alT) := by
  refine ⟨fun v hv => ?_, by decide⟩
  simp only [otvis, alT, tvis, Fo.vis, List.mem_cons, List.append_nil, List.nil_append, List.not_mem_nil, or_false] at hv
  rcases hv with rfl | rfl <;> simp
theorem alT_fine : (otvis (some alT)).all Vt.fine = true := by decide
theorem alT_deep : dpV (otvis (some alT)) = 2 := by decide
theorem alT_cnt : cntV (otvis (some alT)) = 2 := by decide
theorem alT_list : (listV (otvis (some alT))).length = 2 := by rfl
theorem alT_points : (pointV (otvis (some alT))).length = 1 := by rfl

end Go.Proofs.YtikmcmoegigfhaaGreatDoor

namespace Go.Proofs.YtikmcmoegigfhaaGreatDoor
open Go.RowKit Go.Shelf

theorem alT_sh : oshL (some alT) = [52, 60, 48, 49, 61, 53, 58, 48, 50, 76, 61, 54, 62] := by
  have d : ∀ n, n < 10 → Lib.decDigits n = [UInt8.ofNat (48 + n)] := fun n hn => by
    rw [Lib.decDigits]
    simp [hn]
    try omega
  simp only [oshL, alT, shL, begL, valL, endL, Fo.sh, Fo.len, if_true, Bool.false_eq_true, if_false]
  rw [show kindN (0 + 1) = 4 from rfl, show Int.toNat 5 = 5 from rfl, show Int.toNat 6 = 6 from rfl, d 4 (by omega), d 5 (by omega), d 6 (by omega)]
  decide
end Go.Proofs.YtikmcmoegigfhaaGreatDoor
