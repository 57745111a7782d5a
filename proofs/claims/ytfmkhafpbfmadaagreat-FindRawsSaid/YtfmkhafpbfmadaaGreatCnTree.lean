/-
  Trees as they are asked behind each other; the tree of the two keys that every statement asks.
-/
import Derived.Test.YtfmkhafpbfmadaaGreatBuild
namespace Go.Proofs.YtfmkhafpbfmadaaGreat
open Go.RowKit Go.Shelf

theorem OTre.below {w w' : World} {t : Option (Nn × Fo)} {p : Option Addr} (h : OTre w (· < w.heap.size) t p) (hb : Below w.heap.size w w') : OTre w' (· < w'.heap.size) t p := by
  cases t with
  | none => exact h
  | some xk =>
    obtain ⟨g, e, h1⟩ := h
    exact ⟨g, e, (h1.below (fun _ q => q) hb).mono (fun i hi => Nat.lt_of_lt_of_le hi hb.size)⟩
theorem OTre.mono {w : World} {S S' : Nat → Prop} {t : Option (Nn × Fo)} {p : Option Addr} (h : OTre w S t p) (hS : ∀ i, S i → S' i) : OTre w S' t p := by
  cases t with
  | none => exact h
  | some xk =>
    obtain ⟨g, e, h1⟩ := h
    exact ⟨g, e, h1.mono hS⟩
theorem OTre.here {w : World} {S : Nat → Prop} {t : Option (Nn × Fo)} {p : Option Addr} (h : OTre w S t p) : OTre w (· < w.heap.size) t p := by
  cases t with
  | none => exact h
  | some xk =>
    obtain ⟨g, e, h1⟩ := h
    exact ⟨g, e, h1.there.mono (fun i hi => hi.2)⟩
def alT : Nn × Fo := (⟨false, 1, [1], 5, true⟩, .cons 2 ⟨true, 1, [], 6, true⟩ .nil .nil)
theorem alT_is : cT 1 3 [([1], 5), ([1, 2], 6)] = alT := by rfl
theorem alT_fits : Fits (some alT) := by
  refine ⟨fun v hv => ?_, by decide⟩
  simp only [otvis, alT, tvis, Fo.vis, List.mem_cons, List.append_nil, List.nil_append, List.not_mem_nil, or_false] at hv
  rcases hv with rfl | rfl <;> simp
theorem alT_fine : (otvis (some alT)).all Vt.fine = true := by decide
theorem alT_deep : dpV (otvis (some alT)) = 2 := by decide
theorem alT_cnt : cntV (otvis (some alT)) = 2 := by decide
theorem alT_list : (listV (otvis (some alT))).length = 2 := by rfl
theorem alT_points : (pointV (otvis (some alT))).length = 1 := by rfl

end Go.Proofs.YtfmkhafpbfmadaaGreat
