/-
  What the document's Begins (layer 1) answers: whether bytes begin with others.
-/
import Derived.Test.YtdpddkpfllioiaaDoorR1
namespace Go.Proofs.YtdpddkpfllioiaaDoor
open Go.RowKit
/-- Does it begin with it? -/
def begB (k p : List UInt8) : Bool := decide (lcp k p = p.length)
set_option maxHeartbeats 400000 in
theorem rbegins_any (A A' : Option Addr) (n n' c c' B : Nat) (l m : List UInt8) (w : World) (ha : Byt w B A n l) (hb : Byt w B A' n' m) :
    Calls Tryd.prog 27 #[.slice A n c, .slice A' n' c'] w fun e w' => e = .returned (.bool (begB l m)) ∧ Still w w' := by
  have HN' := Lib.hid hb.1
  go_enter Tryd.func27, Tryd.ntmps27
  go_wp2_with (go_at_call 42; refine (rcommon_any _ _ _ _ _ _ _ l m _ ha hb).mono ?_; rintro e w' ⟨rfl, q, rfl⟩)
  go_ret
  exact ⟨ret_bool (by unfold begB; rw [HN'.out, Bool.eq_iff_iff]; simp; omega), (by repeat (first | exact Still.refl _ | apply Still.step))⟩
end Go.Proofs.YtdpddkpfllioiaaDoor
