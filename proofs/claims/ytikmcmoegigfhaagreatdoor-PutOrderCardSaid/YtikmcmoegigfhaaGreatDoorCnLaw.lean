/-
  Layer 13's own far, pairs, same.
-/
import Derived.Test.YtikmcmoegigfhaaGreatDoorPRow
import Derived.Test.YtikmcmoegigfhaaGreatDoorText
import Derived.Test.YtikmcmoegigfhaaGreatDoorCanRead
import Derived.Test.YtikmcmoegigfhaaGreatDoorCanon
namespace Go.Proofs.YtikmcmoegigfhaaGreatDoor
open Go.RowKit

def farP (ps : List PV) (many : Nat) : Bool := decide (many < ps.length) || ps.any fun p => decide (300 < p.key.length)
set_option maxRecDepth 100000 in
theorem rsame_me (A A' : Option Addr) (n n' c c' B : Nat) (l : List UInt8) (w : World) (ha : Byt w B A n l) (hb : Byt w B A' n' l) :
    Calls Tryz.prog 21 #[.slice A n c, .slice A' n' c'] w fun e w' => e = .returned (.bool true) ∧ Still w w' := by
  have h := rsame_any A A' n n' c c' B l l w ha hb
  rwa [show sameB l l = true from decide_eq_true rfl] at h
abbrev kvP (p : PV) : KV := (p.key, p.val)
end Go.Proofs.YtikmcmoegigfhaaGreatDoor
