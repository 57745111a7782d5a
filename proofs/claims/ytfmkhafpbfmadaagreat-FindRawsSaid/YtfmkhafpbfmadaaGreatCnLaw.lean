/-
  Layer 13's own far, pairs, same.
-/
import Derived.Test.YtfmkhafpbfmadaaGreatPRow
import Derived.Test.YtfmkhafpbfmadaaGreatText
import Derived.Test.YtfmkhafpbfmadaaGreatCanRead
import Derived.Test.YtfmkhafpbfmadaaGreatCanon
namespace Go.Proofs.YtfmkhafpbfmadaaGreat
open Go.RowKit

def farP (ps : List PV) (many : Nat) : Bool := decide (many < ps.length) || ps.any fun p => decide (300 < p.key.length)
set_option maxRecDepth 100000 in
theorem rsame_me (A A' : Option Addr) (n n' c c' B : Nat) (l : List UInt8) (w : World) (ha : Byt w B A n l) (hb : Byt w B A' n' l) :
    Calls Tryz.prog 18 #[.slice A n c, .slice A' n' c'] w fun e w' => e = .returned (.bool true) ∧ Still w w' := by
  have h := rsame_any A A' n n' c c' B l l w ha hb
  rwa [show sameB l l = true from decide_eq_true rfl] at h
abbrev kvP (p : PV) : KV := (p.key, p.val)
end Go.Proofs.YtfmkhafpbfmadaaGreat
