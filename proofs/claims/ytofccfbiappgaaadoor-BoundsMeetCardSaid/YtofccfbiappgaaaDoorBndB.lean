/-
  The yes and no of layer 7 under a name of their own.
-/
import Derived.Test.YtofccfbiappgaaaDoorBnd
import Derived.Test.YtofccfbiappgaaaDoorBndRef
import Derived.Test.YtofccfbiappgaaaDoorBndRMeet
namespace Go.Proofs.YtofccfbiappgaaaDoor
open Go.RowKit

set_option maxRecDepth 100000 in
theorem bhas_b (A A' A2 : Option Addr) (n c n' c' n2 c2 B : Nat) (f t l : List UInt8) (o b : Bool) (w : World) (hf : Byt w B A n f) (ht : Byt w B A' n' t) (hl : Byt w B A2 n2 l) (hB : B ≤ w.heap.size) (hb : hasS ⟨f, t, o⟩ l = b) :
    Calls Tryd.prog 11 #[.agg #[.slice A n c, .slice A' n' c', .bool o], .slice A2 n2 c2] w fun e w' => e = .returned (.bool b) ∧ Below w.heap.size w w' := by
  subst hb
  exact has_any A A' A2 n c n' c' n2 c2 B f t l o w hf ht hl hB
set_option maxRecDepth 100000 in
theorem empty_b (A A' : Option Addr) (n c n' c' B : Nat) (f t : List UInt8) (o b : Bool) (w : World) (hf : Byt w B A n f) (ht : Byt w B A' n' t) (hB : B ≤ w.heap.size) (hb : emptyS ⟨f, t, o⟩ = b) :
    Calls Tryd.prog 14 #[.agg #[.slice A n c, .slice A' n' c', .bool o]] w fun e w' => e = .returned (.bool b) ∧ Below w.heap.size w w' := by
  subst hb
  exact empty_any A A' n c n' c' B f t o w hf ht hB
set_option maxRecDepth 100000 in
theorem bsame_b (A A' D D' : Option Addr) (n c n' c' m d m' d' B : Nat) (f t f2 t2 : List UInt8) (o o2 b : Bool) (w : World) (hf : Byt w B A n f) (ht : Byt w B A' n' t) (hf2 : Byt w B D m f2) (ht2 : Byt w B D' m' t2) (hB : B ≤ w.heap.size) (hb : sameS ⟨f, t, o⟩ ⟨f2, t2, o2⟩ = b) :
    Calls Tryd.prog 16 #[.agg #[.slice A n c, .slice A' n' c', .bool o], .agg #[.slice D m d, .slice D' m' d', .bool o2]] w fun e w' => e = .returned (.bool b) ∧ Below w.heap.size w w' := by
  subst hb
  exact bsame_any A A' D D' n c n' c' m d m' d' B f t f2 t2 o o2 w hf ht hf2 ht2 hB
set_option maxRecDepth 100000 in
theorem rhas_b (A A' A2 : Option Addr) (n c n' c' n2 c2 B : Nat) (f t l : List UInt8) (o b : Bool) (w : World) (hf : Byt w B A n f) (ht : Byt w B A' n' t) (hl : Byt w B A2 n2 l) (hB : B ≤ w.heap.size) (hb : hasS ⟨f, t, o⟩ l = b) :
    Calls Tryd.prog 13 #[.agg #[.slice A n c, .slice A' n' c', .bool o], .slice A2 n2 c2] w fun e w' => e = .returned (.bool b) ∧ Below w.heap.size w w' := by
  subst hb
  exact rhas_any A A' A2 n c n' c' n2 c2 B f t l o w hf ht hl hB
set_option maxRecDepth 100000 in
theorem rempty_b (A A' : Option Addr) (n c n' c' B : Nat) (f t : List UInt8) (o b : Bool) (w : World) (hf : Byt w B A n f) (ht : Byt w B A' n' t) (hB : B ≤ w.heap.size) (hb : emptyS ⟨f, t, o⟩ = b) :
    Calls Tryd.prog 15 #[.agg #[.slice A n c, .slice A' n' c', .bool o]] w fun e w' => e = .returned (.bool b) ∧ Below w.heap.size w w' := by
  subst hb
  exact rempty_any A A' n c n' c' B f t o w hf ht hB
set_option maxRecDepth 100000 in
theorem rbsame_b (A A' D D' : Option Addr) (n c n' c' m d m' d' B : Nat) (f t f2 t2 : List UInt8) (o o2 b : Bool) (w : World) (hf : Byt w B A n f) (ht : Byt w B A' n' t) (hf2 : Byt w B D m f2) (ht2 : Byt w B D' m' t2) (hB : B ≤ w.heap.size) (hb : sameS ⟨f, t, o⟩ ⟨f2, t2, o2⟩ = b) :
    Calls Tryd.prog 17 #[.agg #[.slice A n c, .slice A' n' c', .bool o], .agg #[.slice D m d, .slice D' m' d', .bool o2]] w fun e w' => e = .returned (.bool b) ∧ Below w.heap.size w w' := by
  subst hb
  exact rbsame_any A A' D D' n c n' c' m d m' d' B f t f2 t2 o o2 w hf ht hf2 ht2 hB
set_option maxRecDepth 100000 in
theorem bmeet_c (A A' D D' : Option Addr) (n c n' c' m d m' d' B : Nat) (f t f2 t2 : List UInt8) (o o2 : Bool) (s : Sp) (w : World) (hf : Byt w B A n f) (ht : Byt w B A' n' t) (hf2 : Byt w B D m f2) (ht2 : Byt w B D' m' t2) (hB : B ≤ w.heap.size) (hn : n ≤ 1099511627776 ∧ n' ≤ 1099511627776 ∧ m ≤ 1099511627776 ∧ m' ≤ 1099511627776) (hs : meetS ⟨f, t, o⟩ ⟨f2, t2, o2⟩ = s) :
    Calls Tryd.prog 18 #[.agg #[.slice A n c, .slice A' n' c', .bool o], .agg #[.slice D m d, .slice D' m' d', .bool o2]] w (SpPost w s) := by
  subst hs
  exact meet_any A A' D D' n c n' c' m d m' d' B f t f2 t2 o o2 w hf ht hf2 ht2 hB hn
theorem _root_.Go.RowKit.Below.on {a b c : World} (h : Below a.heap.size a b) (k : Below b.heap.size b c) : Below a.heap.size a c := h.trans (k.mono h.size)
end Go.Proofs.YtofccfbiappgaaaDoor
