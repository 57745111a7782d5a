/-
  Words for memory of layer 7: structs of three cells, a span's value; a function that tells whether keys stand ahead of one.
-/
import Derived.Test.YtofccfbiappgaaaDoorBndPure
import Derived.Test.YtofccfbiappgaaaDoorMem
import Derived.Test.YtofccfbiappgaaaDoorKeys
namespace Go.Proofs.YtofccfbiappgaaaDoor
open Go.RowKit

abbrev Three (w : World) (g : Nat) (a b c : Value) : Prop := Blk w g #[a, b, c]
section
variable {w w' : World} {g B : Nat} {a b c : Value}
theorem Blk.t0 (h : Three w g a b c) : w.cell? ⟨g, 0, none⟩ = some a := h.cell 0
theorem Blk.t1 (h : Three w g a b c) : w.cell? ⟨g, 1, none⟩ = some b := h.cell 1
theorem Blk.t2 (h : Three w g a b c) : w.cell? ⟨g, 2, none⟩ = some c := h.cell 2
theorem Three.new (w : World) (t : TypeId) (a b c : Value) : Three (w.alloc (.cells #[a, b, c] t)) w.heap.size a b c := Blk.new w t _
end
/-- Three stores, one a cell. -/
abbrev set3 (w : World) (g : Nat) (a b c : Value) : World := ((w.setCell ⟨g, 0, none⟩ a).setCell ⟨g, 1, none⟩ b).setCell ⟨g, 2, none⟩ c
theorem Blk.set3 {w : World} {g : Nat} {x y z : Value} (h : Three w g x y z) (a b c : Value) : Three (set3 w g a b c) g a b c := ((h.set_ 0 a).set_ 1 b).set_ 2 c
theorem below_set3 {B : Nat} {w w' : World} {g : Nat} (h : Below B w w') (hg : B ≤ g) (a b c : Value) : Below B w (set3 w' g a b c) := ((h.setCell hg a).setCell hg b).setCell hg c
theorem size_set3 (w : World) (g : Nat) (a b c : Value) : (set3 w g a b c).heap.size = w.heap.size := by simp [set3]
theorem cell_set3 (w : World) (g : Nat) (a b c : Value) (p : Addr) (hp : p.block ≠ g) : (set3 w g a b c).cell? p = w.cell? p := by
  have hne : ∀ o, (⟨g, o, none⟩ : Addr) ≠ p := fun o q => hp (by rw [← q])
  rw [World.cell?_setCell_other _ _ _ _ (hne 2), World.cell?_setCell_other _ _ _ _ (hne 1), World.cell?_setCell_other _ _ _ _ (hne 0)]
theorem Blk.far3 {w : World} {g g' : Nat} {cs : Array Value} (h : Blk w g cs) (hg : g ≠ g') (a b c : Value) : Blk (Go.Proofs.YtofccfbiappgaaaDoor.set3 w g' a b c) g cs := by
  obtain ⟨t, h⟩ := h
  refine ⟨t, ?_⟩
  rw [Below.heap_setCell _ ⟨g', 2, none⟩ _ _ hg, Below.heap_setCell _ ⟨g', 1, none⟩ _ _ hg, Below.heap_setCell _ ⟨g', 0, none⟩ _ _ hg]
  exact h
/-- A span's cells are no bytes: bytes that are there stay. -/
theorem Blk.keep3 {w : World} {g B n : Nat} {A A' A'' : Option Addr} {n' c' n'' c'' : Nat} {t : Bool} {l : List UInt8} (h : Three w g (.slice A' n' c') (.slice A'' n'' c'') (.bool t)) (hb : Byt w B A n l) (a b c : Value) : Byt (Go.Proofs.YtofccfbiappgaaaDoor.set3 w g a b c) B A n l :=
  h.byt hb (fun z => by simp) (fun p hp => cell_set3 w g a b c p hp)
theorem Blk.load3 {P : Program} {ty : TypeId} {D : TypeDesc} (hu : P.underlying ty = some D) (hd : D.isRow = true) (hi : (P.info? ty).map (·.size) = some 3) {w : World} {g : Nat} {a b c : Value} (h : Three w g a b c) :
    (loadVar ty ⟨g, 0, none⟩).run P w = .ok (.agg #[a, b, c]) w := by
  refine run_loadVar_mid w g 0 ty [a, b, c] _ (fun j v hv => ?_) hu hd hi
  rw [Nat.zero_add]
  match j, hv with
  | 0, hv => simp at hv; subst hv; exact h.t0
  | 1, hv => simp at hv; subst hv; exact h.t1
  | 2, hv => simp at hv; subst hv; exact h.t2
/-- A span's value. -/
abbrev spv (A : Option Addr) (n c : Nat) (A' : Option Addr) (n' c' : Nat) (o : Bool) : Value := .agg #[.slice A n c, .slice A' n' c', .bool o]
/-- What is left where a span is handed back. -/
def SpPost (w : World) (s : Sp) (e : Ending) (w' : World) : Prop := ∃ A n c A' n' c', e = .returned (.agg #[.slice A n c, .slice A' n' c', .bool s.o]) ∧ Byt w' w'.heap.size A n s.f ∧ Byt w' w'.heap.size A' n' s.t ∧ Below w.heap.size w w'
/-- And where an error goes with it. -/
def SpEPost (w : World) (s : Sp) (er : Int) (e : Ending) (w' : World) : Prop := ∃ A n c A' n' c', e = .returned (.tuple #[.agg #[.slice A n c, .slice A' n' c', .bool s.o], .int .i64 er]) ∧ Byt w' w'.heap.size A n s.f ∧ Byt w' w'.heap.size A' n' s.t ∧ Below w.heap.size w w'

set_option maxRecDepth 100000 in
theorem ahead_any (A : Option Addr) (n c : Nat) (w : World) :
    Calls Tryd.prog 33 #[.slice A n c] w fun e w' => e = .returned (.func (.func 42) #[] #[.pointer (some ⟨w.heap.size, 0, none⟩)]) ∧ w'.cell? ⟨w.heap.size, 0, none⟩ = some (.slice A n c) ∧ Below w.heap.size w w' := by
  have hmf : ∀ (fn : Fn) (first cap : Array Value) (w : World), (Instr.makeFunc fn first cap).run Tryd.prog w = .ok (.func fn first cap) w := fun _ _ _ _ => rfl
  go_enter Tryd.func33, Tryd.ntmps33
  go_wp2
  go_ret
  exact ⟨rfl, (Blk.new w 22 #[.slice A n c]).cell 0, (Below.refl _ _).alloc (Nat.le_refl _) _⟩
set_option maxRecDepth 100000 in
theorem ahead1_any (A A' : Option Addr) (n c n' c' B g : Nat) (l k : List UInt8) (b : Bool) (w : World) (ha : Byt w B A n l) (hk : Byt w B A' n' k) (hg : w.cell? ⟨g, 0, none⟩ = some (.slice A' n' c')) (hb : decide (cmpL l k < 0) = b) :
    Calls Tryd.prog 42 #[.slice A n c, .pointer (some ⟨g, 0, none⟩)] w fun e w' => e = .returned (.bool b) ∧ Still w w' := by
  subst hb
  go_enter Tryd.func42, Tryd.ntmps42
  go_wp2_with fail
  (with_reducible refine (cmp_any A A' n n' c c' B l k _ ha hk).mono ?_)
  rintro e w1 ⟨rfl, q, rfl⟩
  go_wp2
  go_ret
  exact ⟨rfl, Still.drewN _ _⟩
end Go.Proofs.YtofccfbiappgaaaDoor
