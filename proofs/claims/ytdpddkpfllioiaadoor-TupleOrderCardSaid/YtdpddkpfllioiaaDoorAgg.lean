/-
  Words for structs of two and of four cells that lie in a block of their own: what is read, written, kept; a function's result that lives in such a block. Nothing of the program is used.
-/
import Derived.Test.YtdpddkpfllioiaaDoorMem
import Derived.Deep.MidRow
import Derived.Laws.ResultCell
namespace Go.Proofs.YtdpddkpfllioiaaDoor
open Go.RowKit

theorem results_cell1 {fn : Func} {p : Tmp} {ty : TypeId} (h : fn.results = #[.cell p ty]) (tmps : Array Value) (P : Program) (w : World) :
    (results fn tmps).run P w = ((asAddr (tmps.getD p undef)).run P w).andThen fun a w₁ => (loadVar ty a).run P w₁ := by
  simp only [results, h]
  simp [Sem.run_bind, Result.andThen]
theorem results_cell3 {fn : Func} {p u v : Tmp} {ty : TypeId} (h : fn.results = #[.cell p ty, .tmp u, .tmp v]) (tmps : Array Value) (P : Program) (w : World) :
    (results fn tmps).run P w = ((asAddr (tmps.getD p undef)).run P w).andThen fun a w₁ => ((loadVar ty a).run P w₁).andThen fun x w₂ => .ok (.tuple #[x, tmps.getD u undef, tmps.getD v undef]) w₂ := by
  simp only [results, h]
  simp [Sem.run_bind, Result.andThen]

/-- Block g holds just these cells, none frozen. -/
def Blk (w : World) (g : Nat) (cs : Array Value) : Prop := ∃ t, w.heap[g]? = some (.cells cs t (0, 0))
section
variable {w w' : World} {g B : Nat} {cs : Array Value}
theorem Blk.lt (h : Blk w g cs) : g < w.heap.size := by
  obtain ⟨t, h⟩ := h
  rcases Nat.lt_or_ge g w.heap.size with hlt | hge
  · exact hlt
  · rw [Array.getElem?_eq_none hge] at h; cases h
theorem Blk.cell (h : Blk w g cs) (i : Nat) : w.cell? ⟨g, i, none⟩ = cs[i]? := by
  obtain ⟨t, h⟩ := h
  exact cell_of_row w g i cs t (0, 0) h
theorem Blk.fz (h : Blk w g cs) (o : Nat) : w.frozen? ⟨g, o, none⟩ = false := by
  obtain ⟨t, h⟩ := h
  simp [World.frozen?, h]
theorem Blk.new (w : World) (t : TypeId) (cs : Array Value) : Blk (w.alloc (.cells cs t)) w.heap.size cs := ⟨t, heap_alloc_new w _⟩
theorem Blk.below (h : Blk w g cs) (hb : Below B w w') (hg : g < B) : Blk w' g cs := by
  obtain ⟨t, h⟩ := h
  exact ⟨t, (hb.block g hg).trans h⟩
theorem Blk.alloc (h : Blk w g cs) (o : Obj) : Blk (w.alloc o) g cs := h.below ((Below.refl w.heap.size w).alloc (Nat.le_refl _) o) h.lt
theorem Blk.drewN (h : Blk w g cs) (n : Nat) : Blk (w.drewN n) g cs := h
theorem Blk.set_ (h : Blk w g cs) (i : Nat) (v : Value) : Blk (w.setCell ⟨g, i, none⟩ v) g (cs.setIfInBounds i v) := by
  obtain ⟨t, h⟩ := h
  exact ⟨t, by simp [World.setCell, Array.getElem?_modify, h]⟩
/-- What lies in another block is elsewhere: told by the kind of a cell. -/
theorem Blk.apart (h : Blk w g cs) {ad : Addr} {v : Value} (hc : w.cell? ad = some v) (hv : v ∉ cs) : ad.block ≠ g := fun e => by
  obtain ⟨t, h⟩ := h
  unfold World.cell? at hc
  rw [e, h] at hc
  simp only at hc
  split at hc
  · cases hc
  · exact hv (Array.mem_of_getElem? hc)
theorem Blk.byt {A : Option Addr} {n : Nat} {l : List UInt8} (h : Blk w g cs) (hb : Byt w B A n l) (hv : ∀ z, .int .u8 z ∉ cs) {w'} (hk : ∀ p : Addr, p.block ≠ g → w'.cell? p = w.cell? p) : Byt w' B A n l :=
  ⟨hb.1, hb.2.1, fun hn => by
    obtain ⟨ad, e, hlt, hc⟩ := hb.2.2 hn
    refine ⟨ad, e, hlt, fun j u hu => (hk _ ?_).trans (hc j u hu)⟩
    exact h.apart (hc j u hu) (hv _)⟩
end

/-- Four cells, two cells. -/
abbrev Four (w : World) (g : Nat) (a b c d : Value) : Prop := Blk w g #[a, b, c, d]
abbrev Two (w : World) (g : Nat) (a b : Value) : Prop := Blk w g #[a, b]
section
variable {w w' : World} {g B : Nat} {a b c d : Value}
theorem Blk.c0 (h : Four w g a b c d) : w.cell? ⟨g, 0, none⟩ = some a := h.cell 0
theorem Blk.c1 (h : Four w g a b c d) : w.cell? ⟨g, 1, none⟩ = some b := h.cell 1
theorem Blk.c2 (h : Four w g a b c d) : w.cell? ⟨g, 2, none⟩ = some c := h.cell 2
theorem Blk.c3 (h : Four w g a b c d) : w.cell? ⟨g, 3, none⟩ = some d := h.cell 3
theorem Blk.k0 (h : Two w g a b) : w.cell? ⟨g, 0, none⟩ = some a := h.cell 0
theorem Blk.k1 (h : Two w g a b) : w.cell? ⟨g, 1, none⟩ = some b := h.cell 1
theorem Four.new (w : World) (t : TypeId) (a b c d : Value) : Four (w.alloc (.cells #[a, b, c, d] t)) w.heap.size a b c d := Blk.new w t _
theorem Two.new (w : World) (t : TypeId) (a b : Value) : Two (w.alloc (.cells #[a, b] t)) w.heap.size a b := Blk.new w t _
end
/-- Four stores, one a cell. -/
abbrev set4 (w : World) (g : Nat) (a b c d : Value) : World := (((w.setCell ⟨g, 0, none⟩ a).setCell ⟨g, 1, none⟩ b).setCell ⟨g, 2, none⟩ c).setCell ⟨g, 3, none⟩ d
theorem Blk.set4 {w : World} {g : Nat} {x y z t : Value} (h : Four w g x y z t) (a b c d : Value) : Four (set4 w g a b c d) g a b c d :=
  (((h.set_ 0 a).set_ 1 b).set_ 2 c).set_ 3 d
theorem below_set4 {B : Nat} {w w' : World} {g : Nat} (h : Below B w w') (hg : B ≤ g) (a b c d : Value) : Below B w (set4 w' g a b c d) :=
  (((h.setCell hg a).setCell hg b).setCell hg c).setCell hg d
theorem size_set4 (w : World) (g : Nat) (a b c d : Value) : (set4 w g a b c d).heap.size = w.heap.size := by simp [set4]
theorem cell_set4 (w : World) (g : Nat) (a b c d : Value) (p : Addr) (hp : p.block ≠ g) : (set4 w g a b c d).cell? p = w.cell? p := by
  have hne : ∀ o, (⟨g, o, none⟩ : Addr) ≠ p := fun o q => hp (by rw [← q])
  rw [World.cell?_setCell_other _ _ _ _ (hne 3), World.cell?_setCell_other _ _ _ _ (hne 2), World.cell?_setCell_other _ _ _ _ (hne 1), World.cell?_setCell_other _ _ _ _ (hne 0)]
theorem Blk.far4 {w : World} {g g' : Nat} {cs : Array Value} (h : Blk w g cs) (hg : g ≠ g') (a b c d : Value) : Blk (Go.Proofs.YtdpddkpfllioiaaDoor.set4 w g' a b c d) g cs := by
  obtain ⟨t, h⟩ := h
  refine ⟨t, ?_⟩
  rw [Below.heap_setCell _ ⟨g', 3, none⟩ _ _ hg, Below.heap_setCell _ ⟨g', 2, none⟩ _ _ hg, Below.heap_setCell _ ⟨g', 1, none⟩ _ _ hg, Below.heap_setCell _ ⟨g', 0, none⟩ _ _ hg]
  exact h
/-- A value's cells are no bytes: bytes that are there stay. -/
theorem Blk.keep4 {w : World} {g B n : Nat} {A A' : Option Addr} {n' c' : Nat} {x y : Int} {t : Bool} {l : List UInt8} (h : Four w g (.int .u64 x) (.int .i64 y) (.slice A' n' c') (.bool t)) (hb : Byt w B A n l) (a b c d : Value) : Byt (Go.Proofs.YtdpddkpfllioiaaDoor.set4 w g a b c d) B A n l :=
  h.byt hb (fun z => by simp) (fun p hp => cell_set4 w g a b c d p hp)
theorem Blk.load {P : Program} {ty : TypeId} {D : TypeDesc} (hu : P.underlying ty = some D) (hd : D.isRow = true) (hi : (P.info? ty).map (·.size) = some 4) {w : World} {g : Nat} {a b c d : Value} (h : Four w g a b c d) :
    (loadVar ty ⟨g, 0, none⟩).run P w = .ok (.agg #[a, b, c, d]) w := by
  refine run_loadVar_mid w g 0 ty [a, b, c, d] _ (fun j v hv => ?_) hu hd hi
  rw [Nat.zero_add]
  match j, hv with
  | 0, hv => simp at hv; subst hv; exact h.c0
  | 1, hv => simp at hv; subst hv; exact h.c1
  | 2, hv => simp at hv; subst hv; exact h.c2
  | 3, hv => simp at hv; subst hv; exact h.c3
end Go.Proofs.YtdpddkpfllioiaaDoor
