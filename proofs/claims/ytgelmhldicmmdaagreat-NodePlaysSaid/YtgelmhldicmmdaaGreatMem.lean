/-
  Words for memory: a slice of bytes that reads as a list of bytes, nil let in, and what keeps it. Nothing of the program is used.
  Words for structs of two and of four cells that lie in a block of their own: what is read, written, kept; a function's result that lives in such a block. Nothing of the program is used.
  Words for memory that changes in some blocks alone. Nothing of the program is used.
-/
import Derived.WalkKit
import Derived.Below
import Derived.Laws.OwnMore
import Derived.Deep.AppendLies
import Derived.Deep.Draws
import Derived.Deep.QuietTactic
import Derived.BigQuiet
import Derived.Lib.Hide
import Derived.OwnWalk
import Derived.Deep.MidRow
import Derived.Laws.ResultCell
namespace Go.Proofs.YtgelmhldicmmdaaGreat
open Go.RowKit

theorem block_of_add (a : Addr) (n : Nat) : (a.add n).block = a.block := by unfold Addr.add; split <;> rfl
theorem add_of_add (a : Addr) (i j : Nat) : (a.add i).add j = a.add (i + j) := by
  unfold Addr.add
  by_cases hi : i = 0 <;> by_cases hj : j = 0 <;> simp [hi, hj, Nat.add_assoc]

/-- The slice value '.slice A n c' holds the bytes l, and lies below block B. -/
def Byt (w : World) (B : Nat) (A : Option Addr) (n : Nat) (l : List UInt8) : Prop :=
  l.length = n ∧ n ≤ maxLen ∧ (0 < n → ∃ ad, A = some ad ∧ ad.block < B ∧ ∀ (j : Nat) (u : UInt8), l[j]? = some u → w.cell? (ad.add j) = some (.int .u8 (u.toNat : Int)))

section
variable {w w' : World} {B B' n : Nat} {A : Option Addr} {l : List UInt8}
theorem Byt.none_ : Byt w B A 0 [] := ⟨rfl, by unfold maxLen; omega, fun h => absurd h (by omega)⟩
theorem Byt.at_ {k : Nat} (h : Byt w B A n l) (hk : k < n) : ∃ (ad : Addr) (u : UInt8), A = some ad ∧ ad.block < B ∧ l[k]? = some u ∧ w.cell? (ad.add k) = some (.int .u8 (u.toNat : Int)) := by
  obtain ⟨ad, e, hb, hc⟩ := h.2.2 (by omega)
  have hl : k < l.length := by have := h.1; omega
  exact ⟨ad, l[k], e, hb, List.getElem?_eq_getElem hl, hc k _ (List.getElem?_eq_getElem hl)⟩
theorem Byt.keep (h : Byt w B A n l) (hk : ∀ p : Addr, p.block < B → w'.cell? p = w.cell? p) : Byt w' B A n l :=
  ⟨h.1, h.2.1, fun hn => by
    obtain ⟨ad, e, hb, hc⟩ := h.2.2 hn
    exact ⟨ad, e, hb, fun j u hu => (hk _ (by rw [block_of_add]; exact hb)).trans (hc j u hu)⟩⟩
theorem Byt.more (h : Byt w B A n l) (hB : B ≤ B') : Byt w B' A n l :=
  ⟨h.1, h.2.1, fun hn => by
    obtain ⟨ad, e, hb, hc⟩ := h.2.2 hn
    exact ⟨ad, e, by omega, hc⟩⟩
theorem Byt.below (h : Byt w B A n l) (hb : Below B w w') : Byt w' B A n l := h.keep fun _ hp => hb.cell hp
theorem Byt.take (h : Byt w B A n l) {k : Nat} (hk : k ≤ n) : Byt w B A k (l.take k) := by
  refine ⟨by have := h.1; simp; omega, by have := h.2.1; omega, fun hn => ?_⟩
  obtain ⟨ad, e, hb, hc⟩ := h.2.2 (by omega)
  exact ⟨ad, e, hb, fun j u hu => hc j u (by rw [List.getElem?_take] at hu; split at hu; exact hu; cases hu)⟩
theorem Byt.drew (h : Byt w B A n l) : Byt w.drew B A n l := h
theorem Byt.drewN (h : Byt w B A n l) (k : Nat) : Byt (w.drewN k) B A n l := h
theorem Byt.alloc (h : Byt w B A n l) (hB : B ≤ w.heap.size) (o : Obj) : Byt (w.alloc o) B A n l := h.keep fun p hp => World.cell?_alloc_lt w o p (by omega)
theorem Byt.setCell (h : Byt w B A n l) {p : Addr} (hB : B ≤ p.block) (u : Value) : Byt (w.setCell p u) B A n l :=
  h.keep fun q hq => World.cell?_setCell_other w p q u (fun e => by subst e; omega)
end

theorem below_drewN {B : Nat} {a w : World} (h : Below B a w) (n : Nat) : Below B a (w.drewN n) := ⟨h.os, h.tape, h.output, h.size, h.block⟩
theorem bcell {W w1 : World} (hb : Below W.heap.size W w1) : (∀ b o, b < W.heap.size → w1.cell? ⟨b, o, none⟩ = W.cell? ⟨b, o, none⟩) ∧ (∀ b o, b < W.heap.size → w1.frozen? ⟨b, o, none⟩ = W.frozen? ⟨b, o, none⟩) :=
  ⟨fun b o h => hb.cell (p := ⟨b, o, none⟩) h, fun b o h => hb.frozen (p := ⟨b, o, none⟩) h⟩
theorem ret_int {k : IntKind} {a b : Int} (h : a = b) : Ending.returned (.int k a) = .returned (.int k b) := by rw [h]
theorem ret_bool {a b : Bool} (h : a = b) : Ending.returned (.bool a) = .returned (.bool b) := by rw [h]

theorem quiet_left {P : Program} {f : FuncId} {args : Array Value} {w : World} {n : Nat} {v : Value}
    (h : Calls P f args (w.drewN n) fun e w' => e = .returned v ∧ w.drewN n = w') : Calls P f args (w.drewN n) fun e w'' => e = .returned v ∧ ∃ m, w'' = w.drewN m :=
  h.mono fun _ _ ⟨he, hm⟩ => ⟨he, n, hm.symm⟩

/-- The call only read: the world is the one before, but for draws. -/
def Still (w w' : World) : Prop := ∃ k, w' = w.drewN k
theorem Still.refl (w : World) : Still w w := ⟨0, rfl⟩
theorem Still.drewN (w : World) (k : Nat) : Still w (w.drewN k) := ⟨k, rfl⟩
theorem Still.step {a w : World} (h : Still a w) (k : Nat) : Still a (w.drewN k) := by
  obtain ⟨i, rfl⟩ := h; exact ⟨i + k, by simp⟩
theorem Still.trans {a b c : World} (h : Still a b) (k : Still b c) : Still a c := by
  obtain ⟨i, rfl⟩ := h; obtain ⟨j, rfl⟩ := k; exact ⟨i + j, by simp⟩
theorem Still.below {w w' : World} (h : Still w w') (B : Nat) : Below B w w' := by
  obtain ⟨k, rfl⟩ := h; exact below_drewN (Below.refl _ _) k

theorem quiet_st1 {P : Program} {f : FuncId} {args : Array Value} {w : World} {n : Nat} {v : Value}
    (h : Calls P f args (w.drewN n) fun e w' => e = .returned v ∧ Still (w.drewN n) w') : Calls P f args (w.drewN n) fun e w'' => e = .returned v ∧ ∃ m, w'' = w.drewN m :=
  h.mono fun _ _ ⟨he, m, hm⟩ => ⟨he, n + m, by rw [hm, World.drewN_drewN]⟩
theorem quiet_st2 {P : Program} {f : FuncId} {args : Array Value} {w : World} {a n : Nat} {v : Value}
    (h : Calls P f args (w.drewN (a + n)) fun e w' => e = .returned v ∧ Still (w.drewN (a + n)) w') : Calls P f args (w.drewN (a + n)) fun e w'' => e = .returned v ∧ ∃ m, w'' = w.drewN (a + m) :=
  h.mono fun _ _ ⟨he, m, hm⟩ => ⟨he, n + m, by rw [hm, World.drewN_drewN, Nat.add_assoc]⟩
end Go.Proofs.YtgelmhldicmmdaaGreat

namespace Go.Proofs.YtgelmhldicmmdaaGreat
open Go.RowKit

theorem results_cell1 {fn : Func} {p : Tmp} {ty : TypeId} (h : fn.results = #[.cell p ty]) (tmps : Array Value) (P : Program) (w : World) :
    (results fn tmps).run P w = ((asAddr (tmps.getD p undef)).run P w).andThen fun a w₁ => (loadVar ty a).run P w₁ := by
  simp only [results, h]
  simp [Sem.run_bind, Result.andThen]
theorem results_cell3 {fn : Func} {p u v : Tmp} {ty : TypeId} (h : fn.results = #[.cell p ty, .tmp u, .tmp v]) (tmps : Array Value) (P : Program) (w : World) :
    (results fn tmps).run P w = ((asAddr (tmps.getD p undef)).run P w).andThen fun a w₁ => ((loadVar ty a).run P w₁).andThen fun x w₂ => .ok (.tuple #[x, tmps.getD u undef, tmps.getD v undef]) w₂ := by
  simp only [results, h]
  simp [Sem.run_bind, Result.andThen]

/-- Block g holds just these cells, none frozen. -/
def Blk (w : World) (g : Nat) (cs : Array Value) : Prop := ∃ t, w.heap[g]? = some (.cells cs t (0, 0))
section
variable {w w' : World} {g B : Nat} {cs : Array Value}
theorem Blk.lt (h : Blk w g cs) : g < w.heap.size := by
  obtain ⟨t, h⟩ := h
  rcases Nat.lt_or_ge g w.heap.size with hlt | hge
  · exact hlt
  · rw [Array.getElem?_eq_none hge] at h; cases h
theorem Blk.cell (h : Blk w g cs) (i : Nat) : w.cell? ⟨g, i, none⟩ = cs[i]? := by
  obtain ⟨t, h⟩ := h
  exact cell_of_row w g i cs t (0, 0) h
theorem Blk.fz (h : Blk w g cs) (o : Nat) : w.frozen? ⟨g, o, none⟩ = false := by
  obtain ⟨t, h⟩ := h
  simp [World.frozen?, h]
theorem Blk.new (w : World) (t : TypeId) (cs : Array Value) : Blk (w.alloc (.cells cs t)) w.heap.size cs := ⟨t, heap_alloc_new w _⟩
theorem Blk.below (h : Blk w g cs) (hb : Below B w w') (hg : g < B) : Blk w' g cs := by
  obtain ⟨t, h⟩ := h
  exact ⟨t, (hb.block g hg).trans h⟩
theorem Blk.alloc (h : Blk w g cs) (o : Obj) : Blk (w.alloc o) g cs := h.below ((Below.refl w.heap.size w).alloc (Nat.le_refl _) o) h.lt
theorem Blk.drewN (h : Blk w g cs) (n : Nat) : Blk (w.drewN n) g cs := h
theorem Blk.set_ (h : Blk w g cs) (i : Nat) (v : Value) : Blk (w.setCell ⟨g, i, none⟩ v) g (cs.setIfInBounds i v) := by
  obtain ⟨t, h⟩ := h
  exact ⟨t, by simp [World.setCell, Array.getElem?_modify, h]⟩
/-- What lies in another block is elsewhere: told by the kind of a cell. -/
theorem Blk.apart (h : Blk w g cs) {ad : Addr} {v : Value} (hc : w.cell? ad = some v) (hv : v ∉ cs) : ad.block ≠ g := fun e => by
  obtain ⟨t, h⟩ := h
  unfold World.cell? at hc
  rw [e, h] at hc
  simp only at hc
  split at hc
  · cases hc
  · exact hv (Array.mem_of_getElem? hc)
theorem Blk.byt {A : Option Addr} {n : Nat} {l : List UInt8} (h : Blk w g cs) (hb : Byt w B A n l) (hv : ∀ z, .int .u8 z ∉ cs) {w'} (hk : ∀ p : Addr, p.block ≠ g → w'.cell? p = w.cell? p) : Byt w' B A n l :=
  ⟨hb.1, hb.2.1, fun hn => by
    obtain ⟨ad, e, hlt, hc⟩ := hb.2.2 hn
    refine ⟨ad, e, hlt, fun j u hu => (hk _ ?_).trans (hc j u hu)⟩
    exact h.apart (hc j u hu) (hv _)⟩
end

/-- Four cells, two cells. -/
abbrev Four (w : World) (g : Nat) (a b c d : Value) : Prop := Blk w g #[a, b, c, d]
abbrev Two (w : World) (g : Nat) (a b : Value) : Prop := Blk w g #[a, b]
section
variable {w w' : World} {g B : Nat} {a b c d : Value}
theorem Blk.c0 (h : Four w g a b c d) : w.cell? ⟨g, 0, none⟩ = some a := h.cell 0
theorem Blk.c1 (h : Four w g a b c d) : w.cell? ⟨g, 1, none⟩ = some b := h.cell 1
theorem Blk.c2 (h : Four w g a b c d) : w.cell? ⟨g, 2, none⟩ = some c := h.cell 2
theorem Blk.c3 (h : Four w g a b c d) : w.cell? ⟨g, 3, none⟩ = some d := h.cell 3
theorem Blk.k0 (h : Two w g a b) : w.cell? ⟨g, 0, none⟩ = some a := h.cell 0
theorem Blk.k1 (h : Two w g a b) : w.cell? ⟨g, 1, none⟩ = some b := h.cell 1
theorem Four.new (w : World) (t : TypeId) (a b c d : Value) : Four (w.alloc (.cells #[a, b, c, d] t)) w.heap.size a b c d := Blk.new w t _
theorem Two.new (w : World) (t : TypeId) (a b : Value) : Two (w.alloc (.cells #[a, b] t)) w.heap.size a b := Blk.new w t _
end
/-- Four stores, one a cell. -/
abbrev set4 (w : World) (g : Nat) (a b c d : Value) : World := (((w.setCell ⟨g, 0, none⟩ a).setCell ⟨g, 1, none⟩ b).setCell ⟨g, 2, none⟩ c).setCell ⟨g, 3, none⟩ d
theorem Blk.set4 {w : World} {g : Nat} {x y z t : Value} (h : Four w g x y z t) (a b c d : Value) : Four (set4 w g a b c d) g a b c d :=
  (((h.set_ 0 a).set_ 1 b).set_ 2 c).set_ 3 d
theorem below_set4 {B : Nat} {w w' : World} {g : Nat} (h : Below B w w') (hg : B ≤ g) (a b c d : Value) : Below B w (set4 w' g a b c d) :=
  (((h.setCell hg a).setCell hg b).setCell hg c).setCell hg d
theorem size_set4 (w : World) (g : Nat) (a b c d : Value) : (set4 w g a b c d).heap.size = w.heap.size := by simp [set4]
theorem cell_set4 (w : World) (g : Nat) (a b c d : Value) (p : Addr) (hp : p.block ≠ g) : (set4 w g a b c d).cell? p = w.cell? p := by
  have hne : ∀ o, (⟨g, o, none⟩ : Addr) ≠ p := fun o q => hp (by rw [← q])
  rw [World.cell?_setCell_other _ _ _ _ (hne 3), World.cell?_setCell_other _ _ _ _ (hne 2), World.cell?_setCell_other _ _ _ _ (hne 1), World.cell?_setCell_other _ _ _ _ (hne 0)]
theorem Blk.far4 {w : World} {g g' : Nat} {cs : Array Value} (h : Blk w g cs) (hg : g ≠ g') (a b c d : Value) : Blk (Go.Proofs.YtgelmhldicmmdaaGreat.set4 w g' a b c d) g cs := by
  obtain ⟨t, h⟩ := h
  refine ⟨t, ?_⟩
  rw [Below.heap_setCell _ ⟨g', 3, none⟩ _ _ hg, Below.heap_setCell _ ⟨g', 2, none⟩ _ _ hg, Below.heap_setCell _ ⟨g', 1, none⟩ _ _ hg, Below.heap_setCell _ ⟨g', 0, none⟩ _ _ hg]
  exact h
/-- A value's cells are no bytes: bytes that are there stay. -/
theorem Blk.keep4 {w : World} {g B n : Nat} {A A' : Option Addr} {n' c' : Nat} {x y : Int} {t : Bool} {l : List UInt8} (h : Four w g (.int .u64 x) (.int .i64 y) (.slice A' n' c') (.bool t)) (hb : Byt w B A n l) (a b c d : Value) : Byt (Go.Proofs.YtgelmhldicmmdaaGreat.set4 w g a b c d) B A n l :=
  h.byt hb (fun z => by simp) (fun p hp => cell_set4 w g a b c d p hp)
theorem Blk.load {P : Program} {ty : TypeId} {D : TypeDesc} (hu : P.underlying ty = some D) (hd : D.isRow = true) (hi : (P.info? ty).map (·.size) = some 4) {w : World} {g : Nat} {a b c d : Value} (h : Four w g a b c d) :
    (loadVar ty ⟨g, 0, none⟩).run P w = .ok (.agg #[a, b, c, d]) w := by
  refine run_loadVar_mid w g 0 ty [a, b, c, d] _ (fun j v hv => ?_) hu hd hi
  rw [Nat.zero_add]
  match j, hv with
  | 0, hv => simp at hv; subst hv; exact h.c0
  | 1, hv => simp at hv; subst hv; exact h.c1
  | 2, hv => simp at hv; subst hv; exact h.c2
  | 3, hv => simp at hv; subst hv; exact h.c3
end Go.Proofs.YtgelmhldicmmdaaGreat

namespace Go.Proofs.YtgelmhldicmmdaaGreat
open Go.RowKit

/-- What was there is as it was, but for the blocks in D. -/
structure Kept (D : Nat → Prop) (w w' : World) : Prop where
  os : w'.os = w.os
  tape : w'.tape = w.tape
  output : w'.output = w.output
  size : w.heap.size ≤ w'.heap.size
  block : ∀ k, k < w.heap.size → ¬ D k → w'.heap[k]? = w.heap[k]?

section
variable {D D' : Nat → Prop} {a b w w' : World} {g B : Nat} {cs : Array Value}
theorem Kept.refl (D : Nat → Prop) (w : World) : Kept D w w := ⟨rfl, rfl, rfl, Nat.le_refl _, fun _ _ _ => rfl⟩
theorem Kept.trans (h : Kept D a b) (k : Kept D b w) : Kept D a w :=
  ⟨k.os.trans h.os, k.tape.trans h.tape, k.output.trans h.output, Nat.le_trans h.size k.size, fun i hi hd => (k.block i (Nat.lt_of_lt_of_le hi h.size) hd).trans (h.block i hi hd)⟩
/-- Behind it what was not there yet may change too. -/
theorem Kept.trans' (h : Kept D a b) (k : Kept D' b w) (hd : ∀ i, i < a.heap.size → ¬ D' i) : Kept D a w :=
  ⟨k.os.trans h.os, k.tape.trans h.tape, k.output.trans h.output, Nat.le_trans h.size k.size, fun i hi hn => (k.block i (Nat.lt_of_lt_of_le hi h.size) (hd i hi)).trans (h.block i hi hn)⟩
theorem Kept.mono (h : Kept D w w') (hd : ∀ g, D g → D' g) : Kept D' w w' := ⟨h.os, h.tape, h.output, h.size, fun i hi hn => h.block i hi (fun q => hn (hd i q))⟩
/-- Blocks that were not there yet may be among those that change. -/
theorem Kept.less (h : Kept D w w') (hd : ∀ g, g < w.heap.size → D g → D' g) : Kept D' w w' := ⟨h.os, h.tape, h.output, h.size, fun i hi hn => h.block i hi (fun q => hn (hd i hi q))⟩
theorem Kept.blk (h : Kept D w w') (hb : Blk w g cs) (hg : ¬ D g) : Blk w' g cs := by
  have hl := hb.lt
  obtain ⟨t, hb⟩ := hb
  exact ⟨t, (h.block g hl hg).trans hb⟩
theorem Kept.cell (h : Kept D w w') {p : Addr} (hp : p.block < w.heap.size) (hg : ¬ D p.block) : w'.cell? p = w.cell? p := World.cell?_of_block (w := w) (h.block p.block hp hg)
theorem Kept.frozen (h : Kept D w w') {p : Addr} (hp : p.block < w.heap.size) (hg : ¬ D p.block) : w'.frozen? p = w.frozen? p := World.frozen?_of_block (w := w) (h.block p.block hp hg)
theorem Kept.set_ (w : World) (p : Addr) (v : Value) (hd : D p.block) : Kept D w (w.setCell p v) :=
  ⟨rfl, rfl, rfl, by simp [World.setCell], fun k _ hk => Below.heap_setCell _ _ _ _ (fun e => hk (e ▸ hd))⟩
theorem Kept.drew (h : Kept D a w) : Kept D a w.drew := ⟨h.os, h.tape, h.output, h.size, h.block⟩
theorem Kept.drewN (h : Kept D a w) (n : Nat) : Kept D a (w.drewN n) := ⟨h.os, h.tape, h.output, h.size, h.block⟩
theorem Kept.of_below (h : Below w.heap.size w w') : Kept D w w' := ⟨h.os, h.tape, h.output, h.size, fun k hk _ => h.block k hk⟩
theorem Kept.below (h : Kept D w w') (hB : B ≤ w.heap.size) (hd : ∀ g, D g → B ≤ g) : Below B w w' :=
  ⟨h.os, h.tape, h.output, h.size, fun k hk => h.block k (Nat.lt_of_lt_of_le hk hB) (fun q => by have := hd k q; omega)⟩
end

theorem lt_cell {w : World} {a : Addr} {v : Value} (h : w.cell? a = some v) : a.block < w.heap.size := by
  rcases Nat.lt_or_ge a.block w.heap.size with hlt | hge
  · exact hlt
  · simp [World.cell?, Array.getElem?_eq_none hge] at h
/-- One cell of the block is written. -/
theorem Blk.put {w w' : World} {g : Nat} {cs cs' : Array Value} (h : Blk w g cs) {i : Nat} {v : Value} (hw : w' = w.setCell ⟨g, i, none⟩ v) (hc : cs.setIfInBounds i v = cs') : Blk w' g cs' ∧ Kept (· = g) w w' := by
  subst hw hc
  exact ⟨h.set_ i v, Kept.set_ _ _ _ rfl⟩
end Go.Proofs.YtgelmhldicmmdaaGreat
