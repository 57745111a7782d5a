/-
  Words for memory: a slice of bytes that reads as a list of bytes, nil let in, and what keeps it. Nothing of the program is used.
  Words for structs of two and of four cells that lie in a block of their own: what is read, written, kept; a function's result that lives in such a block. Nothing of the program is used.
  Words for memory that changes in some blocks alone. Nothing of the program is used.
  Words for blocks whose cells are told as a list: what is read, written at many places at once, made. Nothing of the program is used.
  Words for memory that a call makes: a block that holds just the bytes l, make, copy, a store; append onto a row of the call's own. Nothing of the program is used.
  More words for memory: the bytes' type, a slice's end as one run equation, make with room, what a call leaves that hands back bytes.
-/
import Derived.WalkKit
import Derived.Below
import Derived.Laws.OwnMore
import Derived.Deep.AppendLies
import Derived.Deep.Draws
import Derived.Deep.QuietTactic
import Derived.BigQuiet
import Derived.Lib.Hide
import Derived.OwnWalk
import Derived.Deep.MidRow
import Derived.Laws.ResultCell
import Derived.Deep.RegionLaw
import Derived.Laws.IdiomCopy
import Derived.Laws.CopyOwn
import Derived.Laws.MakeOwn
import Derived.Maps.AppendAt
import Derived.RegionTactic
import Derived.Test.YtajpipaooaemdaaGreatDoorChecked
namespace Go.Proofs.YtajpipaooaemdaaGreatDoor
open Go.RowKit

theorem block_of_add (a : Addr) (n : Nat) : (a.add n).block = a.block := by unfold Addr.add; split <;> rfl
theorem add_of_add (a : Addr) (i j : Nat) : (a.add i).add j = a.add (i + j) := by
  unfold Addr.add
  by_cases hi : i = 0 <;> by_cases hj : j = 0 <;> simp [hi, hj, Nat.add_assoc]

/-- The slice value '.slice A n c' holds the bytes l, and lies below block B. -/
def Byt (w : World) (B : Nat) (A : Option Addr) (n : Nat) (l : List UInt8) : Prop :=
  l.length = n ∧ n ≤ maxLen ∧ (0 < n → ∃ ad, A = some ad ∧ ad.block < B ∧ ∀ (j : Nat) (u : UInt8), l[j]? = some u → w.cell? (ad.add j) = some (.int .u8 (u.toNat : Int)))

section
variable {w w' : World} {B B' n : Nat} {A : Option Addr} {l : List UInt8}
theorem Byt.none_ : Byt w B A 0 [] := ⟨rfl, by unfold maxLen; omega, fun h => absurd h (by omega)⟩
theorem Byt.at_ {k : Nat} (h : Byt w B A n l) (hk : k < n) : ∃ (ad : Addr) (u : UInt8), A = some ad ∧ ad.block < B ∧ l[k]? = some u ∧ w.cell? (ad.add k) = some (.int .u8 (u.toNat : Int)) := by
  obtain ⟨ad, e, hb, hc⟩ := h.2.2 (by omega)
  have hl : k < l.length := by have := h.1; omega
  exact ⟨ad, l[k], e, hb, List.getElem?_eq_getElem hl, hc k _ (List.getElem?_eq_getElem hl)⟩
theorem Byt.keep (h : Byt w B A n l) (hk : ∀ p : Addr, p.block < B → w'.cell? p = w.cell? p) : Byt w' B A n l :=
  ⟨h.1, h.2.1, fun hn => by
    obtain ⟨ad, e, hb, hc⟩ := h.2.2 hn
    exact ⟨ad, e, hb, fun j u hu => (hk _ (by rw [block_of_add]; exact hb)).trans (hc j u hu)⟩⟩
theorem Byt.more (h : Byt w B A n l) (hB : B ≤ B') : Byt w B' A n l :=
  ⟨h.1, h.2.1, fun hn => by
    obtain ⟨ad, e, hb, hc⟩ := h.2.2 hn
    exact ⟨ad, e, by omega, hc⟩⟩
theorem Byt.below (h : Byt w B A n l) (hb : Below B w w') : Byt w' B A n l := h.keep fun _ hp => hb.cell hp
theorem Byt.take (h : Byt w B A n l) {k : Nat} (hk : k ≤ n) : Byt w B A k (l.take k) := by
  refine ⟨by have := h.1; simp; omega, by have := h.2.1; omega, fun hn => ?_⟩
  obtain ⟨ad, e, hb, hc⟩ := h.2.2 (by omega)
  exact ⟨ad, e, hb, fun j u hu => hc j u (by rw [List.getElem?_take] at hu; split at hu; exact hu; cases hu)⟩
theorem Byt.drew (h : Byt w B A n l) : Byt w.drew B A n l := h
theorem Byt.drewN (h : Byt w B A n l) (k : Nat) : Byt (w.drewN k) B A n l := h
theorem Byt.alloc (h : Byt w B A n l) (hB : B ≤ w.heap.size) (o : Obj) : Byt (w.alloc o) B A n l := h.keep fun p hp => World.cell?_alloc_lt w o p (by omega)
theorem Byt.setCell (h : Byt w B A n l) {p : Addr} (hB : B ≤ p.block) (u : Value) : Byt (w.setCell p u) B A n l :=
  h.keep fun q hq => World.cell?_setCell_other w p q u (fun e => by subst e; omega)
end

theorem below_drewN {B : Nat} {a w : World} (h : Below B a w) (n : Nat) : Below B a (w.drewN n) := ⟨h.os, h.tape, h.output, h.size, h.block⟩
theorem ret_int {k : IntKind} {a b : Int} (h : a = b) : Ending.returned (.int k a) = .returned (.int k b) := by rw [h]
theorem ret_bool {a b : Bool} (h : a = b) : Ending.returned (.bool a) = .returned (.bool b) := by rw [h]

/-- The call only read: the world is the one before, but for draws. -/
def Still (w w' : World) : Prop := ∃ k, w' = w.drewN k
theorem Still.refl (w : World) : Still w w := ⟨0, rfl⟩
theorem Still.drewN (w : World) (k : Nat) : Still w (w.drewN k) := ⟨k, rfl⟩
theorem Still.step {a w : World} (h : Still a w) (k : Nat) : Still a (w.drewN k) := by
  obtain ⟨i, rfl⟩ := h; exact ⟨i + k, by simp⟩
theorem Still.trans {a b c : World} (h : Still a b) (k : Still b c) : Still a c := by
  obtain ⟨i, rfl⟩ := h; obtain ⟨j, rfl⟩ := k; exact ⟨i + j, by simp⟩
theorem Still.below {w w' : World} (h : Still w w') (B : Nat) : Below B w w' := by
  obtain ⟨k, rfl⟩ := h; exact below_drewN (Below.refl _ _) k

theorem quiet_st1 {P : Program} {f : FuncId} {args : Array Value} {w : World} {n : Nat} {v : Value}
    (h : Calls P f args (w.drewN n) fun e w' => e = .returned v ∧ Still (w.drewN n) w') : Calls P f args (w.drewN n) fun e w'' => e = .returned v ∧ ∃ m, w'' = w.drewN m :=
  h.mono fun _ _ ⟨he, m, hm⟩ => ⟨he, n + m, by rw [hm, World.drewN_drewN]⟩
theorem quiet_st2 {P : Program} {f : FuncId} {args : Array Value} {w : World} {a n : Nat} {v : Value}
    (h : Calls P f args (w.drewN (a + n)) fun e w' => e = .returned v ∧ Still (w.drewN (a + n)) w') : Calls P f args (w.drewN (a + n)) fun e w'' => e = .returned v ∧ ∃ m, w'' = w.drewN (a + m) :=
  h.mono fun _ _ ⟨he, m, hm⟩ => ⟨he, n + m, by rw [hm, World.drewN_drewN, Nat.add_assoc]⟩
end Go.Proofs.YtajpipaooaemdaaGreatDoor

namespace Go.Proofs.YtajpipaooaemdaaGreatDoor
open Go.RowKit

theorem results_cell1 {fn : Func} {p : Tmp} {ty : TypeId} (h : fn.results = #[.cell p ty]) (tmps : Array Value) (P : Program) (w : World) :
    (results fn tmps).run P w = ((asAddr (tmps.getD p undef)).run P w).andThen fun a w₁ => (loadVar ty a).run P w₁ := by
  simp only [results, h]
  simp [Sem.run_bind, Result.andThen]
/-- Block g holds just these cells, none frozen. -/
def Blk (w : World) (g : Nat) (cs : Array Value) : Prop := ∃ t, w.heap[g]? = some (.cells cs t (0, 0))
section
variable {w w' : World} {g B : Nat} {cs : Array Value}
theorem Blk.lt (h : Blk w g cs) : g < w.heap.size := by
  obtain ⟨t, h⟩ := h
  rcases Nat.lt_or_ge g w.heap.size with hlt | hge
  · exact hlt
  · rw [Array.getElem?_eq_none hge] at h; cases h
theorem Blk.cell (h : Blk w g cs) (i : Nat) : w.cell? ⟨g, i, none⟩ = cs[i]? := by
  obtain ⟨t, h⟩ := h
  exact cell_of_row w g i cs t (0, 0) h
theorem Blk.fz (h : Blk w g cs) (o : Nat) : w.frozen? ⟨g, o, none⟩ = false := by
  obtain ⟨t, h⟩ := h
  simp [World.frozen?, h]
theorem Blk.new (w : World) (t : TypeId) (cs : Array Value) : Blk (w.alloc (.cells cs t)) w.heap.size cs := ⟨t, heap_alloc_new w _⟩
theorem Blk.below (h : Blk w g cs) (hb : Below B w w') (hg : g < B) : Blk w' g cs := by
  obtain ⟨t, h⟩ := h
  exact ⟨t, (hb.block g hg).trans h⟩
theorem Blk.alloc (h : Blk w g cs) (o : Obj) : Blk (w.alloc o) g cs := h.below ((Below.refl w.heap.size w).alloc (Nat.le_refl _) o) h.lt
theorem Blk.drewN (h : Blk w g cs) (n : Nat) : Blk (w.drewN n) g cs := h
theorem Blk.set_ (h : Blk w g cs) (i : Nat) (v : Value) : Blk (w.setCell ⟨g, i, none⟩ v) g (cs.setIfInBounds i v) := by
  obtain ⟨t, h⟩ := h
  exact ⟨t, by simp [World.setCell, Array.getElem?_modify, h]⟩
/-- What lies in another block is elsewhere: told by the kind of a cell. -/
theorem Blk.apart (h : Blk w g cs) {ad : Addr} {v : Value} (hc : w.cell? ad = some v) (hv : v ∉ cs) : ad.block ≠ g := fun e => by
  obtain ⟨t, h⟩ := h
  unfold World.cell? at hc
  rw [e, h] at hc
  simp only at hc
  split at hc
  · cases hc
  · exact hv (Array.mem_of_getElem? hc)
theorem Blk.byt {A : Option Addr} {n : Nat} {l : List UInt8} (h : Blk w g cs) (hb : Byt w B A n l) (hv : ∀ z, .int .u8 z ∉ cs) {w'} (hk : ∀ p : Addr, p.block ≠ g → w'.cell? p = w.cell? p) : Byt w' B A n l :=
  ⟨hb.1, hb.2.1, fun hn => by
    obtain ⟨ad, e, hlt, hc⟩ := hb.2.2 hn
    refine ⟨ad, e, hlt, fun j u hu => (hk _ ?_).trans (hc j u hu)⟩
    exact h.apart (hc j u hu) (hv _)⟩
end

/-- Four cells, two cells. -/
abbrev Four (w : World) (g : Nat) (a b c d : Value) : Prop := Blk w g #[a, b, c, d]
abbrev Two (w : World) (g : Nat) (a b : Value) : Prop := Blk w g #[a, b]
section
variable {w w' : World} {g B : Nat} {a b c d : Value}
theorem Blk.c0 (h : Four w g a b c d) : w.cell? ⟨g, 0, none⟩ = some a := h.cell 0
theorem Blk.c1 (h : Four w g a b c d) : w.cell? ⟨g, 1, none⟩ = some b := h.cell 1
theorem Blk.c2 (h : Four w g a b c d) : w.cell? ⟨g, 2, none⟩ = some c := h.cell 2
theorem Blk.c3 (h : Four w g a b c d) : w.cell? ⟨g, 3, none⟩ = some d := h.cell 3
theorem Blk.k0 (h : Two w g a b) : w.cell? ⟨g, 0, none⟩ = some a := h.cell 0
theorem Blk.k1 (h : Two w g a b) : w.cell? ⟨g, 1, none⟩ = some b := h.cell 1
theorem Four.new (w : World) (t : TypeId) (a b c d : Value) : Four (w.alloc (.cells #[a, b, c, d] t)) w.heap.size a b c d := Blk.new w t _
theorem Two.new (w : World) (t : TypeId) (a b : Value) : Two (w.alloc (.cells #[a, b] t)) w.heap.size a b := Blk.new w t _
end
/-- Four stores, one a cell. -/
abbrev set4 (w : World) (g : Nat) (a b c d : Value) : World := (((w.setCell ⟨g, 0, none⟩ a).setCell ⟨g, 1, none⟩ b).setCell ⟨g, 2, none⟩ c).setCell ⟨g, 3, none⟩ d
theorem Blk.set4 {w : World} {g : Nat} {x y z t : Value} (h : Four w g x y z t) (a b c d : Value) : Four (set4 w g a b c d) g a b c d :=
  (((h.set_ 0 a).set_ 1 b).set_ 2 c).set_ 3 d
theorem Blk.load {P : Program} {ty : TypeId} {D : TypeDesc} (hu : P.underlying ty = some D) (hd : D.isRow = true) (hi : (P.info? ty).map (·.size) = some 4) {w : World} {g : Nat} {a b c d : Value} (h : Four w g a b c d) :
    (loadVar ty ⟨g, 0, none⟩).run P w = .ok (.agg #[a, b, c, d]) w := by
  refine run_loadVar_mid w g 0 ty [a, b, c, d] _ (fun j v hv => ?_) hu hd hi
  rw [Nat.zero_add]
  match j, hv with
  | 0, hv => simp at hv; subst hv; exact h.c0
  | 1, hv => simp at hv; subst hv; exact h.c1
  | 2, hv => simp at hv; subst hv; exact h.c2
  | 3, hv => simp at hv; subst hv; exact h.c3
end Go.Proofs.YtajpipaooaemdaaGreatDoor

namespace Go.Proofs.YtajpipaooaemdaaGreatDoor
open Go.RowKit

/-- What was there is as it was, but for the blocks in D. -/
structure Kept (D : Nat → Prop) (w w' : World) : Prop where
  os : w'.os = w.os
  tape : w'.tape = w.tape
  output : w'.output = w.output
  size : w.heap.size ≤ w'.heap.size
  block : ∀ k, k < w.heap.size → ¬ D k → w'.heap[k]? = w.heap[k]?

section
variable {D D' : Nat → Prop} {a b w w' : World} {g B : Nat} {cs : Array Value}
theorem Kept.refl (D : Nat → Prop) (w : World) : Kept D w w := ⟨rfl, rfl, rfl, Nat.le_refl _, fun _ _ _ => rfl⟩
theorem Kept.trans (h : Kept D a b) (k : Kept D b w) : Kept D a w :=
  ⟨k.os.trans h.os, k.tape.trans h.tape, k.output.trans h.output, Nat.le_trans h.size k.size, fun i hi hd => (k.block i (Nat.lt_of_lt_of_le hi h.size) hd).trans (h.block i hi hd)⟩
/-- Behind it what was not there yet may change too. -/
theorem Kept.trans' (h : Kept D a b) (k : Kept D' b w) (hd : ∀ i, i < a.heap.size → ¬ D' i) : Kept D a w :=
  ⟨k.os.trans h.os, k.tape.trans h.tape, k.output.trans h.output, Nat.le_trans h.size k.size, fun i hi hn => (k.block i (Nat.lt_of_lt_of_le hi h.size) (hd i hi)).trans (h.block i hi hn)⟩
theorem Kept.mono (h : Kept D w w') (hd : ∀ g, D g → D' g) : Kept D' w w' := ⟨h.os, h.tape, h.output, h.size, fun i hi hn => h.block i hi (fun q => hn (hd i q))⟩
/-- Blocks that were not there yet may be among those that change. -/
theorem Kept.less (h : Kept D w w') (hd : ∀ g, g < w.heap.size → D g → D' g) : Kept D' w w' := ⟨h.os, h.tape, h.output, h.size, fun i hi hn => h.block i hi (fun q => hn (hd i hi q))⟩
theorem Kept.blk (h : Kept D w w') (hb : Blk w g cs) (hg : ¬ D g) : Blk w' g cs := by
  have hl := hb.lt
  obtain ⟨t, hb⟩ := hb
  exact ⟨t, (h.block g hl hg).trans hb⟩
theorem Kept.cell (h : Kept D w w') {p : Addr} (hp : p.block < w.heap.size) (hg : ¬ D p.block) : w'.cell? p = w.cell? p := World.cell?_of_block (w := w) (h.block p.block hp hg)
theorem Kept.frozen (h : Kept D w w') {p : Addr} (hp : p.block < w.heap.size) (hg : ¬ D p.block) : w'.frozen? p = w.frozen? p := World.frozen?_of_block (w := w) (h.block p.block hp hg)
theorem Kept.set_ (w : World) (p : Addr) (v : Value) (hd : D p.block) : Kept D w (w.setCell p v) :=
  ⟨rfl, rfl, rfl, by simp [World.setCell], fun k _ hk => Below.heap_setCell _ _ _ _ (fun e => hk (e ▸ hd))⟩
theorem Kept.drew (h : Kept D a w) : Kept D a w.drew := ⟨h.os, h.tape, h.output, h.size, h.block⟩
theorem Kept.drewN (h : Kept D a w) (n : Nat) : Kept D a (w.drewN n) := ⟨h.os, h.tape, h.output, h.size, h.block⟩
theorem Kept.of_below (h : Below w.heap.size w w') : Kept D w w' := ⟨h.os, h.tape, h.output, h.size, fun k hk _ => h.block k hk⟩
theorem Kept.below (h : Kept D w w') (hB : B ≤ w.heap.size) (hd : ∀ g, D g → B ≤ g) : Below B w w' :=
  ⟨h.os, h.tape, h.output, h.size, fun k hk => h.block k (Nat.lt_of_lt_of_le hk hB) (fun q => by have := hd k q; omega)⟩
end

theorem lt_cell {w : World} {a : Addr} {v : Value} (h : w.cell? a = some v) : a.block < w.heap.size := by
  rcases Nat.lt_or_ge a.block w.heap.size with hlt | hge
  · exact hlt
  · simp [World.cell?, Array.getElem?_eq_none hge] at h
/-- One cell of the block is written. -/
theorem Blk.put {w w' : World} {g : Nat} {cs cs' : Array Value} (h : Blk w g cs) {i : Nat} {v : Value} (hw : w' = w.setCell ⟨g, i, none⟩ v) (hc : cs.setIfInBounds i v = cs') : Blk w' g cs' ∧ Kept (· = g) w w' := by
  subst hw hc
  exact ⟨h.set_ i v, Kept.set_ _ _ _ rfl⟩
end Go.Proofs.YtajpipaooaemdaaGreatDoor

namespace Go.Proofs.YtajpipaooaemdaaGreatDoor
open Go.RowKit

/-- Block g holds just the cells l, none frozen. -/
abbrev Lst (w : World) (g : Nat) (l : List Value) : Prop := Blk w g l.toArray
/-- l with vs from place o on. -/
def spl (l : List Value) (o : Nat) (vs : List Value) : List Value := l.take o ++ vs ++ l.drop (o + vs.length)
theorem spl_length {l : List Value} {o : Nat} {vs : List Value} (h : o + vs.length ≤ l.length) : (spl l o vs).length = l.length := by
  simp only [spl, List.length_append, List.length_take, List.length_drop]; omega
theorem spl_nil (l : List Value) (o : Nat) : spl l o [] = l := by simp [spl]
theorem spl_cons {l : List Value} {o : Nat} {v : Value} {vs : List Value} (h : o + (vs.length + 1) ≤ l.length) : spl (l.set o v) (o + 1) vs = spl l o (v :: vs) := by
  have hl : o < l.length := by omega
  apply List.ext_getElem?
  intro i
  simp only [spl, List.length_cons]
  rw [show l.take o ++ v :: vs ++ l.drop (o + (vs.length + 1)) = l.take o ++ [v] ++ vs ++ l.drop (o + 1 + vs.length) from by simp [Nat.add_comm, Nat.add_left_comm]]
  congr 1
  congr 1
  · congr 1
    rw [List.take_add_one, List.take_set]
    simp only [List.getElem?_set, hl, if_true]
    rw [List.set_eq_of_length_le (by simp; omega)]
    rfl
  · rw [List.drop_set_of_lt (by omega)]

section
variable {w w' : World} {g : Nat} {l vs : List Value}
theorem Lst.at_ (h : Lst w g l) (i : Nat) : w.cell? ⟨g, i, none⟩ = l[i]? := by rw [Blk.cell h i]; simp
theorem Lst.rangeAt (h : Lst w g l) (o : Nat) (hv : ∀ j v, vs[j]? = some v → l[o + j]? = some v) : w.rangeAt g o vs := fun j v hj => by rw [Lst.at_ h]; exact hv j v hj
theorem Lst.all (h : Lst w g l) : w.rangeAt g 0 l := Lst.rangeAt h 0 fun j v hj => by rwa [Nat.zero_add]
theorem Lst.isSome (h : Lst w g l) {i : Nat} (hi : i < l.length) : (w.cell? ⟨g, i, none⟩).isSome = true := by rw [Lst.at_ h, List.getElem?_eq_getElem hi]; rfl
theorem Lst.there (h : Lst w g l) {o n : Nat} (hi : o + n ≤ l.length) : w.there g o n := fun j hj => ⟨Lst.isSome h (by omega), Blk.fz h _⟩
theorem Lst.shape (h : Lst w g l) : ∃ t, w.shape? g = some (t, l.length) := by
  obtain ⟨t, h⟩ := h
  exact ⟨t, by simp [World.shape?, h]⟩
theorem Lst.set1 (h : Lst w g l) (i : Nat) (v : Value) : Lst (w.setCell ⟨g, i, none⟩ v) g (l.set i v) := by
  have := Blk.set_ h i v
  rwa [List.setIfInBounds_toArray] at this
theorem Lst.setCells (h : Lst w g l) (o : Nat) (vs : List Value) (hl : o + vs.length ≤ l.length) : Lst (w.setCells g o vs) g (spl l o vs) := by
  induction vs generalizing w l o with
  | nil => rw [spl_nil]; exact h
  | cons v r ih =>
    rw [World.setCells, ← spl_cons (by simpa using hl)]
    exact ih (Lst.set1 h o v) (o + 1) (by simp only [List.length_set, List.length_cons] at hl ⊢; omega)
theorem Kept.setCells (D : Nat → Prop) (w : World) (g o : Nat) (vs : List Value) (hd : D g) : Kept D w (w.setCells g o vs) := by
  induction vs generalizing w o with
  | nil => exact Kept.refl _ _
  | cons v r ih => exact (Kept.set_ w ⟨g, o, none⟩ v hd).trans (ih _ _)
end
end Go.Proofs.YtajpipaooaemdaaGreatDoor

namespace Go.Proofs.YtajpipaooaemdaaGreatDoor
open Go.RowKit

def bv (u : UInt8) : Value := .int .u8 (u.toNat : Int)
def bvs (l : List UInt8) : Array Value := (l.map bv).toArray

/-- Block g holds just the bytes l (cells of type e), none frozen. -/
def Row (w : World) (g : Nat) (e : TypeId) (l : List UInt8) : Prop := w.heap[g]? = some (.cells (bvs l) e (0, 0))

section
variable {w w' : World} {g : Nat} {e : TypeId} {l : List UInt8}
theorem Row.lt (h : Row w g e l) : g < w.heap.size := by
  rcases Nat.lt_or_ge g w.heap.size with hlt | hge
  · exact hlt
  · unfold Row at h; rw [Array.getElem?_eq_none hge] at h; cases h
theorem Row.cell (h : Row w g e l) {i : Nat} {u : UInt8} (hi : l[i]? = some u) : w.cell? ⟨g, i, none⟩ = some (.int .u8 (u.toNat : Int)) := by
  rw [cell_of_row w g i (bvs l) e (0, 0) h]
  simp [bvs, hi, bv]
theorem Row.frozen (h : Row w g e l) (i : Nat) : w.frozen? ⟨g, i, none⟩ = false := by
  unfold Row at h
  simp [World.frozen?, h]
theorem Row.new (w : World) (e : TypeId) (l : List UInt8) : Row (w.alloc (.cells (bvs l) e)) w.heap.size e l := heap_alloc_new w _
theorem Row.drewN (h : Row w g e l) (n : Nat) : Row (w.drewN n) g e l := h
theorem Row.alloc (h : Row w g e l) (o : Obj) : Row (w.alloc o) g e l := (Below.heap_alloc w o g h.lt).trans h
theorem Row.set_ (h : Row w g e l) (i : Nat) (u : UInt8) : Row (w.setCell ⟨g, i, none⟩ (.int .u8 (u.toNat : Int))) g e (l.set i u) := by
  unfold Row at h ⊢
  simp [World.setCell, Array.getElem?_modify, h, bvs, bv, List.map_set]
theorem Row.far (h : Row w g e l) {p : Addr} (hp : g ≠ p.block) (u : Value) : Row (w.setCell p u) g e l := (Below.heap_setCell w p u g hp).trans h
theorem Row.below {B : Nat} (h : Row w g e l) (hb : Below B w w') (hg : g < B) : Row w' g e l := (hb.block g hg).trans h
theorem Row.byt (h : Row w g e l) {n B : Nat} (hn : l.length = n) (hm : n ≤ maxLen) (hg : g < B) : Byt w B (some ⟨g, 0, none⟩) n l :=
  ⟨hn, hm, fun _ => ⟨_, rfl, hg, fun j u hu => by
    have := h.cell hu
    unfold Addr.add
    split
    · rename_i e0; subst e0; exact this
    · simpa using this⟩⟩
end

theorem make_bytes {P : Program} {t e : TypeId} (ht : P.underlying t = some (.slice e)) (hi : (P.info? e).map (fun i => (i.zero, i.size, i.bytes)) = some (some (.int .u8 0), 1, 1)) (k : Nat) (hk : k ≤ 281474976710656) (w : World) :
    (Instr.makeSlice t (.int .i64 (k : Int)) (.int .i64 (k : Int))).run P w = .ok (.slice (some ⟨w.heap.size, 0, none⟩) k k) (w.alloc (.cells (bvs (List.replicate k 0)) e)) := by
  obtain ⟨i0, hi0, hz0, hz1, hz2⟩ := info_parts hi
  have h := run_make (P := P) w t e i0 (.int .u8 0) ht hi0 hz0 .i64 .i64 (k : Int) (k : Int) (by omega) (Int.le_refl _) (by rw [hz2]; omega) (by omega)
  rw [Int.toNat_natCast] at h
  have e1 : madeCells (Value.int .u8 0).cells (k * i0.size) = bvs (List.replicate k 0) := by
    rw [hz1, Nat.mul_one]
    apply Array.ext'
    simp [madeCells, Value.cells, bvs, bv, Nat.mod_one, List.map_const']
  rw [e1] at h
  exact h

/-- A row of the call's own, of bytes: made by make or append, in blocks from base on. -/
def Mine (w : World) (base : Nat) (e : TypeId) (v : Value) (n : Nat) (l : List UInt8) : Prop := w.ownsRow base e 1 v n (l.map bv)
theorem Mine.nil (w : World) (base : Nat) (e : TypeId) : Mine w base e (.slice none 0 0) 0 [] := World.ownsRow_nil w base e 1
theorem Mine.length {w : World} {base : Nat} {e : TypeId} {v : Value} {n : Nat} {l : List UInt8} (h : Mine w base e v n l) : l.length = n := by
  have := h.1; simpa using this
theorem Mine.slice {w : World} {base : Nat} {e : TypeId} {v : Value} {n : Nat} {l : List UInt8} (h : Mine w base e v n l) : ∃ A c, v = .slice A n c := by
  rcases h.2 with ⟨rfl, rfl⟩ | ⟨g, cap, cur, rfl, _⟩
  · exact ⟨_, _, rfl⟩
  · exact ⟨_, _, rfl⟩
theorem Mine.byt {w : World} {base : Nat} {e : TypeId} {A : Option Addr} {n c : Nat} {l : List UInt8} (h : Mine w base e (.slice A n c) n l) : Byt w w.heap.size A n l := by
  have hl := Mine.length h
  refine ⟨hl, ?_, fun hn => ?_⟩
  · rcases h.2 with ⟨_, h0⟩ | ⟨g, cap, cur, hv, _, _, h1, h2, _⟩
    · subst h0; unfold maxLen; omega
    · omega
  · obtain ⟨g, cap, hv, _, hlt⟩ := World.ownsRow.form h hn
    have hA : A = some ⟨g, 0, none⟩ := by injection hv
    subst hA
    exact ⟨_, rfl, hlt, fun j u hu => by
      have := World.ownsRow.cells h (g := g) rfl j (bv u) (by simp [hu])
      exact this⟩

theorem Mine.alloc {w : World} {base : Nat} {e : TypeId} {v : Value} {n : Nat} {l : List UInt8} (h : Mine w base e v n l) (o : Obj) : Mine (w.alloc o) base e v n l := World.ownsRow.alloc h o
theorem Mine.drewN {w : World} {base : Nat} {e : TypeId} {v : Value} {n : Nat} {l : List UInt8} (h : Mine w base e v n l) (k : Nat) : Mine (w.drewN k) base e v n l := h
theorem Mine.lt {w : World} {base : Nat} {e : TypeId} {v : Value} {n : Nat} {l : List UInt8} (h : Mine w base e v n l) : ∀ k, v.ownBlock = some k → base ≤ k ∧ k < w.heap.size := World.ownsRow.lt h
/-- A literal of one byte. -/
theorem byt_one (w : World) (e : TypeId) {z : Int} {u : UInt8} (hz : z = (u.toNat : Int)) : Byt (w.alloc (.cells #[.int .u8 z] e)) (w.heap.size + 1) (some ⟨w.heap.size, 0, none⟩) 1 [u] := by
  subst hz
  exact (Row.new w e [u]).byt rfl (by unfold maxLen; omega) (by omega)
theorem Mine.set_ {w : World} {base : Nat} {e : TypeId} {g n c : Nat} {l : List UInt8} (h : Mine w base e (.slice (some ⟨g, 0, none⟩) n c) n l) (j : Nat) (u : UInt8) :
    Mine (w.setCell ⟨g, j, none⟩ (.int .u8 (u.toNat : Int))) base e (.slice (some ⟨g, 0, none⟩) n c) n (l.set j u) := by
  have := (World.ownsRow.stored h j (bv u)).1
  unfold Mine
  rw [List.map_set]
  exact this
theorem Mine.cell {w : World} {base : Nat} {e : TypeId} {g n c : Nat} {l : List UInt8} (h : Mine w base e (.slice (some ⟨g, 0, none⟩) n c) n l) {j : Nat} {u : UInt8} (hu : l[j]? = some u) :
    w.cell? ⟨g, j, none⟩ = some (.int .u8 (u.toNat : Int)) := by
  have hj : j < n := by have := (List.getElem?_eq_some_iff.1 hu).1; have := Mine.length h; omega
  rw [World.ownsRow.cellAt h j (by omega)]
  simp [hu, bv]
theorem Mine.frozen {w : World} {base : Nat} {e : TypeId} {g n c : Nat} {l : List UInt8} (h : Mine w base e (.slice (some ⟨g, 0, none⟩) n c) n l) (j : Nat) : w.frozen? ⟨g, j, none⟩ = false :=
  World.ownsRow.frozenAt h j

theorem run_append_none {P : Program} (w : World) (base : Nat) (t ty e : TypeId) (i : TypeInfo) (ht : P.underlying t = some (.slice e)) (hi : P.info? e = some i)
    (v : Value) (n : Nat) (xs : List Value) (hown : w.ownsRow base e 1 v n xs) (c : Nat) : (Builtin.append_ #[t, t] ty #[v, .slice none 0 c]).run P w = .ok v w := by
  rcases hown.2 with ⟨rfl, rfl⟩ | ⟨g, cap, cur, rfl, _, _, hnc, _⟩
  · simp [Builtin.append_, run_underlying ht, sizeOf, typeInfo, hi, Builtin.lenOf, Builtin.firstCells]
  · simp [Builtin.append_, run_underlying ht, sizeOf, typeInfo, hi, Builtin.lenOf, Builtin.firstCells, hnc, storeCells]

theorem run_append_byt {P : Program} (w : World) {t ty e : TypeId} (ht : P.underlying t = some (.slice e)) (hi : (P.info? e).map (fun i => (i.zero, i.size, i.bytes)) = some (some (.int .u8 0), 1, 1))
    (base : Nat) (v : Value) (n : Nat) (l : List UInt8) (hown : Mine w base e v n l) (B : Nat) (A : Option Addr) (m c : Nat) (l' : List UInt8) (hb : Byt w B A m l')
    (hbytes : n + m ≤ 140737488355328) (hbase : base ≤ w.heap.size) :
    ∃ v' w', (Builtin.append_ #[t, t] ty #[v, .slice A m c]).run P w = .ok v' w' ∧ Mine w' base e v' (n + m) (l ++ l') ∧ w.grownBy w' v.ownBlock ∧ (v'.ownBlock = v.ownBlock ∨ v'.ownBlock = some w.heap.size) := by
  obtain ⟨i0, hi0, hz0, hz1, hz2⟩ := info_parts hi
  have hl' := hb.1
  rcases A with _ | ad
  · have hm : m = 0 := by
      rcases Nat.eq_zero_or_pos m with h0 | h0
      · exact h0
      · obtain ⟨ad, h, _⟩ := hb.2.2 h0; cases h
    subst hm
    have : l' = [] := List.eq_nil_of_length_eq_zero hl'
    subst this
    exact ⟨v, w, run_append_none w base t ty e i0 ht hi0 v n _ hown c, by simpa [Mine] using hown, World.grownBy.refl w _, .inl rfl⟩
  · have hcells : ∀ j u, (l'.map bv)[j]? = some u → w.cell? (ad.add j) = some u := by
      intro j u hu
      rw [List.getElem?_map] at hu
      rcases hx : l'[j]? with _ | b
      · rw [hx] at hu; simp at hu
      · rw [hx] at hu
        simp only [Option.map_some, Option.some.injEq] at hu
        subst hu
        have h0 : 0 < m := by have := (List.getElem?_eq_some_iff.1 hx).1; omega
        obtain ⟨ad', h, _, hc⟩ := hb.2.2 h0
        injection h with h
        subst h
        exact hc j b hx
    obtain ⟨v', w', hrun, h2, h3, _, h5⟩ := run_append_own_at (P := P) w base t ty e i0 (.int .u8 0) 1 1 ht hi0 hz0 hz1 hz2 rfl (by omega) v n (l.map bv) hown ad m c (l'.map bv) (by simpa using hl') hcells
      (fun u hu => by simp only [List.mem_map] at hu; obtain ⟨b, _, rfl⟩ := hu; rfl) (by unfold maxLen; omega) (by omega) hbase
    exact ⟨v', w', hrun, by unfold Mine; rw [List.map_append]; exact h2, h3, h5⟩

theorem wp_append_byt {P : Program} (w : World) {o : Oper} {a : Act} {K : Act → World → Prop} {Q : Exit → Act → World → Prop} (s x : Operand) (t : TypeId)
    (ho : o.op = .call { callee := .builtin .append, args := #[s, x], argTypes := #[t, t] }) {e : TypeId}
    (ht : P.underlying t = some (.slice e)) (hi : (P.info? e).map (fun i => (i.zero, i.size, i.bytes)) = some (some (.int .u8 0), 1, 1))
    (base : Nat) (v : Value) (n : Nat) (l : List UInt8) (hs : a.eval s = v) (hown : Mine w base e v n l) (B : Nat) (A : Option Addr) (m c : Nat) (l' : List UInt8) (hx : a.eval x = .slice A m c) (hb : Byt w B A m l')
    (hbytes : n + m ≤ 140737488355328) (hbase : base ≤ w.heap.size)
    (h : ∀ v' w', Mine w' base e v' (n + m) (l ++ l') → w.grownBy w' v.ownBlock → (v'.ownBlock = v.ownBlock ∨ v'.ownBlock = some w.heap.size) → K (a.put o.dst v') w') : o.wp P a w K Q := by
  obtain ⟨v', w', hrun, h2, h3, h4⟩ := run_append_byt (P := P) w (ty := o.type) ht hi base v n l hown B A m c l' hb hbytes hbase
  unfold Oper.wp execOp
  simp only [ho, resolve, invoke, builtin, Sem.run_bind, Sem.run_pure, Result.andThen_ok, List.map_toArray, List.map_cons, List.map_nil, hs, hx, hrun]
  exact h v' w' h2 h3 h4

theorem wpList_append_byt {P : Program} (w : World) {ops : Array Oper} {rest : List Oper} {o : Oper} {a : Act} {Q : Exit → Act → World → Prop} (hgd : o.guard = none) (s x : Operand) (t : TypeId)
    (ho : o.op = .call { callee := .builtin .append, args := #[s, x], argTypes := #[t, t] }) {e : TypeId}
    (ht : P.underlying t = some (.slice e)) (hi : (P.info? e).map (fun i => (i.zero, i.size, i.bytes)) = some (some (.int .u8 0), 1, 1))
    (base : Nat) (v : Value) (n : Nat) (l : List UInt8) (hs : a.eval s = v) (hown : Mine w base e v n l) (B : Nat) (A : Option Addr) (m c : Nat) (l' : List UInt8) (hx : a.eval x = .slice A m c) (hb : Byt w B A m l')
    (hbytes : n + m ≤ 140737488355328) (hbase : base ≤ w.heap.size)
    (h : ∀ v' w', Mine w' base e v' (n + m) (l ++ l') → w.grownBy w' v.ownBlock → (v'.ownBlock = v.ownBlock ∨ v'.ownBlock = some w.heap.size) → wpList P ops Q rest (a.put o.dst v') w') : wpList P ops Q (o :: rest) a w :=
  wpList_plain hgd fun _ hK => wp_append_byt w s x t ho ht hi base v n l hs hown B A m c l' hx hb hbytes hbase fun v' w' h2 h3 h4 => hK _ _ (h v' w' h2 h3 h4)
end Go.Proofs.YtajpipaooaemdaaGreatDoor

namespace Go.Proofs.YtajpipaooaemdaaGreatDoor
open Go.RowKit

set_option maxRecDepth 100000 in
theorem info_u8 : (Tryz.prog.info? 5).map (fun i => (i.zero, i.size, i.bytes)) = some (some (.int .u8 0), 1, 1) := by kernel_rfl
set_option maxRecDepth 100000 in
theorem size_u8 : (Tryz.prog.info? 5).map (·.size) = some 1 := by kernel_rfl

theorem Byt.drop {w : World} {B : Nat} {ad : Addr} {n : Nat} {l : List UInt8} (h : Byt w B (some ad) n l) {k : Nat} (hk : k ≤ n) : Byt w B (some (ad.add k)) (n - k) (l.drop k) := by
  refine ⟨by have := h.1; simp; omega, by have := h.2.1; omega, fun hn => ?_⟩
  obtain ⟨ad', e, hb, hc⟩ := h.2.2 (by omega)
  injection e with e
  subst e
  refine ⟨_, rfl, by rw [block_of_add]; exact hb, fun j u hu => ?_⟩
  rw [add_of_add]
  exact hc (k + j) u (by rw [List.getElem?_drop] at hu; exact hu)

/-- What a call leaves that hands back bytes in memory of its own. -/
def SlPost (w : World) (l : List UInt8) (e : Ending) (w' : World) : Prop :=
  ∃ A n c, e = .returned (.slice A n c) ∧ Byt w' w'.heap.size A n l ∧ n ≤ c ∧ Below w.heap.size w w'
theorem Mine.room {w : World} {base : Nat} {e : TypeId} {A : Option Addr} {n c m : Nat} {l : List UInt8} (h : Mine w base e (.slice A n c) m l) : n ≤ c := by
  rcases h.2 with ⟨h1, h2⟩ | ⟨g, cap, cur, h1, _, _, h2, _⟩
  · injection h1 with _ h3 h4; omega
  · injection h1 with _ h3 h4; omega
theorem SlPost.row {w w' : World} {e : TypeId} {g n : Nat} {l l' : List UInt8} (h : Row w' g e l) (he : l = l') (hn : l.length = n) (hm : n ≤ maxLen) (hb : Below w.heap.size w w') : SlPost w l' (.returned (.slice (some ⟨g, 0, none⟩) n n)) w' := by
  subst he
  exact ⟨_, _, _, rfl, h.byt hn hm h.lt, Nat.le_refl _, hb⟩
theorem byt_two (w : World) (e : TypeId) (a b : UInt8) {x y : Int} (hx : x = (a.toNat : Int)) (hy : y = (b.toNat : Int)) : Byt (w.alloc (.cells #[.int .u8 x, .int .u8 y] e)) (w.heap.size + 1) (some ⟨w.heap.size, 0, none⟩) 2 [a, b] := by
  subst hx hy
  exact (Row.new w e [a, b]).byt rfl (by unfold maxLen; omega) (by omega)
theorem Mine.made (w : World) (base : Nat) (e : TypeId) (k : Nat) (hk : k ≤ maxLen) (hb : base ≤ w.heap.size) : Mine (w.alloc (.cells (bvs (List.replicate k 0)) e)) base e (.slice (some ⟨w.heap.size, 0, none⟩) 0 k) 0 [] :=
  World.ownsRow_made w _ k hb hk (by simp [bvs])

end Go.Proofs.YtajpipaooaemdaaGreatDoor
