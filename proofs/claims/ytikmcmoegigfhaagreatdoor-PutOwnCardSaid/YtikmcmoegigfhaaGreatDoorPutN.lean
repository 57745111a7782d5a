/-
  Where a tree stands on the way of a put: what it is, whose blocks, what was counted; a node's part with its room.
-/
import Derived.Test.YtikmcmoegigfhaaGreatDoorPutH
import Derived.Test.YtikmcmoegigfhaaGreatDoorTowW
import Derived.Test.YtikmcmoegigfhaaGreatDoorFnGet
import Derived.Deep.RegionHeld3
import Derived.Deep.DeepCutAuto
namespace Go.Proofs.YtikmcmoegigfhaaGreatDoor
open Go.RowKit Go.Shelf
attribute [local go_sem] Oper.semAt_some

set_option maxRecDepth 100000 in
theorem npartr_any {w : World} {g : Nat} {x : Nd} {b : Be} {A : Option Addr} (h : Nod w g x b A) : Calls Tryz.prog 38 #[.pointer (some ⟨g, 0, none⟩)] w (CrPost w x.part) := by
  obtain ⟨c, hb⟩ := h.blk
  have hc : w.cell? ⟨g, 2, none⟩ = some (.slice A x.part.length c) := hb.cell 2
  have H1 := Lib.hid (bcloner_any A x.part.length c w.heap.size x.part w h.byt (Nat.le_refl _) h.short)
  clear hb h
  generalize x.part = l at hc H1 ⊢
  generalize hn : l.length = n at hc H1
  go_enter Tryz.func38, Tryz.ntmps38
  go_wp2_with fail
  (with_reducible refine H1.out.mono ?_)
  rintro e w1 ⟨A1, c1, rfl, h0, h1, h2, h3⟩
  have HE := Lib.hid (show CrPost w l (.returned (.slice A1 l.length c1)) w1 from ⟨A1, c1, rfl, h0, h1, h2, h3⟩)
  clear h0 h1 h2 h3
  rw [hn] at HE ⊢
  go_wp2
  go_ret
  exact HE.out

/-- Where a tree stands that was w0's: what it is now, whose blocks, how many nodes were made for it. -/
structure Std (w0 w1 : World) (o : Int) (S D : Nat → Prop) (m : Option Nat) (rest : List Value) (cnt : Int) (x : Nn) (k : Fo) (u : Nat) (D1 : Nat → Prop) (j : Nat) : Prop where
  tow : TOw w1 o S x k u D1
  sub : ∀ i, D1 i → D i ∨ w0.heap.size ≤ i
  kept : Kept (fun i => D i ∨ m = some i) w0 w1
  num : ∀ q, m = some q → Lst w1 q (.int .i64 (cnt + (j : Nat)) :: rest)
/-- What holds ahead of a put below a tree. -/
structure Pre (w : World) (o : Int) (S D : Nat → Prop) (m : Option Nat) (rest : List Value) (cnt : Int) (j : Nat) : Prop where
  pos : 1 ≤ o
  far : ∀ i, S i → ¬ D i ∧ i < w.heap.size
  mt : Mt w m rest cnt
  off : ∀ i, m = some i → ¬ S i ∧ ¬ D i
  few : cnt + (j : Nat) ≤ 9223372036854775806
theorem Kept.thru {D D' : Nat → Prop} {a b w : World} (h : Kept D a b) (k : Kept D' b w) (hd : ∀ i, i < a.heap.size → D' i → D i) : Kept D a w :=
  ⟨k.os.trans h.os, k.tape.trans h.tape, k.output.trans h.output, Nat.le_trans h.size k.size, fun i hi hn => (k.block i (Nat.lt_of_lt_of_le hi h.size) (fun q => hn (hd i hi q))).trans (h.block i hi hn)⟩
section
variable {w w1 w2 : World} {o : Int} {S D D1 : Nat → Prop} {m : Option Nat} {rest : List Value} {cnt : Int} {x : Nn} {k : Fo} {u j i : Nat}
theorem Pre.lt (h : Pre w o S D m rest cnt j) {i : Nat} (hi : m = some i) : i < w.heap.size := h.mt.lt hi
theorem Pre.ne (h : Pre w o S D m rest cnt j) : o ≠ 0 := by have := h.pos; omega
/-- The same further on. -/
theorem Pre.on (h : Pre w o S D m rest cnt j) (hs : Std w w1 o S D m rest cnt x k u D1 i) (hi : i ≤ j) : Pre w1 o S D1 m rest (cnt + (i : Nat)) (j - i) := by
  refine ⟨h.pos, fun q hq => ⟨fun z => ?_, Nat.lt_of_lt_of_le (h.far q hq).2 hs.kept.size⟩, fun q hq => ⟨hs.num q hq, ?_, ?_⟩, fun q hq => ⟨(h.off q hq).1, fun z => ?_⟩, ?_⟩
  · rcases hs.sub q z with y | y
    · exact (h.far q hq).1 y
    · have := (h.far q hq).2
      omega
  · have := (h.mt q hq).2.1
    omega
  · have := h.few
    omega
  · rcases hs.sub q z with y | y
    · exact (h.off q hq).2 y
    · have := h.lt hq
      omega
  · have := h.few
    omega
/-- One behind the other. -/
theorem Std.trans {x' : Nn} {k' : Fo} {u' i' : Nat} {D2 : Nat → Prop} (h : Std w w1 o S D m rest cnt x k u D1 i) (h2 : Std w1 w2 o S D1 m rest (cnt + (i : Nat)) x' k' u' D2 i') : Std w w2 o S D m rest cnt x' k' u' D2 (i + i') := by
  have hz := h.kept.size
  refine ⟨h2.tow, fun q hq => ?_, h.kept.thru h2.kept (fun q hq z => ?_), fun q hq => ?_⟩
  · rcases h2.sub q hq with y | y
    · exact h.sub q y
    · exact .inr (by omega)
  · rcases z with z | z
    · rcases h.sub q z with y | y
      · exact .inl y
      · omega
    · exact .inr z
  · have := h2.num q hq
    rw [show cnt + ((i + i' : Nat) : Int) = cnt + (i : Nat) + (i' : Nat) by omega]
    exact this
theorem Std.start (h : Pre w o S D m rest cnt j) (ht : TOw w o S x k u D) : Std w w o S D m rest cnt x k u D 0 :=
  ⟨ht, fun _ q => .inl q, Kept.refl _ _, fun q hq => by have := (h.mt q hq).1; simpa using this⟩
/-- New blocks elsewhere: nothing of it is touched. -/
theorem Std.below (h : Std w w1 o S D m rest cnt x k u D1 i) (hp : Pre w o S D m rest cnt j) (hb : Below w1.heap.size w1 w2) : Std w w2 o S D m rest cnt x k u (fun q => D1 q ∧ q < w1.heap.size) i := by
  have hz := h.kept.size
  have hk : Kept (fun q => w1.heap.size ≤ q) w1 w2 := Kept.of_below hb
  refine ⟨h.tow.there.kept hk (fun q hq y => by have := (hp.far q hq).2; omega) (fun q hq y => by have := hq.2; omega), fun q hq => h.sub q hq.1, h.kept.thru hk (fun q hq z => by omega), fun q hq => hk.blk (h.num q hq) (fun y => by have := hp.lt hq; omega)⟩
theorem Std.mono {D2 : Nat → Prop} (h : Std w w1 o S D m rest cnt x k u D1 i) (hd : ∀ q, D q → D2 q) : Std w w1 o S D2 m rest cnt x k u D1 i :=
  ⟨h.tow, fun q hq => (h.sub q hq).imp (hd q) id, h.kept.mono (fun q z => z.imp (hd q) id), h.num⟩
/-- Seen from a world ahead of it. -/
theorem Std.from {w' : World} (h : Std w w1 o S D m rest cnt x k u D1 i) (hb : Below w'.heap.size w' w) : Std w' w1 o S D m rest cnt x k u D1 i := by
  have hz := hb.size
  exact ⟨h.tow, fun q hq => (h.sub q hq).imp id (fun y => by omega), (Kept.of_below hb).trans h.kept, h.num⟩
theorem Pre.below {w' : World} (h : Pre w o S D m rest cnt j) (hb : Below w.heap.size w w') : Pre w' o S D m rest cnt j := by
  have hz := hb.size
  exact ⟨h.pos, fun q hq => ⟨(h.far q hq).1, by have := (h.far q hq).2; omega⟩, h.mt.on hb, h.off, h.few⟩
theorem Pre.there (h : Pre w o S D m rest cnt j) : Pre w o S (fun i => D i ∧ i < w.heap.size) m rest cnt j :=
  ⟨h.pos, fun q hq => ⟨fun z => (h.far q hq).1 z.1, (h.far q hq).2⟩, h.mt, fun q hq => ⟨(h.off q hq).1, fun z => (h.off q hq).2 z.1⟩, h.few⟩
theorem Pre.less (h : Pre w o S D m rest cnt j) (hi : i ≤ j) : Pre w o S D m rest cnt i :=
  ⟨h.pos, h.far, h.mt, h.off, by have := h.few; omega⟩
/-- What who puts hands on: the value, himself, the meter. -/
abbrev cmV (v o : Int) (m : Option Nat) : Value := .agg #[.int .u64 v, .int .u64 o, mtr m]
theorem ocalls {f : FuncId} {args : Array Value} {P : Program} {Q R : Ending → World → Prop} (h : Calls P f args w Q) (hq : ∀ e w', Q e w' → R e w') : Calls P f args w R := h.mono hq
set_option maxRecDepth 100000 in
/-- Own, told so. -/
theorem Std.own (hp : Pre w o S D m rest cnt j) (h : TOw w o S x k u D) :
    Calls Tryz.prog 49 #[.pointer (some ⟨u, 0, none⟩), mtr m, .int .u64 o] w fun e w' => ∃ u' D', e = .returned (.pointer (some ⟨u', 0, none⟩)) ∧ Std w w' o S D m rest cnt ⟨x.leaf, o, x.part, x.val, x.has⟩ k u' D' (if x.ow = o then 0 else 1) ∧ (x.ow = o → u' = u ∧ w' = w) := by
  refine (h.own hp.ne m cnt hp.mt (fun q hq => (hp.off q hq).1)).mono ?_
  rintro e w' ⟨u', D', rfl, h1, h2, h3, h4, h5⟩
  refine ⟨u', D', rfl, ⟨h1, h2, h3.mono (fun q z => .inr z), fun q hq => ?_⟩, h5⟩
  have := h4 q hq
  by_cases e : x.ow = o
  · rw [if_pos e] at this ⊢
    simpa using this
  · rw [if_neg e] at this ⊢
    simpa using this
set_option maxRecDepth 100000 in
theorem Std.setval (hp : Pre w o S D m rest cnt j) (h : TOw w o S x k u D) (hx : x.ow = o) (v : Int) :
    Calls Tryz.prog 50 #[.pointer (some ⟨u, 0, none⟩), .int .u64 o, .int .u64 v] w fun e w' => e = .returned (.int .i64 0) ∧ ∃ D', Std w w' o S D m rest cnt ⟨x.leaf, o, x.part, v, true⟩ k u D' 0 := by
  refine (h.setval hx hp.ne (fun q hq => (hp.far q hq).1) v).mono ?_
  rintro e w' ⟨rfl, h1, h2⟩
  exact ⟨rfl, _, h1, fun q z => z, h2.mono (fun q z => .inl z), fun q hq => by
    have := h2.blk (hp.mt q hq).1 (hp.off q hq).2
    simpa using this⟩
end
end Go.Proofs.YtikmcmoegigfhaaGreatDoor
