import Derived.Test.YtcbgieoiefbeiaaGreatDoorPutG
import Derived.Test.YtcbgieoiefbeiaaGreatDoorTowW
import Derived.Deep.RegionHeld3
import Derived.Deep.DeepCutAuto
namespace Go.Proofs.YtcbgieoiefbeiaaGreatDoor
open Go.RowKit Go.Shelf
attribute [local go_sem] Oper.semAt_some
set_option maxRecDepth 100000 in
theorem npartr_any {w : World} {g : Nat} {x : Nd} {b : Be} {A : Option Addr} (h : Nod w g x b A) : Calls Tryz.prog 44 #[.pointer (some ⟨g, 0, none⟩)] w (CrPost w x.part) := by
 obtain ⟨c, hb⟩ := h.blk
 have hc : w.cell? ⟨g, 2, none⟩ = some (.slice A x.part.length c) := hb.cell 2
 have H1 := Lib.hid (bcloner_any A x.part.length c w.heap.size x.part w h.byt (Nat.le_refl _) h.short)
 clear hb h
 generalize x.part = l at hc H1 ⊢
 generalize hn : l.length = n at hc H1
 go_enter Tryz.func44, Tryz.ntmps44
 go_wp2_with fail
 (with_reducible refine H1.out.mono ?_)
 rintro e w1 ⟨A1, c1, rfl, h0, h1, h2, h3⟩
 have HE := Lib.hid (show CrPost w l (.returned (.slice A1 l.length c1)) w1 from ⟨A1, c1, rfl, h0, h1, h2, h3⟩)
 clear h0 h1 h2 h3
 rw [hn] at HE ⊢
 go_wp2
 go_ret
 exact HE.out
structure Std (w0 w1 : World) (o : Int) (S D : Nat -> Prop) (m : Option Nat) (rest : List Value) (cnt : Int) (x : Nn) (k : Fo) (u : Nat) (D1 : Nat -> Prop) (j : Nat) : Prop where
 tow : TOw w1 o S x k u D1
 sub : ∀ i, D1 i -> D i \/ w0.heap.size <= i
 kept : Kept (fun i => D i \/ m = some i) w0 w1
 num : ∀ q, m = some q -> Lst w1 q (.int .i64 (cnt + (j : Nat)) :: rest)
structure Pre (w : World) (o : Int) (S D : Nat -> Prop) (m : Option Nat) (rest : List Value) (cnt : Int) (j : Nat) : Prop where
 pos : 1 <= o
 far : ∀ i, S i -> ¬ D i /\ i < w.heap.size
 mt : Mt w m rest cnt
 off : ∀ i, m = some i -> ¬ S i /\ ¬ D i
 few : cnt + (j : Nat) <= 9223372036854775806
theorem Kept.thru {D D' : Nat -> Prop} {a b w : World} (h : Kept D a b) (k : Kept D' b w) (hd : ∀ i, i < a.heap.size -> D' i -> D i) : Kept D a w :=
 ⟨k.os.trans h.os, k.tape.trans h.tape, k.output.trans h.output, Nat.le_trans h.size k.size, fun i hi hn => (k.block i (Nat.lt_of_lt_of_le hi h.size) (fun q => hn (hd i hi q))).trans (h.block i hi hn)⟩
section
variable {w w1 w2 : World} {o : Int} {S D D1 : Nat -> Prop} {m : Option Nat} {rest : List Value} {cnt : Int} {x : Nn} {k : Fo} {u j i : Nat}
theorem Pre.lt (h : Pre w o S D m rest cnt j) {i : Nat} (hi : m = some i) : i < w.heap.size := h.mt.lt hi
theorem Pre.ne (h : Pre w o S D m rest cnt j) : o ≠ 0 := by have := h.pos; omega
theorem Pre.on (h : Pre w o S D m rest cnt j) (hs : Std w w1 o S D m rest cnt x k u D1 i) (hi : i <= j) : Pre w1 o S D1 m rest (cnt + (i : Nat)) (j - i) := by
 refine ⟨h.pos, fun q hq => ⟨fun z => ?_, Nat.lt_of_lt_of_le (h.far q hq).2 hs.kept.size⟩, fun q hq => ⟨hs.num q hq, ?_, ?_⟩, fun q hq => ⟨(h.off q hq).1, fun z => ?_⟩, ?_⟩
 ·rcases hs.sub q z with y | y
  ·exact (h.far q hq).1 y
  ·have := (h.far q hq).2
   omega
 ·have := (h.mt q hq).2.1
  omega
 ·have := h.few
  omega
 ·rcases hs.sub q z with y | y
  ·exact (h.off q hq).2 y
  ·have := h.lt hq
   omega
 ·have := h.few
  omega
theorem Std.trans {x' : Nn} {k' : Fo} {u' i' : Nat} {D2 : Nat -> Prop} (h : Std w w1 o S D m rest cnt x k u D1 i) (h2 : Std w1 w2 o S D1 m rest (cnt + (i : Nat)) x' k' u' D2 i') : Std w w2 o S D m rest cnt x' k' u' D2 (i + i') := by
 have hz := h.kept.size
 refine ⟨h2.tow, fun q hq => ?_, h.kept.thru h2.kept (fun q hq z => ?_), fun q hq => ?_⟩
 ·rcases h2.sub q hq with y | y
  ·exact h.sub q y
  ·exact .inr (by omega)
 ·rcases z with z | z
  ·rcases h.sub q z with y | y
   ·exact .inl y
   ·omega
  ·exact .inr z
 ·have := h2.num q hq
  rw [show cnt + ((i + i' : Nat) : Int) = cnt + (i : Nat) + (i' : Nat) by omega]
  exact this
theorem Std.start (h : Pre w o S D m rest cnt j) (ht : TOw w o S x k u D) : Std w w o S D m rest cnt x k u D 0 :=
 ⟨ht, fun _ q => .inl q, Kept.refl _ _, fun q hq => by have := (h.mt q hq).1; simpa using this⟩
theorem Std.below (h : Std w w1 o S D m rest cnt x k u D1 i) (hp : Pre w o S D m rest cnt j) (hb : Below w1.heap.size w1 w2) : Std w w2 o S D m rest cnt x k u (fun q => D1 q /\ q < w1.heap.size) i := by
 have hz := h.kept.size
 have hk : Kept (fun q => w1.heap.size <= q) w1 w2 := Kept.of_below hb
 refine ⟨h.tow.there.kept hk (fun q hq y => by have := (hp.far q hq).2; omega) (fun q hq y => by have := hq.2; omega), fun q hq => h.sub q hq.1, h.kept.thru hk (fun q hq z => by omega), fun q hq => hk.blk (h.num q hq) (fun y => by have := hp.lt hq; omega)⟩
theorem Std.mono {D2 : Nat -> Prop} (h : Std w w1 o S D m rest cnt x k u D1 i) (hd : ∀ q, D q -> D2 q) : Std w w1 o S D2 m rest cnt x k u D1 i :=
 ⟨h.tow, fun q hq => (h.sub q hq).imp (hd q) id, h.kept.mono (fun q z => z.imp (hd q) id), h.num⟩
theorem Std.from {w' : World} (h : Std w w1 o S D m rest cnt x k u D1 i) (hb : Below w'.heap.size w' w) : Std w' w1 o S D m rest cnt x k u D1 i := by
 have hz := hb.size
 exact ⟨h.tow, fun q hq => (h.sub q hq).imp id (fun y => by omega), (Kept.of_below hb).trans h.kept, h.num⟩
theorem Pre.below {w' : World} (h : Pre w o S D m rest cnt j) (hb : Below w.heap.size w w') : Pre w' o S D m rest cnt j := by
 have hz := hb.size
 exact ⟨h.pos, fun q hq => ⟨(h.far q hq).1, by have := (h.far q hq).2; omega⟩, h.mt.on hb, h.off, h.few⟩
theorem Pre.there (h : Pre w o S D m rest cnt j) : Pre w o S (fun i => D i /\ i < w.heap.size) m rest cnt j :=
 ⟨h.pos, fun q hq => ⟨fun z => (h.far q hq).1 z.1, (h.far q hq).2⟩, h.mt, fun q hq => ⟨(h.off q hq).1, fun z => (h.off q hq).2 z.1⟩, h.few⟩
theorem Pre.less (h : Pre w o S D m rest cnt j) (hi : i <= j) : Pre w o S D m rest cnt i :=
 ⟨h.pos, h.far, h.mt, h.off, by have := h.few; omega⟩
abbrev cmV (v o : Int) (m : Option Nat) : Value := .agg #[.int .u64 v, .int .u64 o, mtr m]
set_option maxRecDepth 100000 in
theorem Std.own (hp : Pre w o S D m rest cnt j) (h : TOw w o S x k u D) :
  Calls Tryz.prog 60 #[.pointer (some ⟨u, 0, none⟩), mtr m, .int .u64 o] w fun e w' => ∃ u' D', e = .returned (.pointer (some ⟨u', 0, none⟩)) /\ Std w w' o S D m rest cnt ⟨x.leaf, o, x.part, x.val, x.has⟩ k u' D' (if x.ow = o then 0 else 1) /\ (x.ow = o -> u' = u /\ w' = w) := by
 refine (h.own hp.ne m cnt hp.mt (fun q hq => (hp.off q hq).1)).mono ?_
 rintro e w' ⟨u', D', rfl, h1, h2, h3, h4, h5⟩
 refine ⟨u', D', rfl, ⟨h1, h2, h3.mono (fun q z => .inr z), fun q hq => ?_⟩, h5⟩
 have := h4 q hq
 by_cases e : x.ow = o
 ·rw [if_pos e] at this ⊢
  simpa using this
 ·rw [if_neg e] at this ⊢
  simpa using this
set_option maxRecDepth 100000 in
theorem Std.setval (hp : Pre w o S D m rest cnt j) (h : TOw w o S x k u D) (hx : x.ow = o) (v : Int) :
  Calls Tryz.prog 72 #[.pointer (some ⟨u, 0, none⟩), .int .u64 o, .int .u64 v] w fun e w' => e = .returned (.int .i64 0) /\ ∃ D', Std w w' o S D m rest cnt ⟨x.leaf, o, x.part, v, true⟩ k u D' 0 := by
 refine (h.setval hx hp.ne (fun q hq => (hp.far q hq).1) v).mono ?_
 rintro e w' ⟨rfl, h1, h2⟩
 exact ⟨rfl, _, h1, fun q z => z, h2.mono (fun q z => .inl z), fun q hq => by
  have := h2.blk (hp.mt q hq).1 (hp.off q hq).2
  simpa using this⟩
end
end Go.Proofs.YtcbgieoiefbeiaaGreatDoor
namespace Go.Proofs.YtcbgieoiefbeiaaGreatDoor
open Go.RowKit Go.Shelf
attribute [local go_sem] Oper.semAt_some
section
variable {w w1 w2 W V : World} {o : Int} {S D D1 : Nat -> Prop} {m : Option Nat} {rest : List Value} {cnt : Int} {x : Nn} {k : Fo} {u j i : Nat}
theorem Pre.boxed (hp : Pre w o S D m rest cnt j) (h : TOw w o S x k u D) (cs : Array Value) (ty : TypeId) (hW : w.alloc (.cells cs ty) = W) :
  Pre W o S (fun i => D i /\ i < w.heap.size) m rest cnt j /\ Std W W o S (fun i => D i /\ i < w.heap.size) m rest cnt x k u (fun i => D i /\ i < w.heap.size) 0 /\
   ∀ V x k u D1 i, Std W V o S (fun i => D i /\ i < w.heap.size) m rest cnt x k u D1 i -> Blk V w.heap.size cs /\ ¬ D1 w.heap.size /\ Std w V o S D m rest cnt x k u D1 i := by
 subst hW
 have hb : Below w.heap.size w (w.alloc (.cells cs ty)) := (Below.refl _ _).alloc (Nat.le_refl _) _
 have p1 := hp.there.below hb
 refine ⟨p1, Std.start p1 ((Std.start hp h).below hp hb).tow, fun V x k u D1 i hs => ⟨hs.kept.blk (Blk.new w ty cs) (fun q => ?_), fun q => ?_, (hs.mono (fun q z => z.1)).from hb⟩⟩
 ·rcases q with q | q
  ·omega
  ·have := hp.lt q
   omega
 ·rcases hs.sub _ q with z | z
  ·omega
  ·have : (w.alloc (.cells cs ty)).heap.size = w.heap.size + 1 := World.size_alloc ..
   omega
theorem Pre.boxk (hp : Pre w o S D m rest cnt j) (cs : Array Value) (ty : TypeId) (hW : w.alloc (.cells cs ty) = W) (V : World) (hk : Kept (fun i => (D i /\ i < w.heap.size) \/ m = some i) W V) : Blk V w.heap.size cs := by
 subst hW
 refine hk.blk (Blk.new w ty cs) (fun q => ?_)
 rcases q with q | q
 ·omega
 ·have := hp.lt q
  omega
theorem Std.still (h : Std w w1 o S D m rest cnt x k u D1 i) (hp : Pre w o S D m rest cnt j) (hb : Still w1 w2) : Std w w2 o S D m rest cnt x k u (fun q => D1 q /\ q < w1.heap.size) i := h.below hp (hb.below _)
theorem Still.drew1 (w : World) : Still w w.drew := ⟨1, rfl⟩
theorem Std.nod (h : Std w w1 o S D m rest cnt x k u D1 i) : ∃ be A ek, Nod w1 u (x.nd ek) be A := by
 obtain ⟨be, A, ek, n, _⟩ := h.tow.tre.nod
 exact ⟨be, A, ek, n⟩
theorem Std.new {y : Nn} {u' : Nat} (h : Std w w1 o S D m rest cnt x k u D1 i) (hp : Pre w o S D m rest cnt j) (ht : TOw w2 o S y .nil u' (fun q => w1.heap.size <= q)) (hk : Kept (fun q => m = some q) w1 w2) (hn : ∀ q, m = some q -> Lst w2 q (.int .i64 (cnt + (i : Nat) + 1) :: rest)) :
  Std w w2 o S D m rest cnt y .nil u' (fun q => w1.heap.size <= q /\ q < w2.heap.size) (i + 1) /\ Std w w2 o S D m rest cnt x k u (fun q => D1 q /\ q < w1.heap.size) (i + 1) := by
 have hz := h.kept.size
 have hn' : ∀ q, m = some q -> Lst w2 q (.int .i64 (cnt + ((i + 1 : Nat) : Int)) :: rest) := fun q hq => by
  rw [show cnt + ((i + 1 : Nat) : Int) = cnt + (i : Nat) + 1 by omega]
  exact hn q hq
 have hkk := h.kept.thru hk (fun q _ z => .inr z)
 refine ⟨⟨ht.there, fun q hq => .inr (by have := hq.1; omega), hkk, hn'⟩, ⟨h.tow.there.kept hk (fun q hq y => (hp.off q y).1 hq) (fun q hq y => ?_), fun q hq => h.sub q hq.1, hkk, hn'⟩⟩
 rcases h.sub q hq.1 with z | z
 ·exact (hp.off q y).2 z
 ·have := hp.lt y
  omega
def inT (o : Int) (x : Nn) (k : Fo) : Nn × Fo := if x.leaf = true then (⟨false, o, x.part, x.val, true⟩, .nil) else (⟨false, o, x.part, x.val, x.has⟩, k)
theorem kindD_leaf {x : Nn} {ek : List Ent} (h : x.leaf = true) : kindD (x.nd ek) = 1 := by
 unfold kindD
 rw [show (x.nd ek).leaf = true from h]
 rfl
theorem kindD_inner {x : Nn} {ek : List Ent} (h : x.leaf = false) : ¬ kindD (x.nd ek) = 1 := by
 unfold kindD kindN
 rw [show (x.nd ek).leaf = false from h]
 simp only [Bool.false_eq_true, if_false]
 split
 ·omega
 ·split
  ·omega
  ·split <;> omega
def InPost (w : World) (o : Int) (S D : Nat -> Prop) (m : Option Nat) (rest : List Value) (cnt : Int) (x : Nn) (k : Fo) (u : Nat) (e : Ending) (w' : World) : Prop :=
 ∃ u' D' j, e = .returned (.pointer (some ⟨u', 0, none⟩)) /\ Std w w' o S D m rest cnt (inT o x k).1 (inT o x k).2 u' D' j /\ j = (if x.leaf = true then 1 else if x.ow = o then 0 else 1) /\ (x.leaf = false -> x.ow = o -> u' = u)
set_option maxRecDepth 100000 in
set_option maxHeartbeats 1000000 in
theorem pinner_any (hp : Pre w o S D m rest cnt 1) (h : TOw w o S x k u D) (v : Int) :
  Calls Tryz.prog 73 #[cmV v o m, .pointer (some ⟨u, 0, none⟩)] w (InPost w o S D m rest cnt x k u) := by
 obtain ⟨mp, hmp⟩ : ∃ mp, mtr m = .pointer mp := ⟨_, rfl⟩
 obtain ⟨W, hW⟩ : ∃ W, w.alloc (.cells #[.int .u64 v, .int .u64 o, .pointer mp] 95) = W := ⟨_, rfl⟩
 obtain ⟨P0, S0, BX⟩ := hp.boxed h _ _ hW
 generalize (fun i => D i /\ i < w.heap.size) = D0 at P0 S0 BX
 obtain ⟨be, A, ek, n0⟩ := S0.nod
 have HK := nkind_any n0
 show Calls _ _ #[.agg #[.int .u64 v, .int .u64 o, mtr m], _] _ _
 rw [hmp]
 have HP := Lib.hid P0
 have HS0 := Lib.hid S0
 have HBX := Lib.hid BX
 have HMP := Lib.hid hmp
 cases hl : x.leaf with
 | false =>
  have hin : inT o x k = (⟨false, o, x.part, x.val, x.has⟩, k) := by unfold inT; rw [hl]; rfl
  have hkd := kindD_inner (ek := ek) hl
  obtain ⟨kd, hkd2⟩ : ∃ z, kindD (x.nd ek) = z := ⟨_, rfl⟩
  rw [hkd2] at HK hkd
  have hkne : (kd != 1) = true := by simpa using hkd
  have HK := Lib.hid HK
  have HL := Lib.hid hl
  have HI := Lib.hid hin
  clear hp h P0 S0 BX n0 hkd hkd2 hmp hin hl
  go_enter Tryz.func73, Tryz.ntmps73
  go_wp2_with fail
  (with_reducible refine HK.out.mono ?_)
  rintro e w1 ⟨rfl, s1⟩
  have S1 := HS0.out.still HP.out s1
  have B1 := (HBX.out _ _ _ _ _ _ S1).1
  have c1 : w1.cell? ⟨w.heap.size, 1, none⟩ = some (.int .u64 o) := B1.cell 1
  have c2 : w1.cell? ⟨w.heap.size, 2, none⟩ = some (.pointer mp) := B1.cell 2
  have HO := Lib.hid (Std.own (HP.out.on S1 (Nat.zero_le _)) S1.tow)
  rw [HMP.out] at HO
  have HS1 := Lib.hid S1
  clear S1 B1 s1 hW HK
  go_wp2_with fail
  (with_reducible refine HO.out.mono ?_)
  rintro e w2 ⟨u2, D2, rfl, S2, e2⟩
  have HF := Lib.hid (HBX.out _ _ _ _ _ _ (HS1.out.trans S2)).2.2
  have HE := Lib.hid e2
  clear S2 e2
  go_wp2_with fail
  go_ret
  refine ⟨u2, D2, (if x.ow = o then 0 else 1), rfl, ?_, ?_, fun _ q => (HE.out q).1⟩
  ·rw [HI.out]
   have := HF.out
   rw [Nat.zero_add, HL.out] at this
   exact this
  ·rw [HL.out]
   rfl
 | true =>
  have hin : inT o x k = (⟨false, o, x.part, x.val, true⟩, .nil) := by unfold inT; rw [hl]; rfl
  rw [kindD_leaf hl] at HK
  have HK := Lib.hid HK
  have HL := Lib.hid hl
  have HI := Lib.hid hin
  clear hp h P0 S0 BX n0 hmp hin hl
  go_enter Tryz.func73, Tryz.ntmps73
  go_wp2_with fail
  (with_reducible refine HK.out.mono ?_)
  rintro e w1 ⟨rfl, s1⟩
  have S1 := HS0.out.still HP.out s1
  obtain ⟨be1, A1, ek1, n1⟩ := S1.nod
  have HV := Lib.hid (val_any n1)
  have HS1 := Lib.hid S1
  clear S1 s1 hW HK n1
  go_wp2_with fail
  (with_reducible refine HV.out.mono ?_)
  rintro e w2 ⟨rfl, s2⟩
  have S2 := HS1.out.still HP.out s2
  obtain ⟨be2, A2, ek2, n2⟩ := S2.nod
  have HQ := Lib.hid (fun (V : World) (hV : Still w2 V) => (npartr_any (n2.still hV)).mono (fun e V' (h : CrPost V x.part e V') => And.intro h (S2.still HP.out hV)))
  have HKX := Lib.hid (fun (V : World) (D1 : Nat -> Prop) (x1 : Nn) (k1 : Fo) (u1 i1 : Nat) (hs : Std W V o S D0 m rest cnt x1 k1 u1 D1 i1) => show V.cell? ⟨w.heap.size, 1, none⟩ = some (.int .u64 o) /\ V.cell? ⟨w.heap.size, 2, none⟩ = some (.pointer mp) from ⟨(HBX.out _ _ _ _ _ _ hs).1.cell 1, (HBX.out _ _ _ _ _ _ hs).1.cell 2⟩)
  have HI2 := Lib.hid (fun (V : World) (hV : Still w2 V) (V' : World) (A3 : Option Addr) (c3 : Nat) (h3 : CrPost V x.part (.returned (.slice A3 x.part.length c3)) V') => show Calls Tryz.prog 87 #[.pointer mp, .int .u64 o, .slice A3 x.part.length c3] V' (fun e V2 => ∃ u3, e = .returned (.pointer (some ⟨u3, 0, none⟩)) /\ Std W V2 o S D0 m rest cnt ⟨false, o, x.part, 0, false⟩ .nil u3 (fun q => V'.heap.size <= q /\ q < V2.heap.size) 1) from by
   obtain ⟨A4, c4, e4, y4, z4, b4, _⟩ := h3
   injection e4 with e4
   injection e4 with e4 _ _
   subst e4
   have S3 := (S2.still HP.out hV).below HP.out b4
   have hz := b4.size
   have hzz := S3.kept.size
   rw [<- HMP.out]
   refine (inner_tow (o := o) (S := S) m cnt x.part.length c3 V'.heap.size x.part (fun q hq => ⟨by have := S3.num q hq; simpa using this, (HP.out.mt q hq).2⟩) y4 (Nat.le_refl _) (by have := n2.short; exact this) (fun i hi e => ?_)).mono ?_
   ·have h1 := z4 i hi
    have h2 := HP.out.lt e
    have h3 := (S2.still HP.out hV).kept.size
    omega
   rintro e V2 ⟨u3, rfl, t3, k3, n3⟩
   exact ⟨u3, rfl, (Std.new S3 HP.out t3 k3 (fun q hq => by have := n3 q hq; simpa using this)).1⟩)
  have HS2 := Lib.hid S2
  obtain ⟨c1, c2⟩ := HKX.out _ _ _ _ _ _ S2
  clear S2 s2 n2 HV
  go_upto_region 4 with fail
  go_cut [1] (fun v1 wc => ∃ u3 D3, v1 = .pointer (some ⟨u3, 0, none⟩) /\ Hid (Std W wc o S D0 m rest cnt ⟨false, o, x.part, 0, false⟩ .nil u3 D3 1))
  case first =>
   go_region_held3 (fun w' => w'.cell? ⟨w.heap.size, 1, none⟩ = some (.int .u64 o) /\ w'.cell? ⟨w.heap.size, 2, none⟩ = some (.pointer mp))
    (first
    | exact HKX.out _ _ _ _ _ _ HS2.out
    | exact HKX.out _ _ _ _ _ _ (HS2.out.still HP.out (Still.drew1 _))
    | exact HKX.out _ _ _ _ _ _ q5)
    (first
    | (go_at_call 44; (with_reducible refine (HQ.out _ (Still.refl _)).mono ?_); rintro e v1 ⟨⟨A3, c3, rfl, y3, z3, b3, l3⟩, st⟩; have q5 := st.below HP.out b3; have H3 := Lib.hid (HI2.out _ (Still.refl _) _ _ _ ⟨A3, c3, rfl, y3, z3, b3, l3⟩))
    | (go_at_call 44; (with_reducible refine (HQ.out _ (Still.drew1 _)).mono ?_); rintro e v1 ⟨⟨A3, c3, rfl, y3, z3, b3, l3⟩, st⟩; have q5 := st.below HP.out b3; have H3 := Lib.hid (HI2.out _ (Still.drew1 _) _ _ _ ⟨A3, c3, rfl, y3, z3, b3, l3⟩))
    | (go_at_call 87; (with_reducible refine H3.out.mono ?_); rintro e v2 ⟨u3, rfl, s3⟩; have q5 := s3))
   all_goals
    have S3 := Lib.hid s3
    clear s3 q5
    go_wp2_with fail
    go_meet
    exact ⟨u3, _, rfl, S3⟩
  case rest =>
   obtain ⟨u3, D3, rfl, HS3⟩ := hcut
   have cc1 := (HKX.out _ _ _ _ _ _ HS3.out).1
   have HSV := Lib.hid (Std.setval (HP.out.on HS3.out (Nat.le_refl _)) HS3.out.tow rfl x.val)
   go_wp2_with fail
   (with_reducible refine HSV.out.mono ?_)
   rintro e w5 ⟨rfl, D5, s5⟩
   have HF := Lib.hid (HBX.out _ _ _ _ _ _ (HS3.out.trans s5)).2.2
   clear s5
   go_wp2_with fail
   go_ret
   refine ⟨u3, D5, 1, rfl, by rw [HI.out]; exact HF.out, by rw [HL.out]; rfl, fun q => ?_⟩
   rw [HL.out] at q
   cases q
theorem Byt.keep1 {n : Nat} {A : Option Addr} {l : List UInt8} {N : Nat -> Prop} (h : Byt w w.heap.size A n l) (hk : Kept N w V) (hN : ∀ i, Pb A l i -> ¬ N i) : Byt V w.heap.size A n l := by
 have hl := h.1
 subst hl
 exact h.keepPb fun p hp => hk.cell (h.ltPb hp) (hN _ hp)
theorem Pre.on0 (h : Pre w o S D m rest cnt j) (hs : Std w w1 o S D m rest cnt x k u D1 0) : Pre w1 o S D1 m rest cnt j := by
 have := h.on hs (Nat.zero_le _)
 rw [Nat.sub_zero, show cnt + ((0 : Nat) : Int) = cnt by omega] at this
 exact this
theorem Std.trans0 {x' : Nn} {k' : Fo} {u' i' : Nat} {D2 : Nat -> Prop} (h : Std w w1 o S D m rest cnt x k u D1 0) (h2 : Std w1 w2 o S D1 m rest cnt x' k' u' D2 i') : Std w w2 o S D m rest cnt x' k' u' D2 i' := by
 have h3 := h.trans (i' := i') (D2 := D2) (x' := x') (k' := k') (u' := u') (w2 := w2) (by rw [show cnt + ((0 : Nat) : Int) = cnt by omega]; exact h2)
 rw [Nat.zero_add] at h3
 exact h3
structure Abv (w V : World) (o : Int) (S D : Nat -> Prop) (m : Option Nat) (rest : List Value) (cnt : Int) (pre : List UInt8) (top : Nat) (Dt : Nat -> Prop) (x : Nn) (k : Fo) (u : Nat) (D1 : Nat -> Prop) (j : Nat) : Prop where
 top : TOw V o S ⟨false, o, pre, 0, false⟩ .nil top Dt
 new : ∀ i, Dt i -> w.heap.size <= i /\ i < V.heap.size
 std : Std w V o S D m rest cnt x k u D1 j
 far : ∀ i, Dt i -> ¬ D1 i
def AbPost (w : World) (o : Int) (S D : Nat -> Prop) (m : Option Nat) (rest : List Value) (cnt : Int) (x : Nn) (k : Fo) (pre : List UInt8) (b : UInt8) (pt : List UInt8) (e : Ending) (w' : World) : Prop :=
 ∃ u' D', e = .returned (.pointer (some ⟨u', 0, none⟩)) /\ Std w w' o S D m rest cnt ⟨false, o, pre, 0, false⟩ (.cons b ⟨x.leaf, o, pt, x.val, x.has⟩ k .nil) u' D' (1 + if x.ow = o then 0 else 1)
set_option maxRecDepth 100000 in
set_option maxHeartbeats 1000000 in
theorem pabove_any (hp : Pre w o S D m rest cnt 2) (h : TOw w o S x k u D) (v : Int) (s : Nat) {pre pt : List UInt8} {b : UInt8} (hx : x.part = pre ++ b :: pt) (hs : pre.length = s) :
  Calls Tryz.prog 71 #[cmV v o m, .pointer (some ⟨u, 0, none⟩), .int .i64 (s : Int)] w (AbPost w o S D m rest cnt x k pre b pt) := by
 obtain ⟨mp, hmp⟩ : ∃ mp, mtr m = .pointer mp := ⟨_, rfl⟩
 obtain ⟨W, hW⟩ : ∃ W, w.alloc (.cells #[.int .u64 v, .int .u64 o, .pointer mp] 95) = W := ⟨_, rfl⟩
 obtain ⟨P0, S0, BX⟩ := hp.boxed h _ _ hW
 have hp0 : ∀ i, m = some i -> i < w.heap.size := fun i hi => hp.lt hi
 have hD0 : ∀ i, D i /\ i < w.heap.size -> i < w.heap.size := fun i q => q.2
 generalize (fun i => D i /\ i < w.heap.size) = D0 at P0 S0 BX
 obtain ⟨be, A, ek, n0⟩ := S0.nod
 have HPT := Lib.hid (npartr_any n0)
 have hsh : x.part.length <= 140737488355328 := n0.short
 obtain ⟨n, hn⟩ : ∃ n, x.part.length = n := ⟨_, rfl⟩
 have hsn : s < n := by rw [<- hn, hx, <- hs]; simp
 have hpre : x.part.take s = pre := by rw [hx, <- hs]; simp
 have hpt : x.part.drop (s + 1) = pt := by
  rw [hx, <- hs, List.drop_append]
  simp
 have hb : x.part[s]? = some b := by rw [hx, <- hs]; simp
 show Calls _ _ #[.agg #[.int .u64 v, .int .u64 o, mtr m], _, _] _ _
 rw [hmp]
 have HP := Lib.hid P0
 have HS0 := Lib.hid S0
 have HBX := Lib.hid BX
 have HMP := Lib.hid hmp
 have HPR := Lib.hid (And.intro hpre (And.intro hpt hb))
 have HN := Lib.hid hn
 rw [show (show Nn from x).part = x.part from rfl, hn] at hsh
 have HX := Lib.hid hx
 clear hp h P0 S0 BX n0 hmp hx hs hpre hpt hb hn
 go_enter Tryz.func71, Tryz.ntmps71
 go_wp2_with fail
 (with_reducible refine HPT.out.mono ?_)
 rintro e w1 ⟨A1, c1, rfl, y1, z1, b1, l1⟩
 have S1 := HS0.out.below HP.out b1
 have P1 := HP.out.on0 S1
 have hz1 := b1.size
 obtain ⟨D1, hDe⟩ : ∃ D1, (fun q => D0 q /\ q < W.heap.size) = D1 := ⟨_, rfl⟩
 rw [hDe] at S1 P1
 have hD1 : ∀ i, D1 i -> i < W.heap.size := fun i q => by rw [<- hDe] at q; exact q.2
 clear hDe
 rw [HN.out] at y1 l1 ⊢
 obtain ⟨ad, rfl, hab, _⟩ := y1.2.2 (by omega)
 have hbx := (HBX.out _ _ _ _ _ _ S1).2.1
 have hbw : w.heap.size < w1.heap.size := Nat.lt_of_lt_of_le (by rw [<- hW, World.size_alloc]; omega) hz1
 have HKX := Lib.hid (fun (V : World) (hk : Kept (fun q => D1 q \/ m = some q) w1 V) => show (V.cell? ⟨w.heap.size, 1, none⟩ = some (.int .u64 o) /\ V.cell? ⟨w.heap.size, 2, none⟩ = some (.pointer mp)) from by
  have h1 := hk.blk (HBX.out _ _ _ _ _ _ S1).1 (fun q => by
   rcases q with q | q
   ·exact hbx q
   ·have h2 := HP.out.lt q
    have h3 := hp0 _ q
    omega)
  exact ⟨h1.cell 1, h1.cell 2⟩)
 have HKB := Lib.hid (fun (V : World) (hk : Kept (fun q => D1 q \/ m = some q) w1 V) => show Byt V w1.heap.size (some ad) n x.part from y1.keep1 hk (fun i hi q => by
  have h2 := z1 i hi
  rcases q with q | q
  ·have := hD1 i q
   omega
  ·have := HP.out.lt q
   omega))
 have HI := Lib.hid (fun (V : World) (hV : Still w1 V) => show Calls Tryz.prog 87 #[.pointer mp, .int .u64 o, .slice (some ad) s c1] V (fun e V2 => ∃ u2, e = .returned (.pointer (some ⟨u2, 0, none⟩)) /\ ∃ Dt D2, Abv w1 V2 o S D1 m rest cnt pre u2 Dt x k u D2 1) from by
  have Sa := (Std.start P1 S1.tow).still P1 hV
  have hza := Sa.kept.size
  have hy := (HKB.out V Sa.kept).take (Nat.le_of_lt hsn)
  rw [HPR.out.1] at hy
  rw [<- HMP.out]
  refine (inner_tow (o := o) (S := S) m cnt s c1 w1.heap.size pre (fun q hq => ⟨by have := Sa.num q hq; simpa using this, (P1.mt q hq).2⟩) hy hza (by omega) (fun i hi e => ?_)).mono ?_
  ·have h1 := z1 i ⟨fun q => by have := HN.out; rw [q] at this; simp at this; omega, hi.2⟩
   have h2 := HP.out.lt e
   omega
  rintro e V2 ⟨u2, rfl, t3, k3, n3⟩
  have hzb := k3.size
  obtain ⟨q1, q2⟩ := Std.new Sa P1 t3 k3 (fun q hq => by have := n3 q hq; simpa using this)
  exact ⟨u2, rfl, _, _, ⟨q1.tow, fun i hi => ⟨by have := hi.1; omega, hi.2⟩, q2, fun i hi z => by have := hi.1; have := z.2; omega⟩⟩)
 have sl1 := fun W' => slc_upto (P := Tryz.prog) Tryz.underlying23 size_u8 (some ad) n c1 s (by omega) W'
 obtain ⟨k1, k2⟩ := HKX.out w1 (Kept.refl _ _)
 have HP1 := Lib.hid P1
 have HS1 := Lib.hid S1
 clear P1 S1 HPT HS0
 go_upto_region 2 with fail
 go_cut [8] (fun v8 wc => ∃ u2, v8 = .pointer (some ⟨u2, 0, none⟩) /\ Hid (∃ Dt D2, Abv w1 wc o S D1 m rest cnt pre u2 Dt x k u D2 1))
 case first =>
  go_region_held3 (fun w' => w'.cell? ⟨w.heap.size, 1, none⟩ = some (.int .u64 o) /\ w'.cell? ⟨w.heap.size, 2, none⟩ = some (.pointer mp))
   (first
   | exact HKX.out _ (Kept.refl _ _)
   | exact HKX.out _ (Kept.refl _ _).drew
   | exact HKX.out _ q5)
   (first
   | (go_at_call 87; (with_reducible refine (HI.out _ (Still.refl _)).mono ?_); rintro e v2 ⟨u2, rfl, Dt, D2, s3⟩; have q5 := s3.std.kept)
   | (go_at_call 87; (with_reducible refine (HI.out _ (Still.drew1 _)).mono ?_); rintro e v2 ⟨u2, rfl, Dt, D2, s3⟩; have q5 := s3.std.kept))
  all_goals
   have S3 := Lib.hid s3
   clear s3 q5
   go_wp2_with fail
   go_meet
   exact ⟨u2, rfl, Lib.hid ⟨_, _, S3.out⟩⟩
 case rest =>
 obtain ⟨u2, rfl, HA2⟩ := hcut
 obtain ⟨Dt, D2, s2⟩ := HA2.out
 have hz2 := s2.std.kept.size
 have P2 := HP1.out.on s2.std (by omega)
 have HO := Lib.hid (Std.own P2 s2.std.tow)
 rw [HMP.out] at HO
 obtain ⟨k1, k2⟩ := HKX.out wc s2.std.kept
 have HS2 := Lib.hid s2
 have HP2 := Lib.hid P2
 clear s2 P2 HA2 hz2 sl1
 go_wp2_with fail
 (with_reducible refine HO.out.mono ?_)
 rintro e w3 ⟨u3, D3, rfl, s3, _⟩
 have HA3 := Lib.hid (show Abv w1 w3 o S D1 m rest cnt pre u2 Dt ⟨x.leaf, o, x.part, x.val, x.has⟩ k u3 D3 (1 + if x.ow = o then 0 else 1) from
  ⟨HS2.out.top.kept s3.kept (fun q hq y => y.elim (HP2.out.far q hq).1 (fun z => (HP2.out.off q z).1 hq)) (fun q hq y => y.elim (HS2.out.far q hq) (fun z => by have := (HS2.out.new q hq).1; have := HP1.out.lt z; omega)), fun q hq => ⟨(HS2.out.new q hq).1, by have := (HS2.out.new q hq).2; have := s3.kept.size; omega⟩, HS2.out.std.trans s3, fun q hq y => (s3.sub q y).elim (HS2.out.far q hq) (fun z => by have := (HS2.out.new q hq).2; omega)⟩)
 clear s3 HO HS2 HP2 k1 k2
 obtain ⟨j3, hj3⟩ : ∃ j, (1 + if x.ow = o then 0 else 1) = j := ⟨_, rfl⟩
 have hj3' : j3 <= 2 := by rw [<- hj3]; split <;> omega
 rw [hj3] at HA3
 have HJ := Lib.hid hj3
 clear hj3
 obtain ⟨s1, hs1⟩ : ∃ X, s + 1 = X := ⟨_, rfl⟩
 have hs1n : s1 <= n := by omega
 have ew : IntKind.i64.wrap ((s : Int) + 1) = (s1 : Int) := by rw [IntKind.wrap_i64]; omega
 have sl2 := fun W' => slc_from (P := Tryz.prog) Tryz.underlying23 size_u8 (some ad) n c1 s1 hs1n W'
 obtain ⟨Ap, hAp⟩ : ∃ X, cutA (some ad) s1 c1 1 = X := ⟨_, rfl⟩
 obtain ⟨np, hnp⟩ : ∃ X, n - s1 = X := ⟨_, rfl⟩
 obtain ⟨cp, hcp⟩ : ∃ X, c1 - s1 = X := ⟨_, rfl⟩
 have hdr := HPR.out.2.1
 rw [hs1] at hdr
 rw [hAp, hnp, hcp] at sl2
 have HSP := Lib.hid (fun (V : World) (hV : Still w3 V) => show Calls Tryz.prog 100 #[.pointer (some ⟨u3, 0, none⟩), .int .u64 o, .slice Ap np cp] V (fun e V2 => e = .returned (.int .i64 0) /\ ∃ D4, Abv w1 V2 o S D1 m rest cnt pre u2 Dt ⟨x.leaf, o, pt, x.val, x.has⟩ k u3 D4 j3) from by
  have Sa := HA3.out.std.still HP1.out hV
  have hza := Sa.kept.size
  have hzv := (hV.below w3.heap.size).size
  have hy := (HKB.out V Sa.kept).cut_ s1 n hs1n (Nat.le_refl _) l1
  rw [List.take_of_length_le (by rw [HN.out]; exact Nat.le_refl _), hdr, hAp, hnp] at hy
  have Pa := HP1.out.on Sa hj3'
  refine (Sa.tow.setpart rfl Pa.ne (fun q hq => (Pa.far q hq).1) Ap np cp w1.heap.size pt hy hza (by omega)).mono ?_
  rintro e V2 ⟨rfl, t4, k4⟩
  have hz4 := k4.size
  have ht := (HA3.out.top.kept (N := fun _ => False) (Kept.of_below (hV.below w3.heap.size)) (fun q _ y => y) (fun q _ y => y)).kept k4 (fun q hq y => (Pa.far q hq).1 y) (fun q hq y => HA3.out.far q hq y.1)
  refine ⟨rfl, _, ⟨ht, fun q hq => ⟨(HA3.out.new q hq).1, by have := (HA3.out.new q hq).2; omega⟩, ⟨t4.there, fun q hq => ?_, Sa.kept.thru k4 (fun q hq y => ?_), fun q hq => k4.blk (Sa.num q hq) (fun y => (Pa.off q hq).2 y)⟩, fun q hq y => ?_⟩⟩
  ·rcases hq.1 with y | y
   ·exact Sa.sub q y
   ·exact .inr (by omega)
  ·rcases Sa.sub q y with z | z
   ·exact .inl z
   ·omega
  ·rcases y.1 with z | z
   ·exact HA3.out.far q hq z.1
   ·have := (HA3.out.new q hq).2
    omega)
 have HKS := Lib.hid (fun (V : World) (x1 : Nn) (k1 : Fo) (v1 : Nat) (D1' : Nat -> Prop) (i1 : Nat) (hs : Std w1 V o S D1 m rest cnt x1 k1 v1 D1' i1) => HKX.out V hs.kept)
 obtain ⟨k1, k2⟩ := HKX.out w3 HA3.out.std.kept
 clear hAp hnp hcp hdr hs1 hs1n
 go_upto_region 4 with fail
 go_cut [8] (fun v8 wc => v8 = .pointer (some ⟨u2, 0, none⟩) /\ Hid (∃ D4, Abv w1 wc o S D1 m rest cnt pre u2 Dt ⟨x.leaf, o, pt, x.val, x.has⟩ k u3 D4 j3))
 case first =>
  go_region_held3 (fun w' => w'.cell? ⟨w.heap.size, 1, none⟩ = some (.int .u64 o) /\ w'.cell? ⟨w.heap.size, 2, none⟩ = some (.pointer mp))
   (first
   | exact HKX.out _ HA3.out.std.kept
   | exact HKX.out _ HA3.out.std.kept.drew
   | exact HKX.out _ q5)
   (first
   | (go_at_call 100; (with_reducible refine (HSP.out _ (Still.refl _)).mono ?_); rintro e v2 ⟨rfl, D4, s4⟩; have q5 := s4.std.kept)
   | (go_at_call 100; (with_reducible refine (HSP.out _ (Still.drew1 _)).mono ?_); rintro e v2 ⟨rfl, D4, s4⟩; have q5 := s4.std.kept))
  all_goals
   have S4 := Lib.hid s4
   clear s4 q5
   go_wp2_with fail
   go_meet
   exact ⟨rfl, Lib.hid ⟨_, S4.out⟩⟩
 case rest =>
 obtain ⟨rfl, HA4⟩ := hcut
 obtain ⟨D4, s4⟩ := HA4.out
 obtain ⟨k1, k2⟩ := HKX.out wc s4.std.kept
 have HSK := Lib.hid (fun (V : World) (hV : Still wc V) => show Calls Tryz.prog 61 #[.pointer (some ⟨u2, 0, none⟩), .int .u64 o, .int .u8 (b.toNat : Int), .pointer (some ⟨u3, 0, none⟩)] V (fun e V2 => e = .returned (.int .i64 0) /\ ∃ D5, Std w1 V2 o S D1 m rest cnt ⟨false, o, pre, 0, false⟩ (.cons b ⟨x.leaf, o, pt, x.val, x.has⟩ k .nil) u2 D5 j3) from by
  have Sa := s4.std.still HP1.out hV
  have hzv := (hV.below wc.heap.size).size
  have ht := s4.top.kept (N := fun _ => False) (Kept.of_below (hV.below wc.heap.size)) (fun q _ y => y) (fun q _ y => y)
  refine (TOw.setnew ht rfl HP1.out.ne rfl Sa.tow (fun q hq y => s4.far q hq y.1) (fun q hq y => by have := (HP1.out.far q hq).2; have := (s4.new q y).1; omega) (b.toNat : Int) rfl).mono ?_
  rintro e V2 ⟨rfl, t5, k5⟩
  have hz5 := k5.size
  refine ⟨rfl, _, ⟨t5, fun q hq => ?_, Sa.kept.thru k5 (fun q hq y => ?_), fun q hq => k5.blk (Sa.num q hq) (fun y => ?_)⟩⟩
  ·have := Sa.kept.size
   rcases hq with (y | y) | y
   ·exact .inr (s4.new q y).1
   ·exact Sa.sub q y
   ·exact .inr (by omega)
  ·have := (s4.new q y).1
   omega
  ·have := (s4.new q y).1
   have := HP1.out.lt hq
   omega)
 have hzs : (0 : Int) <= (s : Int) := by omega
 have hzt : (s : Int) < (n : Int) := by omega
 have hzn : ((s : Int)).toNat = s := by omega
 have hby : ∀ V, Kept (fun q => D1 q \/ m = some q) w1 V -> V.cell? (ad.add s) = some (.int .u8 (b.toNat : Int)) := fun V hk => by
  obtain ⟨ad', e, _, hc⟩ := (HKB.out V hk).2.2 (by omega)
  injection e with e
  subst e
  exact hc s b HPR.out.2.2
 have HBY := Lib.hid hby
 have k3 := hby wc s4.std.kept
 have HS4 := Lib.hid s4
 have HBF := Lib.hid (fun (V : World) (D5 : Nat -> Prop) (h : Std w1 V o S D1 m rest cnt ⟨false, o, pre, 0, false⟩ (.cons b ⟨x.leaf, o, pt, x.val, x.has⟩ k .nil) u2 D5 j3) => (HBX.out _ _ _ _ _ _ (HS1.out.trans0 h)).2.2)
 obtain ⟨bz, hbz⟩ : ∃ z : Int, (b.toNat : Int) = z := ⟨_, rfl⟩
 rw [hbz] at HSK HBY k3
 clear hby s4 HA4 hbz
 go_upto_region 5 with fail
 go_cut [8] (fun v8 wc => v8 = .pointer (some ⟨u2, 0, none⟩) /\ Hid (∃ D5, Std w1 wc o S D1 m rest cnt ⟨false, o, pre, 0, false⟩ (.cons b ⟨x.leaf, o, pt, x.val, x.has⟩ k .nil) u2 D5 j3))
 case first =>
  go_region_held3 (fun w' => (w'.cell? ⟨w.heap.size, 1, none⟩ = some (.int .u64 o) /\ w'.cell? ⟨w.heap.size, 2, none⟩ = some (.pointer mp)) /\ w'.cell? (ad.add s) = some (.int .u8 bz))
   (first
   | exact ⟨HKX.out _ HS4.out.std.kept, HBY.out _ HS4.out.std.kept⟩
   | exact ⟨HKX.out _ HS4.out.std.kept.drew, HBY.out _ HS4.out.std.kept.drew⟩
   | exact ⟨HKX.out _ q5, HBY.out _ q5⟩)
   (first
   | (go_at_call 61; (with_reducible refine (HSK.out _ (Still.refl _)).mono ?_); rintro e v2 ⟨rfl, D5, s5⟩; have q5 := s5.kept)
   | (go_at_call 61; (with_reducible refine (HSK.out _ (Still.drew1 _)).mono ?_); rintro e v2 ⟨rfl, D5, s5⟩; have q5 := s5.kept))
  all_goals
   have S5 := Lib.hid s5
   clear s5 q5
   go_wp2_with fail
   go_meet
   exact ⟨rfl, Lib.hid ⟨_, S5.out⟩⟩
 case rest =>
 obtain ⟨rfl, HA5⟩ := hcut
 go_wp2_with fail
 go_ret
 obtain ⟨D5, s5⟩ := HA5.out
 exact ⟨u2, D5, rfl, by rw [HJ.out]; exact HBF.out _ _ s5⟩
end
end Go.Proofs.YtcbgieoiefbeiaaGreatDoor
namespace Go.Proofs.YtcbgieoiefbeiaaGreatDoor
open Go.RowKit Go.Shelf
attribute [local go_sem] Oper.semAt_some
def omx (o : Int) : Option (Nn × Fo) -> List UInt8 -> Nat
 | none, _ => 1
 | some t, l => tway o t.1 t.2 l + 2
theorem omx_pos (o : Int) (t : Option (Nn × Fo)) (l : List UInt8) : 1 <= omx o t l := by
 cases t with
 | none => exact Nat.le_refl _
 | some t => show 1 <= _ + 2; omega
theorem omx_le (o : Int) (t : Option (Nn × Fo)) (l : List UInt8) : omx o t l <= oway o t l + 2 := by
 cases t with
 | none => show 1 <= 0 + 2; omega
 | some t => exact Nat.le_refl _
def IPost (o v : Int) (w : World) (S D : Nat -> Prop) (m : Option Nat) (rest : List Value) (cnt : Int) (t : Option (Nn × Fo)) (p : Option Addr) (l : List UInt8) (e : Ending) (w' : World) : Prop :=
 ∃ u D' j, e = .returned (.pointer (some ⟨u, 0, none⟩)) /\ Std w w' o S D m rest cnt (oput o v t l).1 (oput o v t l).2 u D' j /\ j <= omx o t l /\ (ohit t l = true -> j <= oway o t l /\ (oway o t l = 0 -> p = some ⟨u, 0, none⟩))
def Into (o v : Int) (f : Nat) : Prop :=
 ∀ (l : List UInt8) (t : Option (Nn × Fo)) (p A : Option Addr) (n c : Nat) (S D : Nat -> Prop) (m : Option Nat) (rest : List Value) (cnt : Int) (w : World),
  l.length < f -> OTow w o S t p D -> osrt t -> Pre w o S D m rest cnt (omx o t l) -> (∀ V, Kept (fun q => D q \/ m = some q) w V -> Byt V w.heap.size A n l) -> (∀ i, Pb A l i -> m ≠ some i) -> n <= c -> n <= 1000000 ->
  Calls Tryz.prog 38 #[cmV v o m, .pointer p, .slice A n c] w (IPost o v w S D m rest cnt t p l)
structure KTail (o v : Int) (x : Nn) (k : Fo) (l : List UInt8) (x1 : Nn) (k1 : Fo) (d : UInt8) (lr : List UInt8) (j2 : Nat) : Prop where
 put : tput o v x k l = ((inT o x1 k1).1, (inT o x1 k1).2.set d (oput o v ((inT o x1 k1).2.kid d) lr).1 (oput o v ((inT o x1 k1).2.kid d) lr).2)
 srt : osrt ((inT o x1 k1).2.kid d)
 cnt : j2 + omx o ((inT o x1 k1).2.kid d) lr <= tway o x k l + 2
 hit : thit x k l = true -> ohit ((inT o x1 k1).2.kid d) lr = true /\ j2 + oway o ((inT o x1 k1).2.kid d) lr <= tway o x k l /\ (tway o x k l = 0 -> x1.leaf = false /\ x1.ow = o)
theorem inT_own (o : Int) (x : Nn) (k : Fo) : (inT o x k).1.ow = o /\ (inT o x k).1.leaf = false := by
 unfold inT
 split <;> exact ⟨rfl, rfl⟩
section
variable {w w1 w2 W V : World} {o v : Int} {S D D1 : Nat -> Prop} {m : Option Nat} {rest : List Value} {cnt : Int} {x : Nn} {k : Fo} {l : List UInt8} {u j i s : Nat}
theorem no_beg (hl : lcp l x.part = s) (h : s < x.part.length) : begB l x.part = false := by
 unfold begB
 rw [decide_eq_false_iff_not]
 omega
theorem is_beg (hl : lcp l x.part = s) (h : s = x.part.length) : begB l x.part = true := by
 unfold begB
 rw [decide_eq_true_eq]
 omega
theorem Std.hide (h : Std w w1 o S D m rest cnt x k u D1 i) : ∃ D', Std w w1 o S D m rest cnt x k u D' i := ⟨_, h⟩
theorem ktail_above (hl : lcp l x.part = s) {b d : UInt8} {pt lr : List UInt8} (h1 : x.part.drop s = b :: pt) (h2 : l.drop s = d :: lr) :
  KTail o v x k l ⟨false, o, l.take s, 0, false⟩ (.cons b ⟨x.leaf, o, pt, x.val, x.has⟩ k .nil) d lr (1 + (if x.ow = o then 0 else 1)) := by
 subst hl
 have hbd := lcp_two h1 h2
 have hlt : lcp l x.part < x.part.length := by
  have := congrArg List.length h1
  simp at this
  omega
 have hb : begB l x.part = false := no_beg rfl hlt
 have hkid : (Fo.cons b ⟨x.leaf, o, pt, x.val, x.has⟩ k .nil).kid d = none := by
  rw [Fo.kid, if_neg hbd]
  rfl
 have hin : inT o ⟨false, o, l.take (lcp l x.part), 0, false⟩ (.cons b ⟨x.leaf, o, pt, x.val, x.has⟩ k .nil) = (⟨false, o, l.take (lcp l x.part), 0, false⟩, .cons b ⟨x.leaf, o, pt, x.val, x.has⟩ k .nil) := rfl
 refine ⟨?_, ?_, ?_, fun q => ?_⟩
 ·rw [hin, tput_forks h1 h2]
  dsimp only
  rw [hkid, <- set_two (fun e => hbd e.symm)]
  rfl
 ·rw [hin]
  dsimp only
  rw [hkid]
  trivial
 ·rw [hin]
  dsimp only
  rw [hkid, tway_no hb]
  show _ + 1 <= _
  omega
 ·rw [thit_no hb] at q
  cases q
theorem ktail_on (hk : osrt (some (x, k))) (hl : lcp l x.part = s) (h1 : s = x.part.length) {d : UInt8} {lr : List UInt8} (h2 : l.drop s = d :: lr) :
  KTail o v x k l x k d lr (if x.leaf = true then 1 else if x.ow = o then 0 else 1) := by
 have hb := is_beg hl h1
 have hp : x.part.drop (lcp l x.part) = [] := by rw [hl, h1]; exact List.drop_length ..
 have h2' : l.drop (lcp l x.part) = d :: lr := by rw [hl]; exact h2
 have h3 : l.drop x.part.length = d :: lr := by rw [<- h1]; exact h2
 have hw := tway_on (o := o) (k := k) hb h3
 have hh := thit_on (k := k) hb h3
 cases hlf : x.leaf with
 | true =>
  have hkn : k = .nil := hk.1 hlf
  subst hkn
  have hin : inT o x .nil = (⟨false, o, x.part, x.val, true⟩, .nil) := by unfold inT; rw [hlf]; rfl
  refine ⟨?_, ?_, ?_, fun q => ?_⟩
  ·rw [hin, tput_grows hp h2' hlf]
   rfl
  ·rw [hin]
   trivial
  ·rw [hin, hw]
   show 1 + 1 <= _
   omega
  ·rw [hh] at q
   cases q
 | false =>
  have hin : inT o x k = (⟨false, o, x.part, x.val, x.has⟩, k) := by unfold inT; rw [hlf]; rfl
  refine ⟨?_, ?_, ?_, fun q => ?_⟩
  ·rw [hin, tput_goes' hk.2 hp h2' hlf]
  ·rw [hin]
   exact Fo.srt_kid hk.2
  ·rw [hin, hw]
   have := omx_le o (k.kid d) lr
   dsimp only
   simp only [Bool.false_eq_true, if_false]
   omega
  ·rw [hin]
   dsimp only
   simp only [Bool.false_eq_true, if_false]
   refine ⟨hh ▸ q, by rw [hw]; exact Nat.le_refl _, fun z => ⟨hlf, ?_⟩⟩
   rw [hw] at z
   by_cases e : x.ow = o
   ·exact e
   ·rw [if_neg e] at z
    omega
structure VTail (o v : Int) (x : Nn) (k : Fo) (l : List UInt8) (u : Nat) (x1 : Nn) (k1 : Fo) (u1 : Nat) (j1 : Nat) : Prop where
 put : tput o v x k l = (⟨x1.leaf, o, x1.part, v, true⟩, k1)
 cnt : j1 + (if x1.ow = o then 0 else 1) <= tway o x k l + 2
 hit : thit x k l = true -> j1 + (if x1.ow = o then 0 else 1) <= tway o x k l /\ (tway o x k l = 0 -> x1.ow = o /\ u1 = u)
theorem vtail_above (hl : lcp l x.part = s) (hn : l.length = s) {b : UInt8} {pt : List UInt8} (h1 : x.part.drop s = b :: pt) (u u1 : Nat) :
  VTail o v x k l u ⟨false, o, l.take s, 0, false⟩ (.cons b ⟨x.leaf, o, pt, x.val, x.has⟩ k .nil) u1 (1 + (if x.ow = o then 0 else 1)) := by
 have hlt : s < x.part.length := by
  have := congrArg List.length h1
  simp at this
  omega
 have hb : begB l x.part = false := no_beg hl hlt
 have h2 : l.drop (lcp l x.part) = [] := by rw [hl, <- hn]; exact List.drop_length ..
 refine ⟨?_, ?_, fun q => ?_⟩
 ·rw [tput_ends (by rw [hl]; exact h1) h2, List.take_of_length_le (by omega)]
 ·rw [tway_no hb]
  dsimp only
  rw [if_pos rfl]
  omega
 ·rw [thit_no hb] at q
  cases q
theorem vtail_here (hl : lcp l x.part = s) (hn : l.length = s) (h1 : s = x.part.length) (u : Nat) : VTail o v x k l u x k u 0 := by
 have hb := is_beg hl h1
 have h2 : l.drop (lcp l x.part) = [] := by rw [hl, <- hn]; exact List.drop_length ..
 have h3 : x.part.drop (lcp l x.part) = [] := by rw [hl, h1]; exact List.drop_length ..
 have hw := tway_end (o := o) (k := k) hb (by omega)
 refine ⟨by rw [tput_here h3 h2], by rw [hw]; omega, fun _ => ⟨by rw [hw]; omega, fun q => ⟨?_, rfl⟩⟩⟩
 rw [hw] at q
 by_cases e : x.ow = o
 ·exact e
 ·rw [if_neg e] at q
  cases q
theorem Pre.sub (h : Pre w o S D m rest cnt j) (hd : ∀ q, D1 q -> D q) : Pre w o S D1 m rest cnt j :=
 ⟨h.pos, fun q hq => ⟨fun z => (h.far q hq).1 (hd q z), (h.far q hq).2⟩, h.mt, fun q hq => ⟨(h.off q hq).1, fun z => (h.off q hq).2 (hd q z)⟩, h.few⟩
set_option maxRecDepth 100000 in
theorem Std.gone (hp : Pre W o S D m rest cnt j) (hs : Std W w o S D m rest cnt x k u D1 i) (hi : i <= j) (hx : x.ow = o) (hl : x.leaf = false) (d : UInt8) :
  ∃ (p : Option Addr) (Dy : Nat -> Prop), (∀ V, Still w V -> Calls Tryz.prog 49 #[.pointer (some ⟨u, 0, none⟩), .int .u8 (d.toNat : Int)] V fun e V' => e = .returned (.pointer p) /\ Still V V') /\
   (∀ V, Still w V -> OTow V o S (k.kid d) p Dy /\ Pre V o S Dy m rest (cnt + (i : Nat)) (j - i)) /\
   (∀ V V2, Still w V -> Kept (fun q => Dy q \/ m = some q) V V2 -> Kept (fun q => D q \/ m = some q) W V2) /\
   ∀ V V2 y l' u' D' i', Still w V -> Std V V2 o S Dy m rest (cnt + (i : Nat)) y l' u' D' i' -> Calls Tryz.prog 61 #[.pointer (some ⟨u, 0, none⟩), .int .u64 o, .int .u8 (d.toNat : Int), .pointer (some ⟨u', 0, none⟩)] V2 fun e V3 => e = .returned (.int .i64 0) /\ ∃ D3, Std W V3 o S D m rest cnt x (k.set d y l') u D3 (i + i') := by
 have P1 := hp.on hs hi
 obtain ⟨ek, Dy, h1, h2, h3⟩ := hs.tow.opn hx d
 obtain ⟨be, A, n1⟩ := h1.nod
 have hz0 := hs.kept.size
 have hkk : ∀ V V2, Still w V -> Kept (fun q => Dy q \/ m = some q) V V2 -> Kept (fun q => D q \/ m = some q) W V2 := fun V V2 hV hk => (hs.kept.thru (Kept.of_below (hV.below w.heap.size) (D := fun _ => False)) (fun q _ y => y.elim)).thru hk (fun q hq y => by
  rcases y with y | y
  ·rcases hs.sub q (h3 q y).1 with z | z
   ·exact .inl z
   ·omega
  ·exact .inr y)
 refine ⟨_, Dy, fun V hV => nkid_any (n1.still hV) d _ rfl, fun V hV => ⟨?_, (P1.below (hV.below _)).sub (fun q hq => (h3 q hq).1)⟩, hkk, fun V V2 y l' u' D' i' hV h4 => ?_⟩
 ·have hk : Kept (fun _ => False) w V := Kept.of_below (hV.below w.heap.size)
  generalize k.kid d = t at h2
  show OTow V o S t (getE ek d.toNat) Dy
  cases t with
  | none => exact h2
  | some T =>
   obtain ⟨g, e, h⟩ := h2
   exact ⟨g, e, h.kept hk (fun _ _ q => q) (fun _ _ q => q)⟩
 ·have hz1 := (hV.below w.heap.size).size
  have hz2 := h4.kept.size
  have h5 := (h1.kept (N := fun _ => False) (Kept.of_below (hV.below w.heap.size)) (fun _ _ q => q) (fun _ q => q.elim)).kept h4.kept (fun q hq y => y.elim (fun z => (P1.far q hq).1 (h3 q z).1) (fun z => (P1.off q z).1 hq)) (fun q y => y.imp id (fun z => (P1.off q z).2))
  refine (h5.close hx hp.ne hl (by omega) h4.tow (fun q hq => (h4.sub q hq).imp id (fun z => by omega)) (fun q hq => (h3 q hq).1) (fun q hq => (P1.far q hq).1) _ rfl).mono ?_
  rintro e V3 ⟨rfl, t3, k3⟩
  refine ⟨rfl, _, t3, fun q hq => ?_, (hkk V V2 hV h4.kept).thru k3 (fun q hq y => ?_), fun q hq => ?_⟩
  ·rcases hq with y | y
   ·exact hs.sub q y
   ·exact .inr (by omega)
  ·rcases hs.sub q y with z | z
   ·exact .inl z
   ·omega
  ·have := k3.blk (h4.num q hq) (fun y => (P1.off q hq).2 y)
   rw [show cnt + ((i + i' : Nat) : Int) = cnt + (i : Nat) + (i' : Nat) by omega]
   exact this
set_option maxRecDepth 100000 in
set_option maxHeartbeats 1000000 in
theorem into_none (o v : Int) (l : List UInt8) (p A : Option Addr) (n c : Nat) (S D : Nat -> Prop) (m : Option Nat) (rest : List Value) (cnt : Int) (w : World)
  (ht : OTow w o S none p D) (hp : Pre w o S D m rest cnt 1) (hky : ∀ V, Kept (fun q => D q \/ m = some q) w V -> Byt V w.heap.size A n l) (hkm : ∀ i, Pb A l i -> m ≠ some i) (hn : n <= 1000000) :
  Calls Tryz.prog 38 #[cmV v o m, .pointer p, .slice A n c] w (IPost o v w S D m rest cnt none p l) := by
 obtain rfl : p = none := ht
 obtain ⟨mp, hmp⟩ : ∃ mp, mtr m = .pointer mp := ⟨_, rfl⟩
 obtain ⟨W, hW⟩ : ∃ W, w.alloc (.cells #[.int .u64 v, .int .u64 o, .pointer mp] 95) = W := ⟨_, rfl⟩
 have hb : Below w.heap.size w W := by rw [<- hW]; exact (Below.refl _ _).alloc (Nat.le_refl _) _
 have BX : Blk W w.heap.size #[.int .u64 v, .int .u64 o, .pointer mp] := by rw [<- hW]; exact Blk.new w _ _
 have c0 : W.cell? ⟨w.heap.size, 0, none⟩ = some (.int .u64 v) := BX.cell 0
 have c1 : W.cell? ⟨w.heap.size, 1, none⟩ = some (.int .u64 o) := BX.cell 1
 have c2 : W.cell? ⟨w.heap.size, 2, none⟩ = some (.pointer mp) := BX.cell 2
 have HK := Lib.hid (nkind_nil W)
 have HL := Lib.hid (leaf_tow (o := o) (S := S) m cnt v n c w.heap.size l (hp.mt.on hb) (hky W (Kept.of_below hb)) hb.size (by omega) hkm)
 have HF := Lib.hid (show ∀ e w', NewTow o S W m rest cnt ⟨true, o, l, v, true⟩ e w' -> IPost o v w S D m rest cnt none none l e w' from fun e w' h => by
  obtain ⟨u, rfl, h1, h2, h3⟩ := h
  have hz := hb.size
  exact ⟨u, _, 1, rfl, ⟨h1, fun q hq => .inr (by omega), (Kept.of_below hb).trans (h2.mono (fun q z => .inr z)), h3⟩, Nat.le_refl _, fun q => by cases q⟩)
 show Calls _ _ #[.agg #[.int .u64 v, .int .u64 o, mtr m], _, _] _ _
 rw [hmp] at HL ⊢
 clear hp hky hkm BX hb hmp
 go_enter Tryz.func38, Tryz.ntmps38
 go_wp2_with fail
 (with_reducible refine HK.out.mono ?_)
 rintro e w1 ⟨rfl, rfl⟩
 clear hW
 go_wp2_with fail
 (with_reducible refine HL.out.mono ?_)
 intro e w2 h
 have HE := Lib.hid (HF.out _ _ h)
 obtain ⟨u2, rfl, _⟩ := h
 clear HF HL
 go_wp2_with fail
 go_ret
 exact HE.out
set_option maxRecDepth 100000 in
set_option maxHeartbeats 4000000 in
theorem into_step {f : Nat} (ih : Into o v f) : Into o v (f + 1) := by
 intro l t p A n c S D m rest cnt w hlen ht hsr hp hky hkm hnc hn
 cases t with
 | none => exact into_none o v l p A n c S D m rest cnt w ht hp hky hkm hn
 | some T =>
 obtain ⟨x, k⟩ := T
 obtain ⟨u, rfl, h⟩ := ht
 have hll : l.length = n := (hky w (Kept.refl _ _)).1
 obtain ⟨mp, hmp⟩ : ∃ mp, mtr m = .pointer mp := ⟨_, rfl⟩
 obtain ⟨W, hW⟩ : ∃ W, w.alloc (.cells #[.int .u64 v, .int .u64 o, .pointer mp] 95) = W := ⟨_, rfl⟩
 obtain ⟨P0, S0, BX⟩ := hp.boxed h _ _ hW
 have hzw : w.heap.size <= W.heap.size := by rw [<- hW, World.size_alloc]; omega
 obtain ⟨D0, hD0⟩ : ∃ D0, (fun i => D i /\ i < w.heap.size) = D0 := ⟨_, rfl⟩
 rw [hD0] at P0 S0 BX
 have hky0 : ∀ V, Kept (fun q => D0 q \/ m = some q) W V -> Byt V w.heap.size A n l := fun V hk => hky V ((Kept.of_below (by rw [<- hW]; exact (Below.refl _ _).alloc (Nat.le_refl _) _)).trans (hk.mono fun q z => z.imp (fun y => by rw [<- hD0] at y; exact y.1) id))
 have BK : ∀ V, Kept (fun q => D0 q \/ m = some q) W V -> Blk V w.heap.size #[.int .u64 v, .int .u64 o, .pointer mp] := fun V hk => hp.boxk _ _ hW V (hk.mono fun q z => z.imp (fun y => by rw [<- hD0] at y; exact y) id)
 clear hD0
 obtain ⟨be, Ab, ek, n0⟩ := S0.nod
 have HK := nkind_any n0
 have hkd := kindD_ne (x.nd ek)
 obtain ⟨kd, hkd2⟩ : ∃ z, kindD (x.nd ek) = z := ⟨_, rfl⟩
 rw [hkd2] at HK hkd
 have hkne : (kd == 0) = false := by simpa using hkd
 have HK := Lib.hid HK
 show Calls _ _ #[.agg #[.int .u64 v, .int .u64 o, mtr m], _, _] _ _
 rw [hmp]
 have HP := Lib.hid P0
 have HS0 := Lib.hid S0
 have HBX := Lib.hid BX
 have HBK := Lib.hid (fun (V : World) (hk : Kept (fun q => D0 q \/ m = some q) W V) => show V.cell? ⟨w.heap.size, 0, none⟩ = some (.int .u64 v) /\ V.cell? ⟨w.heap.size, 1, none⟩ = some (.int .u64 o) /\ V.cell? ⟨w.heap.size, 2, none⟩ = some (.pointer mp) from ⟨(BK V hk).cell 0, (BK V hk).cell 1, (BK V hk).cell 2⟩)
 have HKY := Lib.hid hky0
 have HKM := Lib.hid hkm
 have HMP := Lib.hid hmp
 have HLL := Lib.hid hll
 have HLN := Lib.hid hlen
 have HSR := Lib.hid hsr
 have HNC := Lib.hid hnc
 have HIH := Lib.hid ih
 have hz0 : n <= 9223372036854775807 := by omega
 clear hp h P0 S0 BX n0 hkd hkd2 hky hkm hmp hll hlen hsr ih hky0 hnc BK
 go_enter Tryz.func38, Tryz.ntmps38
 go_wp2_with fail
 (with_reducible refine HK.out.mono ?_)
 rintro e w1 ⟨rfl, s1⟩
 have S1 := HS0.out.still HP.out s1
 have P1 := HP.out.on0 S1
 obtain ⟨be1, A1, ek1, n1⟩ := S1.nod
 have HPT := Lib.hid (npartr_any n1)
 have hsh : x.part.length <= 140737488355328 := n1.short
 have HS1 := Lib.hid S1
 clear hW HK S1 P1 n1 s1
 go_wp2_with fail
 (with_reducible refine HPT.out.mono ?_)
 rintro e w2 ⟨Ap, cp, rfl, y2, _, b2, _⟩
 have S2 := HS1.out.below HP.out b2
 obtain ⟨mpl, hmpl⟩ : ∃ z, x.part.length = z := ⟨_, rfl⟩
 rw [hmpl] at y2 hsh ⊢
 have hzz := S2.kept.size
 have HC := Lib.hid (common_any A Ap n mpl c cp w2.heap.size l x.part w2 ((HKY.out w2 S2.kept).more (by omega)) y2)
 obtain ⟨s, hs⟩ : ∃ z, lcp l x.part = z := ⟨_, rfl⟩
 have hsn : s <= n := by have := lcp_le_left l x.part; have := HLL.out; omega
 have hsm : s <= mpl := by have := lcp_le_right l x.part; omega
 rw [hs] at HC
 have HS2 := Lib.hid S2
 have HS := Lib.hid hs
 have HML := Lib.hid hmpl
 clear S2 HPT y2 b2 hmpl hs hzz
 go_wp2_with fail
 (with_reducible refine HC.out.mono ?_)
 rintro e w3 ⟨rfl, s3⟩
 obtain ⟨D3, S3⟩ := (HS2.out.still HP.out s3).hide
 have HS3 := Lib.hid S3
 clear S3 s3 HS2 HS1 HC
 have hps := HS.out ▸ part_split l x.part
 by_cases hA : s = n
 case' pos =>
  subst hA
  by_cases hB : s < mpl
  case' pos =>
   have hB1 : (s : Int) < (mpl : Int) := by omega
   obtain ⟨b, pt, hdr⟩ : ∃ b pt, x.part.drop s = b :: pt := by
    rcases hx : x.part.drop s with _ | ⟨b, pt⟩
    ·have h1 := congrArg List.length hx
     have h2 := HML.out
     rw [List.length_drop, List.length_nil] at h1
     omega
    ·exact ⟨b, pt, rfl⟩
   have P3 := (HP.out.on0 HS3.out).less (show 2 <= omx o (some (x, k)) l by show 2 <= tway o x k l + 2; omega)
   have HAB := Lib.hid (pabove_any P3 HS3.out.tow v s (pre := l.take s) (by rw [<- hdr]; exact hps) (by rw [List.length_take]; have := HLL.out; omega))
   unfold cmV at HAB
   rw [HMP.out] at HAB
   obtain ⟨k0, k1', k2'⟩ := HBK.out w3 HS3.out.kept
   have HDR := Lib.hid hdr
   clear P3 hdr hps
   go_wp2_with fail
   (with_reducible refine HAB.out.mono ?_)
   rintro e w4 ⟨u4, D4, rfl, s4⟩
   obtain ⟨x1, k1, u1, D1, j1, hu1, HSx, HVT⟩ : ∃ x1 k1 u1 D1 j1, u4 = u1 /\ Hid (Std W w4 o S D0 m rest cnt x1 k1 u1 D1 j1) /\ Hid (VTail o v x k l u x1 k1 u1 j1) := ⟨_, _, _, _, _, rfl, Lib.hid (HS3.out.trans0 s4), Lib.hid (vtail_above (o := o) (v := v) (k := k) HS.out HLL.out HDR.out u u4)⟩
   subst hu1
   clear s4 HAB k0 k1' k2' HDR HS3 hB hB1
  case' neg =>
   have hB1 : ¬ (s : Int) < (mpl : Int) := by omega
   obtain ⟨x1, k1, u1, D1, j1, hu1, HSx, HVT⟩ : ∃ x1 k1 u1 D1 j1, u = u1 /\ Hid (Std W w3 o S D0 m rest cnt x1 k1 u1 D1 j1) /\ Hid (VTail o v x k l u x1 k1 u1 j1) := ⟨_, _, _, _, _, rfl, HS3, Lib.hid (vtail_here (o := o) (v := v) (k := k) HS.out HLL.out (by have := HML.out; omega) u)⟩
   subst hu1
   clear HS3 hps hB
  all_goals
   have hcn := HVT.out.cnt
   have HO := Lib.hid (Std.own (HP.out.on HSx.out (show _ <= tway o x k l + 2 by omega)) HSx.out.tow)
   rw [HMP.out] at HO
   obtain ⟨k0, k1', k2'⟩ := HBK.out _ HSx.out.kept
   clear hcn
   go_wp2_with fail
   (with_reducible refine HO.out.mono ?_)
   rintro e w5 ⟨u5, D5, rfl, s5, e5⟩
   have S5 := HSx.out.trans s5
   have HSV := Lib.hid (Std.setval (HP.out.on S5 HVT.out.cnt) S5.tow rfl v)
   have HE5 := Lib.hid e5
   have HS5 := Lib.hid S5
   obtain ⟨k0, k1', k2'⟩ := HBK.out _ S5.kept
   clear S5 s5 e5 HO
   go_wp2_with fail
   (with_reducible refine HSV.out.mono ?_)
   rintro e w6 ⟨rfl, D6, s6⟩
   have HF := Lib.hid (HBX.out _ _ _ _ _ _ (HS5.out.trans s6)).2.2
   clear s6 HSV
   go_wp2_with fail
   go_ret
   refine ⟨u5, D6, _, rfl, ?_, HVT.out.cnt, fun q => ⟨(HVT.out.hit q).1, fun z => ?_⟩⟩
   ·show Std w w6 o S D m rest cnt (tput o v x k l).1 (tput o v x k l).2 u5 D6 _
    rw [HVT.out.put]
    have h1 := HF.out
    rw [Nat.add_zero] at h1
    exact h1
   ·obtain ⟨z1, z2⟩ := (HVT.out.hit q).2 z
    rw [(HE5.out z1).1, z2]
 case' neg =>
  have hA1 : ((s : Int) == (n : Int)) = false := by rw [beq_eq_false_iff_ne]; omega
  have hA2 : s < n := by omega
  obtain ⟨d, lr, hld⟩ : ∃ d lr, l.drop s = d :: lr := by
   rcases hx : l.drop s with _ | ⟨b, pt⟩
   ·have h1 := congrArg List.length hx
    have h2 := HLL.out
    rw [List.length_drop, List.length_nil] at h1
    omega
   ·exact ⟨b, pt, rfl⟩
  have HLD := Lib.hid hld
  by_cases hB : s < mpl
  case' pos =>
   have hB1 : (s : Int) < (mpl : Int) := by omega
   obtain ⟨b, pt, hdr⟩ : ∃ b pt, x.part.drop s = b :: pt := by
    rcases hx : x.part.drop s with _ | ⟨b, pt⟩
    ·have h1 := congrArg List.length hx
     have h2 := HML.out
     rw [List.length_drop, List.length_nil] at h1
     omega
    ·exact ⟨b, pt, rfl⟩
   have P3 := (HP.out.on0 HS3.out).less (show 2 <= omx o (some (x, k)) l by show 2 <= tway o x k l + 2; omega)
   have HAB := Lib.hid (pabove_any P3 HS3.out.tow v s (pre := l.take s) (by rw [<- hdr]; exact hps) (by rw [List.length_take]; have := HLL.out; omega))
   unfold cmV at HAB
   rw [HMP.out] at HAB
   obtain ⟨k0, k1', k2'⟩ := HBK.out w3 HS3.out.kept
   have HDR := Lib.hid hdr
   clear P3 hdr hps hld
   go_wp2_with fail
   (with_reducible refine HAB.out.mono ?_)
   rintro e w4 ⟨u4, D4, rfl, s4⟩
   obtain ⟨x1, k1, u1, D1, j1, hu1, HSx, HKT, HU⟩ : ∃ x1 k1 u1 D1 j1, u4 = u1 /\ Hid (Std W w4 o S D0 m rest cnt x1 k1 u1 D1 j1) /\ Hid (KTail o v x k l x1 k1 d lr (j1 + (if x1.leaf = true then 1 else if x1.ow = o then 0 else 1))) /\ Hid (thit x k l = true -> u1 = u) :=
    ⟨_, _, _, _, _, rfl, Lib.hid (HS3.out.trans0 s4), Lib.hid (by simpa using ktail_above (o := o) (v := v) (k := k) HS.out HDR.out HLD.out), Lib.hid (fun q => by rw [thit_no (no_beg HS.out (by rw [HML.out]; exact hB))] at q; cases q)⟩
   subst hu1
   clear s4 HAB k0 k1' k2' HDR HS3 hB hB1
  case' neg =>
   have hB1 : ¬ (s : Int) < (mpl : Int) := by omega
   obtain ⟨x1, k1, u1, D1, j1, hu1, HSx, HKT, HU⟩ : ∃ x1 k1 u1 D1 j1, u = u1 /\ Hid (Std W w3 o S D0 m rest cnt x1 k1 u1 D1 j1) /\ Hid (KTail o v x k l x1 k1 d lr (j1 + (if x1.leaf = true then 1 else if x1.ow = o then 0 else 1))) /\ Hid (thit x k l = true -> u1 = u) :=
    ⟨_, _, _, _, _, rfl, HS3, Lib.hid (by rw [Nat.zero_add]; exact ktail_on (o := o) (v := v) HSR.out HS.out (by have := HML.out; omega) HLD.out), Lib.hid (fun _ => rfl)⟩
   subst hu1
   clear HS3 hps hB hld
  all_goals
   have hcn := HKT.out.cnt
   have hom := omx_pos o ((inT o x1 k1).2.kid d) lr
   have P1 := HP.out.on HSx.out (show j1 <= tway o x k l + 2 by omega)
   have HIN := Lib.hid (pinner_any (P1.less (show 1 <= tway o x k l + 2 - j1 by omega)) HSx.out.tow v)
   unfold cmV at HIN
   rw [HMP.out] at HIN
   obtain ⟨k0, k1', k2'⟩ := HBK.out _ HSx.out.kept
   clear hcn hom P1
   go_wp2_with fail
   (with_reducible refine HIN.out.mono ?_)
   rintro e w5 ⟨u5, D5, j5, rfl, s5, e5, f5⟩
   have S5 := HSx.out.trans s5
   rw [<- e5] at HKT
   obtain ⟨ho2, hl2⟩ := inT_own o x1 k1
   have HK0 := HKT.out.put
   have HK1 := HKT.out.srt
   have HK2 := HKT.out.cnt
   have HK3 := HKT.out.hit
   generalize inT o x1 k1 = T2 at S5 ho2 hl2 HK0 HK1 HK2 HK3
   obtain ⟨x2, k2⟩ := T2
   dsimp only at S5 ho2 hl2 HK0 HK1 HK2 HK3
   have hj5 : j1 + j5 <= tway o x k l + 2 := by omega
   obtain ⟨p6, Dy, g1, g2, g3, g4⟩ := Std.gone HP.out S5 hj5 ho2 hl2 d
   have hb0 := HKY.out w5 S5.kept
   obtain ⟨ad, rfl, _, _⟩ := hb0.2.2 (by omega)
   have hdl : l.drop (s + 1) = lr := by
    have h1 : (l.drop s).drop 1 = lr := by rw [HLD.out]; rfl
    rwa [List.drop_drop] at h1
   have hds : l[s]? = some d := by
    have h1 : (l.drop s)[0]? = some d := by rw [HLD.out]; rfl
    rwa [List.getElem?_drop, Nat.add_zero] at h1
   obtain ⟨s1, hs1⟩ : ∃ X, s + 1 = X := ⟨_, rfl⟩
   have hs1n : s1 <= n := by omega
   have ew : IntKind.i64.wrap ((s : Int) + 1) = (s1 : Int) := by rw [IntKind.wrap_i64]; omega
   have sl2 := fun W' => slc_from (P := Tryz.prog) Tryz.underlying23 size_u8 (some ad) n c s1 hs1n W'
   obtain ⟨Ap', hAp⟩ : ∃ X, cutA (some ad) s1 c 1 = X := ⟨_, rfl⟩
   obtain ⟨np', hnp⟩ : ∃ X, n - s1 = X := ⟨_, rfl⟩
   obtain ⟨cp', hcp⟩ : ∃ X, c - s1 = X := ⟨_, rfl⟩
   rw [hs1] at hdl
   have hll1 : lr.length + s1 = n := by rw [<- hdl, List.length_drop]; have := HLL.out; omega
   have hnc' := HNC.out
   have HGO := Lib.hid (fun (V : World) (hV : Still w5 V) => HIH.out lr (k2.kid d) p6 (cutA (some ad) s1 c 1) (n - s1) (c - s1) S Dy m rest (cnt + ((j1 + j5 : Nat) : Int)) V (by have := HLN.out; have := HLL.out; omega) (g2 V hV).1 HK1 ((g2 V hV).2.less (by show _ <= tway o x k l + 2 - (j1 + j5); omega)) (fun V' hk => by
    have h1 := (HKY.out V' (g3 V V' hV hk)).cut_ s1 n hs1n (Nat.le_refl _) hnc'
    rw [List.take_of_length_le (by rw [HLL.out]; exact Nat.le_refl _), hdl] at h1
    exact h1.more (Nat.le_trans hzw (Nat.le_trans S5.kept.size (hV.below w5.heap.size).size))) (fun i hi => HKM.out i ⟨fun q => (by rw [q] at hds; cases hds), block_cutA hi.2⟩) (by omega) (by omega))
   unfold cmV at HGO
   rw [HMP.out, hAp, hnp, hcp] at HGO
   rw [hAp, hnp, hcp] at sl2
   have HKD := Lib.hid g1
   have HG3 := Lib.hid g3
   have HSK := Lib.hid g4
   have HE5 := Lib.hid (And.intro e5 f5)
   have HS5 := Lib.hid S5
   have HKK := Lib.hid (And.intro HK0 (And.intro HK2 HK3))
   have hzs : (0 : Int) <= (s : Int) := by omega
   have hzt : (s : Int) < (n : Int) := by omega
   have hzn : ((s : Int)).toNat = s := by omega
   obtain ⟨bz, hbz⟩ : ∃ z : Int, (d.toNat : Int) = z := ⟨_, rfl⟩
   have k3 : w5.cell? (ad.add s) = some (.int .u8 bz) := by
    obtain ⟨ad', e, _, hc⟩ := hb0.2.2 (by omega)
    injection e with e
    subst e
    rw [<- hbz]
    exact hc s d hds
   obtain ⟨k0, k1', k2'⟩ := HBK.out _ S5.kept
   have hS5k := S5.kept
   have HS5K := Lib.hid hS5k
   rw [hbz] at HKD HSK
   clear S5 s5 e5 f5 HK0 HK1 HK2 HK3 ho2 hl2 hj5 g1 g2 g3 g4 hb0 hdl hds hs1 hs1n hAp hnp hcp hll1 hbz HIN HKT hS5k hnc'
   go_upto_region 14 with fail
   go_region_held3 (fun w' => w'.cell? ⟨w.heap.size, 0, none⟩ = some (.int .u64 v) /\ w'.cell? ⟨w.heap.size, 1, none⟩ = some (.int .u64 o) /\ w'.cell? ⟨w.heap.size, 2, none⟩ = some (.pointer mp))
    (first
    | exact HBK.out _ HS5K.out
    | exact HBK.out _ HS5K.out.drew
    | exact HBK.out _ q5
    | exact HBK.out _ q6
    | exact HBK.out _ q7)
    (first
    | (go_at_call 49; (with_reducible refine (HKD.out _ (Still.refl _)).mono ?_); rintro e v1 ⟨rfl, q1⟩; have q5 := HG3.out _ _ q1 (Kept.refl _ _))
    | (go_at_call 49; (with_reducible refine (HKD.out _ (Still.drew1 _)).mono ?_); rintro e v1 ⟨rfl, q0⟩; have q1 := (Still.drew1 _).trans q0; have q5 := HG3.out _ _ q1 (Kept.refl _ _))
    | (go_at_call 38; (with_reducible refine (HGO.out _ q1).mono ?_); rintro e v2 ⟨u7, D7, j7, rfl, s7, b7, c7⟩; have q6 := HG3.out _ _ q1 s7.kept)
    | (go_at_call 61; (with_reducible refine (HSK.out _ _ _ _ _ _ _ q1 s7).mono ?_); rintro e v3 ⟨rfl, D8, s8⟩; have q7 := s8.kept))
   all_goals
    have HF := Lib.hid (HBX.out _ _ _ _ _ _ s8).2.2
    have HB7 := Lib.hid (And.intro b7 c7)
    clear s8 s7 b7 c7 q5 q6 q7 q1
    go_wp2_with fail
    go_ret
    refine ⟨u5, D8, j1 + j5 + j7, rfl, ?_, ?_, fun q => ?_⟩
    ·show Std w v3 o S D m rest cnt (tput o v x k l).1 (tput o v x k l).2 u5 D8 _
     rw [HKK.out.1]
     exact HF.out
    ·show _ <= tway o x k l + 2
     have h1 := HKK.out.2.1
     have h2 := HB7.out.1
     omega
    ·obtain ⟨h1, h2, h3⟩ := HKK.out.2.2 q
     have h4 := (HB7.out.2 h1).1
     refine ⟨by show _ <= tway o x k l; omega, fun z => ?_⟩
     obtain ⟨h5, h6⟩ := h3 z
     first
     | rw [HE5.out.2 h5 h6, HU.out q]
     | rw [HE5.out.2 h5 h6]
theorem into_any (o v : Int) : ∀ f, Into o v f
 | 0 => fun _ _ _ _ _ _ _ _ _ _ _ _ h => absurd h (Nat.not_lt_zero _)
 | f + 1 => into_step (into_any o v f)
end
end Go.Proofs.YtcbgieoiefbeiaaGreatDoor
namespace Go.Proofs.YtcbgieoiefbeiaaGreatDoor
open Go.RowKit Go.Shelf
attribute [local go_sem] Oper.semAt_some
def PutPost (o v : Int) (w : World) (S D : Nat -> Prop) (m : Option Nat) (rest : List Value) (cnt : Int) (t : Option (Nn × Fo)) (p : Option Addr) (l : List UInt8) (e : Ending) (w' : World) : Prop :=
 ∃ u D' j, e = .returned (.tuple #[.pointer (some ⟨u, 0, none⟩), .int .i64 0]) /\ Std w w' o S D m rest cnt (oputs o v t l).1 (oputs o v t l).2 u D' j /\ j <= omx o t l /\ (ohit t l = true -> j <= oway o t l /\ (oway o t l = 0 -> p = some ⟨u, 0, none⟩)) /\ ((l, v) ∈ olist t -> j = 0 /\ p = some ⟨u, 0, none⟩)
theorem oputs_yes {o v : Int} {T : Nn × Fo} {l : List UInt8} (h : (l, v) ∈ olist (some T)) : oputs o v (some T) l = T := if_pos h
theorem oputs_no {o v : Int} {t : Option (Nn × Fo)} {l : List UInt8} (h : (l, v) ∉ olist t) : oputs o v t l = oput o v t l := by
 cases t with
 | none => rfl
 | some T => exact if_neg h
theorem OTow.below {w w' : World} {o : Int} {S D : Nat -> Prop} {t : Option (Nn × Fo)} {p : Option Addr} (h : OTow w o S t p D) (hS : ∀ i, S i -> i < w.heap.size) (hb : Below w.heap.size w w') : OTow w' o S t p (fun i => D i /\ i < w.heap.size) := by
 cases t with
 | none => exact h
 | some T =>
  obtain ⟨g, e, h1⟩ := h
  have hk : Kept (fun q => w.heap.size <= q) w w' := Kept.of_below hb
  exact ⟨g, e, h1.there.kept hk (fun q hq y => by have := hS q hq; omega) (fun q hq y => by have := hq.2; omega)⟩
theorem OTow.here {w : World} {o : Int} {S D : Nat -> Prop} {t : Option (Nn × Fo)} {p : Option Addr} (h : OTow w o S t p D) : OTre w (· < w.heap.size) t p := by
 cases t with
 | none => exact h
 | some T =>
  obtain ⟨g, e, h1⟩ := h
  exact ⟨g, e, h1.tre.there.mono fun _ q => q.2⟩
set_option maxRecDepth 100000 in
set_option maxHeartbeats 1000000 in
theorem put_any {o v cnt : Int} {t : Option (Nn × Fo)} {p A : Option Addr} {n c : Nat} {l : List UInt8} {S D : Nat -> Prop} {m : Option Nat} {rest : List Value} {w : World}
  (ht : OTow w o S t p D) (hs : osrt t) (hw : owfB t) (hp : Pre w o S D m rest cnt (omx o t l)) (hky : ∀ V, Kept (fun q => D q \/ m = some q) w V -> Byt V w.heap.size A n l) (hkm : ∀ i, Pb A l i -> m ≠ some i) (hnc : n <= c) (hn : n <= 65535) :
  Calls Tryz.prog 20 #[.pointer p, .slice A n c, .int .u64 v, .int .u64 o, mtr m] w (PutPost o v w S D m rest cnt t p l) := by
 have HM := may_any A n c w (by omega)
 rw [if_pos hn] at HM
 have HM := Lib.hid HM
 have h0 : (o == 0) = false := by simpa using hp.ne
 obtain ⟨g1, g2, hg⟩ : ∃ g1 g2, firstK (olist t) l = (g1, g2) := ⟨_, _, rfl⟩
 have HG := Lib.hid (tget_any hw ht.here (hky w (Kept.refl _ _)) (Nat.le_refl _) hnc (by omega) hg)
 have HIN := Lib.hid (fun (V : World) (hb : Below w.heap.size w V) => into_any o v (l.length + 1) l t p A n c S (fun i => D i /\ i < w.heap.size) m rest cnt V (Nat.lt_succ_self _) (ht.below (fun q hq => (hp.far q hq).2) hb) hs (hp.there.below hb) (fun V' hk => (hky V' ((Kept.of_below hb).thru hk (fun q _ z => z.imp (fun y => y.1) id))).more hb.size) hkm hnc (by omega))
 have HF := Lib.hid (fun (V : World) (hb : Below w.heap.size w V) (hno : (l, v) ∉ olist t) (e : Ending) (w' : World) (u : Nat) (he : e = .returned (.pointer (some ⟨u, 0, none⟩))) (h : IPost o v V S (fun i => D i /\ i < w.heap.size) m rest cnt t p l e w') => show PutPost o v w S D m rest cnt t p l (.returned (.tuple #[.pointer (some ⟨u, 0, none⟩), .int .i64 0])) w' from by
  obtain ⟨u2, D2, j, e2, h1, h2, h3⟩ := h
  rw [he] at e2
  injection e2 with e2
  injection e2 with e2
  injection e2 with e2
  injection e2 with e2
  subst e2
  refine ⟨u, D2, j, rfl, ?_, h2, h3, fun q => absurd q hno⟩
  rw [oputs_no hno]
  exact (h1.mono (fun q z => z.1)).from hb)
 have HY := Lib.hid (fun (V : World) (hb : Below w.heap.size w V) (hyes : (l, v) ∈ olist t) => show PutPost o v w S D m rest cnt t p l (.returned (.tuple #[.pointer p, .int .i64 0])) V from by
  cases t with
  | none => cases hyes
  | some T =>
   obtain ⟨g, rfl, h1⟩ := ht
   obtain ⟨D2, h2⟩ := ((Std.start hp h1).below hp hb).hide
   refine ⟨g, D2, 0, rfl, ?_, Nat.zero_le _, fun _ => ⟨Nat.zero_le _, fun _ => rfl⟩, fun _ => ⟨rfl, rfl⟩⟩
   rw [oputs_yes hyes]
   exact h2)
 have HR := Lib.hid hw.rise
 obtain ⟨mp, hmp⟩ : ∃ mp, mtr m = .pointer mp := ⟨_, rfl⟩
 unfold cmV at HIN
 rw [hmp] at HIN ⊢
 clear ht hs hw hp hky hkm hnc hmp
 by_cases hyes : (l, v) ∈ olist t
 ·have h1 := (firstK_yes HR.out).2 hyes
  rw [hg] at h1
  injection h1 with h1 h2
  subst h1
  subst h2
  have HYS := Lib.hid hyes
  clear hg hyes HF HIN
  go_enter Tryz.func20, Tryz.ntmps20
  go_wp2_with fail
  (with_reducible refine HM.out.mono ?_)
  rintro e w1 ⟨rfl, rfl⟩
  go_wp2_with fail
  (with_reducible refine HG.out.mono ?_)
  rintro e w2 ⟨rfl, b2⟩
  have HE := Lib.hid (HY.out _ b2 HYS.out)
  clear b2
  go_wp2_with fail
  go_ret2
  exact HE.out
 ·have hgv : g2 = true -> ¬ g1 = v := fun e q => hyes ((firstK_yes HR.out).1 (by rw [hg, e, q]))
  have HNO := Lib.hid hyes
  clear hg hyes HY
  go_enter Tryz.func20, Tryz.ntmps20
  go_wp2_with fail
  (with_reducible refine HM.out.mono ?_)
  rintro e w1 ⟨rfl, rfl⟩
  go_wp2_with fail
  (with_reducible refine HG.out.mono ?_)
  rintro e w2 ⟨rfl, b2⟩
  have HB2 := Lib.hid b2
  clear b2 HG HM
  cases g2 with
  | false =>
   have HE := Lib.hid (HIN.out _ HB2.out)
   clear hgv HIN
   go_wp2_with fail
   (with_reducible refine HE.out.mono ?_)
   intro e w3 h3
   obtain ⟨u3, he3⟩ : ∃ u, e = .returned (.pointer (some ⟨u, 0, none⟩)) := by
    obtain ⟨u, _, _, he, _⟩ := h3
    exact ⟨u, he⟩
   have HX := Lib.hid (HF.out _ HB2.out HNO.out _ _ u3 he3 h3)
   subst he3
   clear h3 HE
   go_wp2_with fail
   go_ret2
   exact HX.out
  | true =>
   have hg3 : (g1 == v) = false := by simpa using hgv rfl
   have HE := Lib.hid (HIN.out _ HB2.out)
   clear hgv HIN
   go_wp2_with fail
   (with_reducible refine HE.out.mono ?_)
   intro e w3 h3
   obtain ⟨u3, he3⟩ : ∃ u, e = .returned (.pointer (some ⟨u, 0, none⟩)) := by
    obtain ⟨u, _, _, he, _⟩ := h3
    exact ⟨u, he⟩
   have HX := Lib.hid (HF.out _ HB2.out HNO.out _ _ u3 he3 h3)
   subst he3
   clear h3 HE
   go_wp2_with fail
   go_ret2
   exact HX.out
end Go.Proofs.YtcbgieoiefbeiaaGreatDoor
