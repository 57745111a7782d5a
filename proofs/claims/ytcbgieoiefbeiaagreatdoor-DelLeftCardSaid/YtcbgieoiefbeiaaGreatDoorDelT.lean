import Derived.Test.YtcbgieoiefbeiaaGreatDoorTowW
import Derived.Test.YtcbgieoiefbeiaaGreatDoorDelP
import Derived.Test.YtcbgieoiefbeiaaGreatDoorPutT
import Derived.Test.YtcbgieoiefbeiaaGreatDoorRaws
import Derived.Test.YtcbgieoiefbeiaaGreatDoorCanon
import Derived.Deep.Slices
namespace Go.Proofs.YtcbgieoiefbeiaaGreatDoor
open Go.RowKit
theorem dropE_same {b : UInt8} {t : Th} {er : List Ent} (hu : Up ((b, t) :: er)) : dropE ((b, t) :: er) b = er := by
 obtain ⟨u1, u2⟩ := List.pairwise_cons.1 hu
 have hp : pos ((b, t) :: er) b.toNat = 0 := by
  rw [pos_cons, if_neg (Nat.lt_irrefl _), pos_low (fun e he => Nat.le_of_lt (u1 e he))]
 unfold dropE hasE look
 rw [hp]
 simp
theorem dropE_none {es : List Ent} {c : UInt8} (h : ∀ e ∈ es, c.toNat < e.1.toNat) : dropE es c = es := by
 have hp : pos es c.toNat = 0 := pos_low (fun e he => Nat.le_of_lt (h e he))
 unfold dropE hasE look
 rw [hp]
 cases es with
 | nil => simp
 | cons e er =>
  have h1 := h e (List.mem_cons_self ..)
  have h2 : ¬ e.1.toNat = c.toNat := by omega
  simp [h2]
theorem dropE_cons {b c : UInt8} {t : Th} {er : List Ent} (hu : Up ((b, t) :: er)) (h : b ≠ c) : dropE ((b, t) :: er) c = (b, t) :: dropE er c := by
 obtain ⟨u1, u2⟩ := List.pairwise_cons.1 hu
 have hne : b.toNat ≠ c.toNat := fun q => h (UInt8.toNat_inj.1 q)
 by_cases hlt : b.toNat < c.toNat
 ·have hp : pos ((b, t) :: er) c.toNat = pos er c.toNat + 1 := by
   rw [pos_cons, if_pos hlt, Nat.add_comm]
  unfold dropE hasE look
  rw [hp, List.getElem?_cons_succ]
  split
  ·simp only [List.take_succ_cons, List.drop_succ_cons, List.cons_append]
   split <;> rfl
  ·simp
 ·have hbc : c.toNat < b.toNat := by omega
  rw [dropE_none (es := (b, t) :: er) (fun e he => by
   rcases List.mem_cons.1 he with rfl | he
   ·exact hbc
   ·exact Nat.lt_trans hbc (u1 e he)), dropE_none (fun e he => Nat.lt_trans hbc (u1 e he))]
section
variable {w w' : World} {o : Int} {S D : Nat -> Prop}
theorem Fo.Hole.gone {c : UInt8} : ∀ {f : Fo} {es : List Ent} {Dh : Nat -> Prop}, f.Hole w o S c es Dh -> Up es -> (f.drop c).Ow w o S (dropE es c) Dh
 | .nil, _, _, h, _ => by
  obtain rfl : _ = [] := h
  rw [dropE_none (fun e he => by cases he)]
  rfl
 | .cons b x k r, es, Dh, h, hu => by
  rw [Fo.drop]
  rcases h with ⟨e, g, er, rfl, hr⟩ | ⟨e, g, er, D1, D2, rfl, h, hr, h1, h2, h3⟩
  ·subst e
   rw [if_pos rfl, dropE_same hu]
   exact hr
  ·rw [if_neg e, dropE_cons hu e]
   obtain ⟨_, u2⟩ := List.pairwise_cons.1 hu
   exact Fo.Ow.cons h (Fo.Hole.gone hr u2) h1 h2 h3
set_option maxRecDepth 100000 in
theorem TOw.dropval {x : Nn} {k : Fo} {g : Nat} (h : TOw w o S x k g D) (hx : x.ow = o) (ho : o ≠ 0) (hl : x.leaf = false) (hh : x.has = true) (hSD : ∀ i, S i -> ¬ D i) :
  Calls Tryz.prog 91 #[.pointer (some ⟨g, 0, none⟩), .int .u64 o] w fun e w' => e = .returned (.int .i64 0) /\ TOw w' o S ⟨x.leaf, o, x.part, 0, false⟩ k g (fun i => D i \/ w.heap.size <= i) /\ Kept D w w' := by
 refine TOw.wrote hx rfl h hSD fun be A ek n => ?_
 have h1 := ndropval_any n o
 have hm : mineB (x.nd ek).ow o = true := mine_yes ho hx.symm
 have e1 : dropVN (x.nd ek) o = 0 := by
  unfold dropVN
  rw [hm, show (x.nd ek).leaf = false from hl, show (x.nd ek).has = true from hh]
  rfl
 have e2 : nDropVal (x.nd ek) o = (⟨x.leaf, o, x.part, 0, false⟩ : Nn).nd ek := by
  unfold nDropVal
  rw [hm]
  show (if (true && !x.leaf && x.has) = true then _ else _) = _
  rw [if_pos (by rw [hl, hh]; rfl), <- hx]
 rw [e1, e2] at h1
 exact h1
set_option maxRecDepth 100000 in
theorem Opn.drop {B : Nat} {x : Nn} {k : Fo} {g : Nat} {c : UInt8} {ek : List Ent} {Dy : Nat -> Prop} (h : Opn w o S D B x k g c ek Dy) (hx : x.ow = o) (ho : o ≠ 0) (hl : x.leaf = false) (hB : B <= w.heap.size) (dS : ∀ i, S i -> ¬ D i) (z : Int) (hz : z = (c.toNat : Int)) :
  Calls Tryz.prog 93 #[.pointer (some ⟨g, 0, none⟩), .int .u64 o, .int .u8 z] w fun e w' => e = .returned (.int .i64 (dropN ek c)) /\ TOw w' o S x (k.drop c) g (fun i => D i \/ B <= i) /\ Kept D w w' := by
 obtain ⟨be, A, De, Dh, n, a1, a2, hh, b1, b2, b4, b5⟩ := h
 have hm : mineB (x.nd ek).ow o = true := mine_yes ho hx.symm
 have h1 := ndropkid_any n o c z hz
 have e1 : dropKN (x.nd ek) o c = dropN ek c := by
  unfold dropKN
  rw [hm, show (x.nd ek).leaf = false from hl]
  rfl
 have e2 : nDropKid (x.nd ek) o c = x.nd (dropE ek c) := by
  unfold nDropKid
  rw [hm]
  show (if (true && !x.leaf) = true then _ else _) = _
  rw [hl]
  rfl
 rw [e1, e2] at h1
 have hup : Up ek := n.up
 refine h1.mono ?_
 rintro e w' ⟨rfl, b', A', n', c1, c2, c3⟩
 have hS : ∀ i, S i -> ¬ be.all g i := fun i q y => dS i q (b1 i (a1 i y)).1
 have hf := Fo.Hole.gone (hh.kept c3 hS (fun i q y => (b4 i (a1 i y)).1 q)) hup
 refine ⟨rfl, .inl ⟨hx, b', A', _, (fun i => De i \/ w.heap.size <= i), Dh, n', fun i hi => ?_, fun i hi => ?_, hf, fun i q => q.imp (fun y => (b1 i y).1) (fun y => by omega), fun i q => .inl (b2 i q).1, fun i q y => ?_⟩, c3.mono (fun i q => (b1 i (a1 i q)).1)⟩
 ·rcases hi with hi | hi
  ·exact .inl (a1 i (.inl hi))
  ·exact (c1 i hi).imp (fun z => a1 i (.inr z)) id
 ·rcases c2 i hi with q | q
  ·exact (a2 i q).imp id .inl
  ·exact .inr (.inr q)
 ·rcases q with q | q
  ·exact (b4 i q).1 y
  ·have := (b2 i y).2
   omega
end
end Go.Proofs.YtcbgieoiefbeiaaGreatDoor
namespace Go.Proofs.YtcbgieoiefbeiaaGreatDoor
open Go.RowKit Go.Shelf
attribute [local go_sem] Oper.semAt_some
structure OStd (w0 w1 : World) (o : Int) (S D : Nat -> Prop) (m : Option Nat) (rest : List Value) (cnt : Int) (t : Option (Nn × Fo)) (p : Option Addr) (D1 : Nat -> Prop) (j : Nat) : Prop where
 tow : OTow w1 o S t p D1
 sub : ∀ i, D1 i -> D i \/ w0.heap.size <= i
 kept : Kept (fun i => D i \/ m = some i) w0 w1
 num : ∀ q, m = some q -> Lst w1 q (.int .i64 (cnt + (j : Nat)) :: rest)
section
variable {w w1 w2 W V : World} {o : Int} {S D D1 : Nat -> Prop} {m : Option Nat} {rest : List Value} {cnt : Int} {x : Nn} {k : Fo} {u j i : Nat} {t : Option (Nn × Fo)} {p : Option Addr}
theorem Std.opt (h : Std w w1 o S D m rest cnt x k u D1 i) : OStd w w1 o S D m rest cnt (some (x, k)) (some ⟨u, 0, none⟩) D1 i := ⟨⟨u, rfl, h.tow⟩, h.sub, h.kept, h.num⟩
theorem OStd.some_ {T : Nn × Fo} (h : OStd w w1 o S D m rest cnt (some T) p D1 i) : ∃ g, p = some ⟨g, 0, none⟩ /\ Std w w1 o S D m rest cnt T.1 T.2 g D1 i := by
 obtain ⟨g, e, h1⟩ := h.tow
 exact ⟨g, e, h1, h.sub, h.kept, h.num⟩
theorem Std.nothing (h : Std w w1 o S D m rest cnt x k u D1 i) : OStd w w1 o S D m rest cnt none none (fun _ => False) i := ⟨rfl, fun _ q => q.elim, h.kept, h.num⟩
theorem OStd.hide (h : OStd w w1 o S D m rest cnt t p D1 i) : ∃ D', OStd w w1 o S D m rest cnt t p D' i := ⟨_, h⟩
theorem OStd.mono {D2 : Nat -> Prop} (h : OStd w w1 o S D m rest cnt t p D1 i) (hd : ∀ q, D q -> D2 q) : OStd w w1 o S D2 m rest cnt t p D1 i :=
 ⟨h.tow, fun q hq => (h.sub q hq).imp (hd q) id, h.kept.mono (fun q z => z.imp (hd q) id), h.num⟩
theorem OStd.from {w' : World} (h : OStd w w1 o S D m rest cnt t p D1 i) (hb : Below w'.heap.size w' w) : OStd w' w1 o S D m rest cnt t p D1 i := by
 have hz := hb.size
 exact ⟨h.tow, fun q hq => (h.sub q hq).imp id (fun y => by omega), (Kept.of_below hb).trans h.kept, h.num⟩
theorem Std.otrans {i' : Nat} {D2 : Nat -> Prop} (h : Std w w1 o S D m rest cnt x k u D1 i) (h2 : OStd w1 w2 o S D1 m rest (cnt + (i : Nat)) t p D2 i') : OStd w w2 o S D m rest cnt t p D2 (i + i') := by
 have hz := h.kept.size
 refine ⟨h2.tow, fun q hq => ?_, h.kept.thru h2.kept (fun q hq z => ?_), fun q hq => ?_⟩
 ·rcases h2.sub q hq with y | y
  ·exact h.sub q y
  ·exact .inr (by omega)
 ·rcases z with z | z
  ·rcases h.sub q z with y | y
   ·exact .inl y
   ·omega
  ·exact .inr z
 ·have := h2.num q hq
  rw [show cnt + ((i + i' : Nat) : Int) = cnt + (i : Nat) + (i' : Nat) by omega]
  exact this
theorem TOw.only {b : UInt8} {y : Nn} {ky : Fo} (h : TOw w o S x (.cons b y ky .nil) u D) (hx : x.ow = o) :
  ∃ (be : Be) (A : Option Addr) (g : Nat) (Dk : Nat -> Prop), Nod w u (x.nd [(b, some ⟨g, 0, none⟩)]) be A /\ TOw w o S y ky g Dk /\ ∀ i, Dk i -> D i := by
 rcases h with ⟨_, be, A, ek, De, Dk, n, a1, a2, a3, a4, a5, a6⟩ | ⟨q, _⟩
 ·obtain ⟨g, er, D1, D2, e, h1, h2, h3, h4, h5⟩ := a3
  obtain rfl : er = [] := h2
  subst e
  exact ⟨be, A, g, D1, n, h1, fun i q => a5 i (h3 i q)⟩
 ·exact absurd hx q
theorem Std.onlykid {b : UInt8} {y : Nn} {ky : Fo} (hs : Std W w o S D m rest cnt x (.cons b y ky .nil) u D1 i) (hx : x.ow = o) :
  ∃ (be : Be) (A : Option Addr) (g : Nat) (Dk : Nat -> Prop), Nod w u (x.nd [(b, some ⟨g, 0, none⟩)]) be A /\ Std W w o S D m rest cnt y ky g Dk i := by
 obtain ⟨be, A, g, Dk, n, h1, h2⟩ := hs.tow.only hx
 exact ⟨be, A, g, Dk, n, h1, fun i q => hs.sub i (h2 i q), hs.kept, hs.num⟩
set_option maxRecDepth 100000 in
theorem Std.dropval (hp : Pre w o S D m rest cnt j) (h : TOw w o S x k u D) (hx : x.ow = o) (hl : x.leaf = false) (hh : x.has = true) :
  Calls Tryz.prog 91 #[.pointer (some ⟨u, 0, none⟩), .int .u64 o] w fun e w' => e = .returned (.int .i64 0) /\ ∃ D', Std w w' o S D m rest cnt ⟨x.leaf, o, x.part, 0, false⟩ k u D' 0 := by
 refine (h.dropval hx hp.ne hl hh (fun q hq => (hp.far q hq).1)).mono ?_
 rintro e w' ⟨rfl, h1, h2⟩
 exact ⟨rfl, _, h1, fun q z => z, h2.mono (fun q z => .inl z), fun q hq => by
  have := h2.blk (hp.mt q hq).1 (hp.off q hq).2
  simpa using this⟩
set_option maxRecDepth 100000 in
theorem Std.setpart (hp : Pre w o S D m rest cnt j) (h : TOw w o S x k u D) (hx : x.ow = o) {A' : Option Addr} {n c B : Nat} {l : List UInt8} (ha : Byt w B A' n l) (hB : B <= w.heap.size) (hn : n <= 140737488355328) :
  Calls Tryz.prog 100 #[.pointer (some ⟨u, 0, none⟩), .int .u64 o, .slice A' n c] w fun e w' => e = .returned (.int .i64 0) /\ ∃ D', Std w w' o S D m rest cnt ⟨x.leaf, o, l, x.val, x.has⟩ k u D' 0 := by
 refine (h.setpart hx hp.ne (fun q hq => (hp.far q hq).1) A' n c B l ha hB hn).mono ?_
 rintro e w' ⟨rfl, h1, h2⟩
 exact ⟨rfl, _, h1, fun q z => z, h2.mono (fun q z => .inl z), fun q hq => by
  have := h2.blk (hp.mt q hq).1 (hp.off q hq).2
  simpa using this⟩
end
end Go.Proofs.YtcbgieoiefbeiaaGreatDoor
namespace Go.Proofs.YtcbgieoiefbeiaaGreatDoor
open Go.ChangeShapes Go.WideShapes Go.ChangeAt Go.RowKit
structure Bv where
 A : Option Addr
 n : Nat
 c : Nat
 l : List UInt8
def Bss (w : World) (B : Nat) (A : Option Addr) (n : Nat) (rs : List Bv) : Prop :=
 rs.length = n /\ n <= maxLen /\ (∀ r ∈ rs, Byt w B r.A r.n r.l /\ r.n <= r.c) /\ (0 < n -> ∃ ad, A = some ad /\ ad.block < B /\ ∀ (j : Nat) (r : Bv), rs[j]? = some r -> w.cell? (ad.add j) = some (.slice r.A r.n r.c))
section
variable {w w' : World} {B B' n : Nat} {A : Option Addr} {rs : List Bv}
theorem Bss.none_ : Bss w B A 0 [] := ⟨rfl, by unfold maxLen; omega, fun _ h => (by cases h), fun h => absurd h (by omega)⟩
theorem Bss.below (h : Bss w B A n rs) (hb : Below B w w') : Bss w' B A n rs :=
 ⟨h.1, h.2.1, fun r hr => ⟨(h.2.2.1 r hr).1.below hb, (h.2.2.1 r hr).2⟩, fun hn => by
  obtain ⟨ad, e, h1, h2⟩ := h.2.2.2 hn
  exact ⟨ad, e, h1, fun j r hr => (hb.cell (by rw [block_of_add]; exact h1)).trans (h2 j r hr)⟩⟩
theorem Bss.at_ (h : Bss w B A n rs) {j : Nat} (hj : j < n) : ∃ (ad : Addr) (r : Bv), A = some ad /\ rs[j]? = some r /\ w.cell? (ad.add j) = some (.slice r.A r.n r.c) /\ Byt w B r.A r.n r.l /\ r.n <= r.c := by
 obtain ⟨ad, e, _, h2⟩ := h.2.2.2 (by omega)
 have hl : j < rs.length := by have := h.1; omega
 have hr := List.getElem?_eq_getElem hl
 have hb := h.2.2.1 _ (List.mem_of_getElem? hr)
 exact ⟨ad, _, e, hr, h2 j _ hr, hb.1, hb.2⟩
theorem Bss.tail (h : Bss w B A n rs) {c : Nat} (hnc : n <= c) : Bss w B (cutA A 1 c 1) (n - 1) (rs.drop 1) := by
 refine ⟨by rw [List.length_drop, h.1], by have := h.2.1; omega, fun r hr => h.2.2.1 r (List.mem_of_mem_drop hr), fun hn => ?_⟩
 obtain ⟨ad, rfl, h1, h2⟩ := h.2.2.2 (by omega)
 have e : cutA (some ad) 1 c 1 = some (ad.add 1) := by
  unfold cutA
  rw [if_neg (by omega)]
  rfl
 refine ⟨_, e, by rw [block_of_add]; exact h1, fun j r hr => ?_⟩
 rw [List.getElem?_drop] at hr
 rw [add_of_add]
 exact h2 (1 + j) r hr
end
end Go.Proofs.YtcbgieoiefbeiaaGreatDoor
namespace Go.Proofs.YtcbgieoiefbeiaaGreatDoor
open Go.RowKit Go.Shelf
def Fo.bs : Fo -> List UInt8
 | .nil => []
 | .cons b _ _ r => b :: r.bs
theorem Fo.bs_len : ∀ f : Fo, f.bs.length = f.len
 | .nil => rfl
 | .cons _ _ _ r => by rw [Fo.bs, List.length_cons, Fo.bs_len r, Fo.len]
section
variable {w w1 w2 W V : World} {o : Int} {S D D1 : Nat -> Prop} {m : Option Nat} {rest : List Value} {cnt : Int} {x : Nn} {k : Fo} {u j i : Nat} {t : Option (Nn × Fo)} {p : Option Addr}
theorem Fo.Is.bs : ∀ {f : Fo} {es : List Ent}, f.Is w S es -> es.map Prod.fst = f.bs
 | .nil, _, h => by
  obtain rfl : _ = [] := h
  rfl
 | .cons b x k r, _, ⟨g, be, A, ek, er, e, h1, h2, h3, h4⟩ => by
  subst e
  rw [List.map_cons, Fo.Is.bs h4]
  rfl
theorem Fo.Hole.bs {c : UInt8} : ∀ {f : Fo} {es : List Ent} {D : Nat -> Prop}, f.Hole w o S c es D -> es.map Prod.fst = f.bs
 | .nil, _, _, h => by
  obtain rfl : _ = [] := h
  rfl
 | .cons b x k r, _, _, h => by
  rcases h with ⟨e, g, er, rfl, hr⟩ | ⟨e, g, er, D1, D2, rfl, _, hr, _⟩
  ·rw [List.map_cons, Fo.Is.bs hr.is]
   rfl
  ·rw [List.map_cons, Fo.Hole.bs hr]
   rfl
theorem Fo.Hole.other {c b1 b2 : UInt8} {y1 y2 : Nn} {k1 k2 : Fo} {es : List Ent} (h : (Fo.cons b1 y1 k1 (.cons b2 y2 k2 .nil)).Hole w o S c es D) (hc : c = b1 \/ c = b2) (h12 : b1 ≠ b2) :
  ∃ (g1 g2 : Nat) (Dk : Nat -> Prop), es = [(b1, some ⟨g1, 0, none⟩), (b2, some ⟨g2, 0, none⟩)] /\ (∀ q, Dk q -> D q) /\ (c = b1 -> TOw w o S y2 k2 g2 Dk) /\ (c = b2 -> TOw w o S y1 k1 g1 Dk) := by
 rcases h with ⟨e, g, er, rfl, hr⟩ | ⟨e, g, er, D1, D2, rfl, h, hr, h1, h2, h3⟩
 ·obtain ⟨g2, er2, D1, D2, rfl, h, hr, h1, h2, h3⟩ := hr
  obtain rfl : er2 = [] := hr
  exact ⟨g, g2, D1, rfl, h1, fun _ => h, fun q => absurd (e.trans q) h12⟩
 ·rcases hr with ⟨e2, g2, er2, rfl, hr⟩ | ⟨e2, _⟩
  ·obtain rfl : er2 = [] := hr
   exact ⟨g, g2, D1, rfl, h1, fun q => absurd q.symm e, fun _ => h⟩
  ·rcases hc with q | q
   ·exact absurd q.symm e
   ·exact absurd q.symm e2
theorem Std.write {x' : Nn} {k' : Fo} {u' : Nat} {D2 N : Nat -> Prop} (hs : Std W V o S D m rest cnt x k u D1 i) (hp : Pre W o S D m rest cnt j) (ht : TOw w o S x' k' u' D2) (hd : ∀ q, D2 q -> D q \/ W.heap.size <= q) (hk : Kept N V w) (hN : ∀ q, N q -> D q \/ W.heap.size <= q) : Std W w o S D m rest cnt x' k' u' D2 i := by
 refine ⟨ht, hd, hs.kept.thru hk (fun q hq y => ?_), fun q hq => hk.blk (hs.num q hq) (fun y => ?_)⟩
 ·rcases hN q y with z | z
  ·exact .inl z
  ·omega
 ·rcases hN q y with z | z
  ·exact (hp.off q hq).2 z
  ·have := hp.lt hq
   omega
structure Gon (W V : World) (o : Int) (S D : Nat -> Prop) (m : Option Nat) (rest : List Value) (cnt : Int) (j : Nat) (x : Nn) (k : Fo) (u : Nat) (d : UInt8) (i : Nat) : Prop where
 nod : ∃ be A ek Dh, Nod V u (x.nd ek) be A /\ k.Hole V o S d ek Dh /\ (∀ q, Dh q -> D q \/ W.heap.size <= q) /\ ∀ q, be.all u q \/ Pb A x.part q -> m ≠ some q
 kept : Kept (fun i => D i \/ m = some i) W V
 num : ∀ q, m = some q -> Lst V q (.int .i64 (cnt + (i : Nat)) :: rest)
 own : i + (if x.ow = o then 0 else 1) <= j -> Calls Tryz.prog 60 #[.pointer (some ⟨u, 0, none⟩), mtr m, .int .u64 o] V fun e V3 => ∃ u3, e = .returned (.pointer (some ⟨u3, 0, none⟩)) /\ Kept (fun i => m = some i) V V3 /\
  ∀ V4, Still V3 V4 -> Calls Tryz.prog 93 #[.pointer (some ⟨u3, 0, none⟩), .int .u64 o, .int .u8 (d.toNat : Int)] V4 fun e V5 => (∃ z : Int, e = .returned (.int .i64 z)) /\ ∃ D5, Std W V5 o S D m rest cnt ⟨x.leaf, o, x.part, x.val, x.has⟩ (k.drop d) u3 D5 (i + (if x.ow = o then 0 else 1))
set_option maxRecDepth 100000 in
theorem Std.went (hp : Pre W o S D m rest cnt j) (hs : Std W w o S D m rest cnt x k u D1 i) (hi : i <= j) (hl : x.leaf = false) (d : UInt8) :
  ∃ (p : Option Addr) (Dy : Nat -> Prop), (∀ V, Still w V -> Calls Tryz.prog 49 #[.pointer (some ⟨u, 0, none⟩), .int .u8 (d.toNat : Int)] V fun e V' => e = .returned (.pointer p) /\ Still V V') /\
   (∀ V, Still w V -> OTow V o S (k.kid d) p Dy /\ Pre V o S Dy m rest (cnt + (i : Nat)) (j - i)) /\
   (∀ V V2, Still w V -> Kept (fun q => Dy q \/ m = some q) V V2 -> Kept (fun q => D q \/ m = some q) W V2) /\
   (∀ V V2 y l' u' D' i', Still w V -> Std V V2 o S Dy m rest (cnt + (i : Nat)) y l' u' D' i' -> i + i' + (if x.ow = o then 0 else 1) <= j -> Calls Tryz.prog 60 #[.pointer (some ⟨u, 0, none⟩), mtr m, .int .u64 o] V2 fun e V3 => ∃ u3, e = .returned (.pointer (some ⟨u3, 0, none⟩)) /\ Kept (fun q => D q \/ m = some q) W V3 /\
    ∀ V4, Still V3 V4 -> Calls Tryz.prog 61 #[.pointer (some ⟨u3, 0, none⟩), .int .u64 o, .int .u8 (d.toNat : Int), .pointer (some ⟨u', 0, none⟩)] V4 fun e V5 => e = .returned (.int .i64 0) /\ ∃ D5, Std W V5 o S D m rest cnt ⟨x.leaf, o, x.part, x.val, x.has⟩ (k.set d y l') u3 D5 (i + i' + (if x.ow = o then 0 else 1))) /\
   ∀ V V2 p' D' i', Still w V -> OStd V V2 o S Dy m rest (cnt + (i : Nat)) none p' D' i' -> ∀ V3, Below V2.heap.size V2 V3 -> Gon W V3 o S D m rest cnt j x k u d (i + i') := by
 have P1 := hp.on hs hi
 have hz0 := hs.kept.size
 by_cases hx : x.ow = o
 ·obtain ⟨ek, Dy, h1, h2, h3⟩ := hs.tow.opn hx d
  obtain ⟨be, A, n1⟩ := h1.nod
  have hxx : (⟨x.leaf, o, x.part, x.val, x.has⟩ : Nn) = x := by rw [<- hx]
  have hkk : ∀ V V2, Still w V -> Kept (fun q => Dy q \/ m = some q) V V2 -> Kept (fun q => D q \/ m = some q) W V2 := fun V V2 hV hk => (hs.kept.thru (Kept.of_below (hV.below w.heap.size) (D := fun _ => False)) (fun q _ y => y.elim)).thru hk (fun q hq y => by
   rcases y with y | y
   ·rcases hs.sub q (h3 q y).1 with z | z
    ·exact .inl z
    ·omega
   ·exact .inr y)
  have hop : ∀ V V2, Still w V -> Kept (fun q => Dy q \/ m = some q) V V2 -> Opn V2 o S D1 w.heap.size x k u d ek Dy := fun V V2 hV hk =>
   (h1.kept (N := fun _ => False) (Kept.of_below (hV.below w.heap.size)) (fun _ _ q => q) (fun _ q => q.elim)).kept hk (fun q hq y => y.elim (fun z => (P1.far q hq).1 (h3 q z).1) (fun z => (P1.off q z).1 hq)) (fun q y => y.imp id (fun z => (P1.off q z).2))
  rw [hxx, if_pos hx]
  refine ⟨_, Dy, fun V hV => nkid_any (n1.still hV) d _ rfl, fun V hV => ⟨?_, (P1.below (hV.below _)).sub (fun q hq => (h3 q hq).1)⟩, hkk, fun V V2 y l' u' D' i' hV h4 hj => ?_, fun V V2 p' D' i' hV h4 V3 hb3 => ?_⟩
  ·have hk : Kept (fun _ => False) w V := Kept.of_below (hV.below w.heap.size)
   generalize k.kid d = t at h2
   show OTow V o S t (getE ek d.toNat) Dy
   cases t with
   | none => exact h2
   | some T =>
    obtain ⟨g, e, h⟩ := h2
    exact ⟨g, e, h.kept hk (fun _ _ q => q) (fun _ _ q => q)⟩
  ·obtain ⟨be2, A2, n2⟩ := (hop V V2 hV h4.kept).nod
   refine (nown_yes n2 (mtr m) o (mine_yes hp.ne hx.symm)).mono ?_
   rintro e V3 ⟨rfl, rfl⟩
   refine ⟨u, rfl, hkk V _ hV h4.kept, fun V4 h34 => ?_⟩
   have hz1 := (hV.below w.heap.size).size
   have hz2 := h4.kept.size
   have hk4 : Kept (fun q => Dy q \/ m = some q) V V4 := h4.kept.trans (Kept.of_below (h34.below _))
   have hz4 := hk4.size
   have ht4 : TOw V4 o S y l' u' D' := h4.tow.kept (N := fun _ => False) (Kept.of_below (h34.below _)) (fun _ _ q => q) (fun _ _ q => q)
   have hn4 : ∀ q, m = some q -> Lst V4 q (.int .i64 (cnt + (i : Nat) + (i' : Nat)) :: rest) := fun q hq => (Kept.of_below (h34.below _) (D := fun _ => False)).blk (h4.num q hq) (fun y => y)
   refine ((hop V V4 hV hk4).close hx hp.ne hl (by omega) ht4 (fun q hq => (h4.sub q hq).imp id (fun z => by omega)) (fun q hq => (h3 q hq).1) (fun q hq => (P1.far q hq).1) _ rfl).mono ?_
   rintro e V5 ⟨rfl, t5, k5⟩
   refine ⟨rfl, _, t5, fun q hq => ?_, (hkk V V4 hV hk4).thru k5 (fun q hq y => ?_), fun q hq => ?_⟩
   ·rcases hq with y | y
    ·exact hs.sub q y
    ·exact .inr (by omega)
   ·rcases hs.sub q y with z | z
    ·exact .inl z
    ·omega
   ·have := k5.blk (hn4 q hq) (fun y => (P1.off q hq).2 y)
    rw [show cnt + ((i + i' + 0 : Nat) : Int) = cnt + (i : Nat) + (i' : Nat) by omega]
    exact this
  ·have hz1 := (hV.below w.heap.size).size
   have hz2 := h4.kept.size
   have hk3 : Kept (fun q => Dy q \/ m = some q) V V3 := h4.kept.trans (Kept.of_below hb3)
   have hn3 : ∀ q, m = some q -> Lst V3 q (.int .i64 (cnt + (i : Nat) + (i' : Nat)) :: rest) := fun q hq => (Kept.of_below hb3 (D := fun _ => False)).blk (h4.num q hq) (fun y => y)
   have hO := hop V V3 hV hk3
   obtain ⟨be2, A2, De, Dh, n2, a1, a2, hh, b1, b2, b4, b5⟩ := id hO
   refine ⟨⟨be2, A2, ek, Dh, n2, hh, fun q hq => hs.sub q (b2 q hq).1, fun q hq e => hq.elim (fun z => (P1.off q e).2 (b1 q (a1 q z)).1) (fun z => (a2 q z).elim (P1.off q e).1 (fun y => (P1.off q e).2 (b1 q y).1))⟩, hkk V V3 hV hk3, fun q hq => by rw [show cnt + ((i + i' : Nat) : Int) = cnt + (i : Nat) + (i' : Nat) by omega]; exact hn3 q hq, fun _ => ?_⟩
   refine (nown_yes n2 (mtr m) o (mine_yes hp.ne hx.symm)).mono ?_
   rintro e V3' ⟨rfl, rfl⟩
   refine ⟨u, rfl, Kept.refl _ _, fun V4 h34 => ?_⟩
   have hk4 : Kept (fun q => Dy q \/ m = some q) V V4 := hk3.trans (Kept.of_below (h34.below _))
   have hz4 := hk4.size
   have hn4 : ∀ q, m = some q -> Lst V4 q (.int .i64 (cnt + (i : Nat) + (i' : Nat)) :: rest) := fun q hq => (Kept.of_below (h34.below _) (D := fun _ => False)).blk (hn3 q hq) (fun y => y)
   refine ((hop V V4 hV hk4).drop hx hp.ne hl (by omega) (fun q hq => (P1.far q hq).1) _ rfl).mono ?_
   rintro e V5 ⟨rfl, t5, k5⟩
   rw [hxx, if_pos hx]
   refine ⟨⟨_, rfl⟩, _, t5, fun q hq => ?_, (hkk V V4 hV hk4).thru k5 (fun q hq y => ?_), fun q hq => ?_⟩
   ·rcases hq with y | y
    ·exact hs.sub q y
    ·exact .inr (by omega)
   ·rcases hs.sub q y with z | z
    ·exact .inl z
    ·omega
   ·have := k5.blk (hn4 q hq) (fun y => (P1.off q hq).2 y)
    rw [show cnt + ((i + i' + 0 : Nat) : Int) = cnt + (i : Nat) + (i' : Nat) by omega]
    exact this
 ·obtain ⟨be, A, ek, n1, hS1, h2⟩ := hs.tow.kid_no hx d
  obtain ⟨hno, htre⟩ : k.no o /\ Tre w S x k u := by
   rcases hs.tow with ⟨q, _⟩ | ⟨_, h1, h2⟩
   ·exact absurd q hx
   ·exact ⟨h1, h2⟩
  have hkk : ∀ V V2, Still w V -> Kept (fun q => False \/ m = some q) V V2 -> Kept (fun q => D q \/ m = some q) W V2 := fun V V2 hV hk => (hs.kept.thru (Kept.of_below (hV.below w.heap.size) (D := fun _ => False)) (fun q _ y => y.elim)).thru hk (fun q hq y => .inr (y.elim (fun z => z.elim) id))
  have htr : ∀ V V2, Still w V -> Kept (fun q => False \/ m = some q) V V2 -> Tre V2 S x k u := fun V V2 hV hk => (htre.kept (Kept.of_below (hV.below w.heap.size) (D := fun _ => False)) (fun _ _ q => q)).kept hk (fun q hq y => y.elim (fun z => z) (fun z => (P1.off q z).1 hq))
  have hst : ∀ V V2 i', Still w V -> Kept (fun q => False \/ m = some q) V V2 -> (∀ q, m = some q -> Lst V2 q (.int .i64 (cnt + (i : Nat) + (i' : Nat)) :: rest)) -> Std W V2 o S D m rest cnt x k u (fun _ => False) (i + i') := fun V V2 i' hV hk hn =>
   ⟨TOw.of_no hx hno (htr V V2 hV hk), fun _ q => q.elim, hkk V V2 hV hk, fun q hq => by rw [show cnt + ((i + i' : Nat) : Int) = cnt + (i : Nat) + (i' : Nat) by omega]; exact hn q hq⟩
  rw [if_neg hx]
  refine ⟨_, (fun _ => False), fun V hV => nkid_any (n1.still hV) d _ rfl, fun V hV => ⟨?_, (P1.below (hV.below _)).sub (fun q hq => hq.elim)⟩, hkk, fun V V2 y l' u' D' i' hV h4 hj => ?_, fun V V2 p' D' i' hV h4 V3 hb3 => ?_⟩
  ·have hk : Kept (fun _ => False) w V := Kept.of_below (hV.below w.heap.size)
   generalize k.kid d = t at h2
   show OTow V o S t (getE ek d.toNat) _
   cases t with
   | none => exact h2
   | some T =>
    obtain ⟨g, e, h⟩ := h2
    exact ⟨g, e, h.kept hk (fun _ _ q => q) (fun _ _ q => q)⟩
  ·have sA := hst V V2 i' hV h4.kept h4.num
   have hz1 := (hV.below w.heap.size).size
   have hz2 := h4.kept.size
   have h4t := h4.tow.there
   have hP2 := hp.on sA (by omega)
   refine (Std.own hP2 sA.tow).mono ?_
   rintro e V3 ⟨u3, D3, rfl, s3, _⟩
   rw [if_neg hx] at s3
   refine ⟨u3, rfl, (sA.trans s3).kept, fun V4 h34 => ?_⟩
   have s4 := s3.still hP2 h34
   have hz4 := s4.kept.size
   have ht4 : TOw V4 o S y l' u' _ := h4t.kept s4.kept (fun q hq y => y.elim (fun z => z) (fun z => (hP2.off q z).1 hq)) (fun q hq y => y.elim (fun z => z) (fun z => by
    rcases h4.sub q hq.1 with q1 | q1
    ·exact q1
    ·have := P1.lt z
     omega))
   refine (TOw.setnew s4.tow rfl hp.ne hl ht4 (fun q hq y => by
    rcases s4.sub q hq with q1 | q1
    ·exact q1
    ·have := y.2
     omega) (fun q hq y => by
    rcases s4.sub q y with q1 | q1
    ·exact q1
    ·have := (P1.far q hq).2
     omega) _ rfl).mono ?_
   rintro e V5 ⟨rfl, t5, k5⟩
   refine ⟨rfl, _, (sA.trans s4).write hp t5 (fun q hq => ?_) k5 (fun q hq => ?_)⟩
   ·rcases hq with (q1 | q1) | q1
    ·rcases s4.sub q q1 with q2 | q2
     ·exact q2.elim
     ·exact .inr (by omega)
    ·rcases h4.sub q q1.1 with q2 | q2
     ·exact q2.elim
     ·exact .inr (by omega)
    ·exact .inr (by omega)
   ·rcases s4.sub q hq with q2 | q2
    ·exact q2.elim
    ·exact .inr (by omega)
  ·have hk3 : Kept (fun q => False \/ m = some q) V V3 := h4.kept.trans (Kept.of_below hb3)
   have hn3 : ∀ q, m = some q -> Lst V3 q (.int .i64 (cnt + (i : Nat) + (i' : Nat)) :: rest) := fun q hq => (Kept.of_below hb3 (D := fun _ => False)).blk (h4.num q hq) (fun y => y)
   have sA := hst V V3 i' hV hk3 hn3
   have hz1 := (hV.below w.heap.size).size
   have hz2 := hk3.size
   refine ⟨?_, sA.kept, sA.num, fun hj => ?_⟩
   ·obtain ⟨be2, A2, ek2, n2, hS2, hi2⟩ := htr V V3 hV hk3
    have hm2 : ∀ q, be2.all u q \/ Pb A2 x.part q -> m ≠ some q := fun q hq e => (P1.off q e).1 (hS2 q hq)
    have hw : k.Ow V3 o S ek2 (fun _ => False) := Fo.Ow.of_is hno hi2
    rcases hc : k.kid d with _ | T
    ·exact ⟨be2, A2, ek2, _, n2, Fo.Ow.hole_none hw hc, fun q hq => hq.elim, hm2⟩
    ·obtain ⟨_, _, Dh, _, _, hh, _, hDh, _⟩ := Fo.Ow.hole hw hc n2.up
     exact ⟨be2, A2, ek2, Dh, n2, hh, fun q hq => (hDh q hq).elim, hm2⟩
   ·rw [if_neg hx] at hj ⊢
    have hP2 := hp.on sA (by omega)
    refine (Std.own hP2 sA.tow).mono ?_
    rintro e V3' ⟨u3, D3, rfl, s3, _⟩
    rw [if_neg hx] at s3
    refine ⟨u3, rfl, s3.kept.mono (fun q y => y.elim (fun z => z.elim) id), fun V4 h34 => ?_⟩
    have s4 := s3.still hP2 h34
    have hz4 := s4.kept.size
    obtain ⟨ek4, Dy4, o4, _, _⟩ := s4.tow.opn rfl d
    refine (o4.drop rfl hp.ne hl (Nat.le_refl _) (fun q hq y => by
     rcases s4.sub q y with q1 | q1
     ·exact q1
     ·have := (P1.far q hq).2
      omega) _ rfl).mono ?_
    rintro e V5 ⟨rfl, t5, k5⟩
    refine ⟨⟨_, rfl⟩, _, (sA.trans s4).write hp t5 (fun q hq => ?_) k5 (fun q hq => ?_)⟩
    ·rcases hq with q1 | q1
     ·rcases s4.sub q q1 with q2 | q2
      ·exact q2.elim
      ·exact .inr (by omega)
     ·exact .inr (by omega)
    ·rcases s4.sub q hq with q2 | q2
     ·exact q2.elim
     ·exact .inr (by omega)
end
end Go.Proofs.YtcbgieoiefbeiaaGreatDoor
namespace Go.Proofs.YtcbgieoiefbeiaaGreatDoor
open Go.RowKit Go.Shelf
attribute [local go_sem] Oper.semAt_some
def joinL (rs : List Bv) : List UInt8 := (rs.map Bv.l).flatten
theorem joinL_take {rs : List Bv} {k : Nat} {r : Bv} (h : rs[k]? = some r) : joinL (rs.take (k + 1)) = joinL (rs.take k) ++ r.l := by
 unfold joinL
 rw [List.take_add_one, h]
 simp
theorem joinL_le (rs : List Bv) (k : Nat) : (joinL (rs.take k)).length <= (joinL rs).length := by
 have h : joinL rs = joinL (rs.take k) ++ joinL (rs.drop k) := by
  unfold joinL
  rw [<- List.flatten_append, <- List.map_append, List.take_append_drop]
 rw [h, List.length_append]
 omega
set_option maxRecDepth 100000 in
set_option maxHeartbeats 1000000 in
theorem joined_any (A : Option Addr) (n c : Nat) (rs : List Bv) (w : World) (ha : Bss w w.heap.size A n rs) (hs : (joinL rs).length <= 140737488355328) :
  Calls Tryz.prog 110 #[.slice A n c] w (SlPost w (joinL rs)) := by
 have HA := Lib.hid (fun (V : World) (h : Below w.heap.size w V) => ha.below h)
 have HL := Lib.hid ha.1
 have hn : n <= 9223372036854775807 := by have := ha.2.1; unfold maxLen at this; omega
 obtain ⟨tot, htot⟩ : ∃ t, (joinL rs).length = t := ⟨_, rfl⟩
 rw [htot] at hs
 have HT := Lib.hid htot
 have hmk : ∀ W : World, (Instr.makeSlice 23 (.int .i64 0) (.int .i64 (tot : Int))).run Tryz.prog W = .ok (.slice (some ⟨W.heap.size, 0, none⟩) 0 tot) (W.alloc (.cells (bvs (List.replicate tot 0)) 5)) := make_room (P := Tryz.prog) Tryz.underlying23 info_u8 tot (by omega)
 clear ha htot
 go_enter Tryz.func110, Tryz.ntmps110
 go_wp2
 go_loopw [3, 11] (fun s i wr => ∃ (k m : Nat), k <= n /\ i = .int .i64 k /\ s = .int .i64 (m : Int) /\ Hid (m = (joinL (rs.take k)).length) /\ Hid (Below w.heap.size w wr)) (fun _ i _ => n - (intOf i).toNat)
 case atStart => exact ⟨0, 0, Nat.zero_le _, rfl, rfl, Lib.hid rfl, Lib.hid (Below.refl _ _)⟩
 case round =>
  obtain ⟨k, m, hk, rfl, rfl, HM, HW⟩ := hrel
  by_cases h1 : k < n
  ·obtain ⟨ad, r, rfl, hr, hc, hb, hnc⟩ := (HA.out _ HW.out).at_ h1
   have hrn : r.n = r.l.length := hb.1.symm
   have HM2 := Lib.hid (show m + r.n = (joinL (rs.take (k + 1))).length by rw [joinL_take hr, List.length_append, <- HM.out, hrn])
   have hmt : m + r.n <= tot := by rw [HM2.out, <- HT.out]; exact joinL_le _ _
   clear hr hb hrn hnc
   go_wp2
   exact ⟨⟨k + 1, m + r.n, by omega, by go_num, by go_num, HM2, HW⟩, by simp [intOf]; omega⟩
  ·have hmt : m = tot := by
    have hk2 : k = rs.length := by have := HL.out; omega
    rw [HM.out, hk2, List.take_length, HT.out]
   subst hmt
   clear HM
   have hsz := HW.out.size
   have HW2 := Lib.hid (HW.out.alloc HW.out.size (.cells (bvs (List.replicate m 0)) 5))
   have HM0 := Lib.hid (Mine.made wr w.heap.size 5 m (by unfold maxLen; omega) hsz)
   go_wp2
   clear h1 hk
   go_loopw [6, 24] (fun v i wq => ∃ (k q : Nat), k <= n /\ i = .int .i64 k /\ Hid (q = (joinL (rs.take k)).length) /\ Hid (Mine wq w.heap.size 5 v q (joinL (rs.take k))) /\ Hid (Below w.heap.size w wq)) (fun _ i _ => n - (intOf i).toNat)
   case atStart => exact ⟨0, 0, Nat.zero_le _, rfl, Lib.hid rfl, HM0, HW2⟩
   case round =>
    obtain ⟨k, q, hk, rfl, HQ, HMI, HW3⟩ := hrel
    by_cases h1 : k < n
    ·obtain ⟨ad, r, rfl, hr, hc, hb, hnc⟩ := (HA.out _ HW3.out).at_ h1
     have hrn : r.n = r.l.length := hb.1.symm
     have HM2 := Lib.hid (show q + r.n = (joinL (rs.take (k + 1))).length by rw [joinL_take hr, List.length_append, <- HQ.out, hrn])
     have hmt : q + r.n <= m := by rw [HM2.out, <- HT.out]; exact joinL_le _ _
     have hsz3 := HW3.out.size
     have HB := Lib.hid hb
     have HR := Lib.hid hr
     clear hr hb hrn hnc
     go_wp2_with (at_builtin
                  refine wpList_append_byt _ rfl (.tmp 28) (.tmp 29) _ rfl Tryz.underlying23 info_u8 w.heap.size _ q _ rfl HMI.out w.heap.size r.A r.n r.c r.l rfl HB.out (by omega) hsz3 ?_
                  intro v4 w4 hm4 hg4 _
                  have M4 := Lib.hid hm4
                  have Z4 := Lib.hid (HW3.out.grown hg4 hsz3 (fun g hg => (HMI.out.lt g hg).1))
                  clear hm4 hg4)
     go_wp2
     exact ⟨⟨k + 1, q + r.n, by omega, by go_num, HM2, Lib.hid (by rw [joinL_take HR.out]; exact M4.out), Z4⟩, by simp [intOf]; omega⟩
    ·have HE := Lib.hid (show joinL (rs.take k) = joinL rs by rw [show k = rs.length by have := HL.out; omega, List.take_length])
     go_wp2
     go_ret
     exact SlPost.mine HMI.out HE.out HW3.out
set_option maxRecDepth 100000 in
theorem joined_three {w : World} {A1 A2 A3 : Option Addr} {n1 n3 c1 c2 c3 : Nat} {l1 l2 l3 : List UInt8} {n2 : Nat} (h1 : Byt w w.heap.size A1 n1 l1) (h2 : Byt w w.heap.size A2 n2 l2) (h3 : Byt w w.heap.size A3 n3 l3) (q1 : n1 <= c1) (q2 : n2 <= c2) (q3 : n3 <= c3) (hs : (l1 ++ (l2 ++ l3)).length <= 140737488355328) :
  Calls Tryz.prog 110 #[.slice (some ⟨w.heap.size, 0, none⟩) 3 3] (w.alloc (.cells #[.slice A1 n1 c1, .slice A2 n2 c2, .slice A3 n3 c3] 23)) (SlPost (w.alloc (.cells #[.slice A1 n1 c1, .slice A2 n2 c2, .slice A3 n3 c3] 23)) (l1 ++ (l2 ++ l3))) := by
 have hj : joinL [⟨A1, n1, c1, l1⟩, ⟨A2, n2, c2, l2⟩, ⟨A3, n3, c3, l3⟩] = l1 ++ (l2 ++ l3) := by simp [joinL]
 have hb : Below w.heap.size w (w.alloc (.cells #[.slice A1 n1 c1, .slice A2 n2 c2, .slice A3 n3 c3] 23)) := (Below.refl _ _).alloc (Nat.le_refl _) _
 have B := Blk.new w 23 #[.slice A1 n1 c1, .slice A2 n2 c2, .slice A3 n3 c3]
 have := joined_any (some ⟨w.heap.size, 0, none⟩) 3 3 [⟨A1, n1, c1, l1⟩, ⟨A2, n2, c2, l2⟩, ⟨A3, n3, c3, l3⟩] _ ⟨rfl, by unfold maxLen; omega, fun r hr => by
  simp only [List.mem_cons, List.not_mem_nil, or_false] at hr
  rcases hr with rfl | rfl | rfl
  ·exact ⟨(h1.below hb).more hb.size, q1⟩
  ·exact ⟨(h2.below hb).more hb.size, q2⟩
  ·exact ⟨(h3.below hb).more hb.size, q3⟩, fun _ => ⟨_, rfl, by rw [World.size_alloc]; exact Nat.lt_succ_self _, fun j r hr => by
  match j, hr with
  | 0, hr => injection hr with hr; subst hr; exact B.cell 0
  | 1, hr => injection hr with hr; subst hr; exact B.cell 1
  | 2, hr => injection hr with hr; subst hr; exact B.cell 2
  | j + 3, hr => simp at hr⟩⟩ (by rw [hj]; exact hs)
 rwa [hj] at this
abbrev tkV (o : Int) (m : Option Nat) : Value := .agg #[.int .u64 o, mtr m]
set_option maxRecDepth 100000 in
set_option maxHeartbeats 2000000 in
theorem inplace_of {w : World} {o z : Int} {m : Option Nat} {q : Option Addr} {u : Nat} {d : UInt8} {pt1 pt3 : List UInt8} {R : World -> Prop} (hz : z = (d.toNat : Int))
  (hn : ∀ V, Below w.heap.size w V -> Calls Tryz.prog 44 #[.pointer (some ⟨u, 0, none⟩)] V (CrPost V pt1))
  (hk : ∀ V, Below w.heap.size w V -> Calls Tryz.prog 44 #[.pointer q] V (CrPost V pt3))
  (hs : ∀ V A n c, Below w.heap.size w V -> Blk V w.heap.size #[.int .u64 o, mtr m] -> Byt V V.heap.size A n (pt1 ++ d :: pt3) -> Calls Tryz.prog 100 #[.pointer q, .int .u64 o, .slice A n c] V fun e V' => (∃ z : Int, e = .returned (.int .i64 z)) /\ Blk V' w.heap.size #[.int .u64 o, mtr m] /\ R V')
  (hln : (pt1 ++ d :: pt3).length <= 140737488355328) :
  Calls Tryz.prog 85 #[tkV o m, .pointer (some ⟨u, 0, none⟩), .int .u8 z, .pointer q] w fun e w' => e = .returned (.pointer q) /\ R w' := by
 obtain ⟨mp, hmp⟩ : ∃ mp, mtr m = .pointer mp := ⟨_, rfl⟩
 obtain ⟨W, hW⟩ : ∃ W, w.alloc (.cells #[.int .u64 o, .pointer mp] 79) = W := ⟨_, rfl⟩
 have hb : Below w.heap.size w W := by rw [<- hW]; exact (Below.refl _ _).alloc (Nat.le_refl _) _
 have BX : Blk W w.heap.size #[.int .u64 o, .pointer mp] := by rw [<- hW]; exact Blk.new w _ _
 show Calls _ _ #[.agg #[.int .u64 o, mtr m], _, _, _] _ _
 rw [hmp] at hs ⊢
 have hlt : w.heap.size < W.heap.size := BX.lt
 have HN := Lib.hid (fun (V : World) (h : Below W.heap.size W V) => hn V (hb.trans (h.mono hb.size)))
 have HK := Lib.hid (fun (V : World) (h : Below W.heap.size W V) => hk V (hb.trans (h.mono hb.size)))
 have HS := Lib.hid (fun (V : World) (A : Option Addr) (n c : Nat) (h : Below W.heap.size W V) (y : Byt V V.heap.size A n (pt1 ++ d :: pt3)) => show Calls Tryz.prog 100 #[.pointer q, .int .u64 o, .slice A n c] V (fun e V' => (∃ z : Int, e = .returned (.int .i64 z)) /\ V'.cell? ⟨w.heap.size, 0, none⟩ = some (.int .u64 o) /\ R V') from
  (hs V A n c (hb.trans (h.mono hb.size)) (BX.below h hlt) y).mono fun e V' ⟨h1, h2, h3⟩ => ⟨h1, h2.cell 0, h3⟩)
 have HLN := Lib.hid (show (pt1 ++ ([d] ++ pt3)).length <= 140737488355328 from hln)
 have HZ := Lib.hid hz
 have KP := Lib.hid (fun (V : World) (h : Below W.heap.size W V) => show V.cell? ⟨w.heap.size, 0, none⟩ = some (.int .u64 o) from (BX.below h hlt).cell 0)
 clear hn hk hs hln hz hb BX hmp hlt
 go_enter Tryz.func85, Tryz.ntmps85
 go_upto_region 1 with fail
 clear hW
 refine wp_region_held_drew (S := (fun w' => w'.cell? ⟨w.heap.size, 0, none⟩ = some (.int .u64 o))) (by kernel_rfl) (KP.out _ ((Below.refl W.heap.size W).drew)) (fun hHeld => ?_)
 refine wpAnyH_take (i := 0) (oi := { dst := some 9, op := .move (.tmp 3), type := 28, pos := "del.go:128", after := #[], guard := none }) (v := ?v1) rfl (by kernel_rfl) (by kernel_rfl) (by kernel_rfl) (fun _ _ _ h => h) (Or.inl ⟨by rfl, ?hy1⟩) hHeld ?rest1
 case hy1 => (intro w' hSw; (try dsimp only at hSw); go_simp; (try with_reducible rfl))
 try simp only [Act.put, List.setIfInBounds_toArray, List.set_cons_zero, List.set_cons_succ]
 refine wpAnyH_take (i := 1) (oi := { dst := some 10, op := .fieldAddr 79 (.tmp 4) 0, type := 0, pos := "del.go:128", after := #[], guard := none }) (v := ?v2) rfl (by kernel_rfl) (by kernel_rfl) (by kernel_rfl) (fun _ _ _ h => h) (Or.inl ⟨by rfl, ?hy2⟩) hHeld ?rest2
 case hy2 => (intro w' hSw; (try dsimp only at hSw); go_simp; (try with_reducible rfl))
 try simp only [Act.put, List.setIfInBounds_toArray, List.set_cons_zero, List.set_cons_succ]
 refine wpAnyH_take (i := 2) (oi := { dst := some 11, op := .load 24 (.tmp 10), type := 24, pos := "del.go:128", after := #[{ on := 1, ground := .data }], guard := none }) (v := ?v3) rfl (by kernel_rfl) (by kernel_rfl) (by kernel_rfl) (fun _ _ _ h => h) (Or.inl ⟨by rfl, ?hy3⟩) hHeld ?rest3
 case hy3 => (intro w' hSw; (try dsimp only at hSw); go_simp; (try with_reducible rfl))
 try simp only [Act.put, List.setIfInBounds_toArray, List.set_cons_zero, List.set_cons_succ]
 refine wpAnyH_take (i := 3) (oi := { dst := some 12, op := .move (.tmp 1), type := 28, pos := "del.go:128", after := #[], guard := none }) (v := ?v4) rfl (by kernel_rfl) (by kernel_rfl) (by kernel_rfl) (fun _ _ _ h => h) (Or.inl ⟨by rfl, ?hy4⟩) hHeld ?rest4
 case hy4 => (intro w' hSw; (try dsimp only at hSw); go_simp; (try with_reducible rfl))
 try simp only [Act.put, List.setIfInBounds_toArray, List.set_cons_zero, List.set_cons_succ]
 refine wpAnyH_take (i := 5) (oi := { dst := some 14, op := .move (.tmp 2), type := 5, pos := "del.go:128", after := #[], guard := none }) (v := ?v5) rfl (by kernel_rfl) (by kernel_rfl) (by kernel_rfl) (fun _ _ _ h => h) (Or.inl ⟨by rfl, ?hy5⟩) hHeld ?rest5
 case hy5 => (intro w' hSw; (try dsimp only at hSw); go_simp; (try with_reducible rfl))
 try simp only [Act.put, List.setIfInBounds_toArray, List.set_cons_zero, List.set_cons_succ]
 refine wpAnyH_take (i := 7) (oi := { dst := some 16, op := .move (.tmp 3), type := 28, pos := "del.go:128", after := #[], guard := none }) (v := ?v6) rfl (by kernel_rfl) (by kernel_rfl) (by kernel_rfl) (fun _ _ _ h => h) (Or.inl ⟨by rfl, ?hy6⟩) hHeld ?rest6
 case hy6 => (intro w' hSw; (try dsimp only at hSw); go_simp; (try with_reducible rfl))
 try simp only [Act.put, List.setIfInBounds_toArray, List.set_cons_zero, List.set_cons_succ]
 refine wpAnyH_ready (rs := [4, 6]) (by kernel_rfl) (by simp) (AllReadyH.cons (o := { dst := some 13, op := .call { callee := .value (.func 44), args := #[.tmp 12], argTypes := #[28] }, type := 23, pos := "del.go:128", after := #[{ on := 3, ground := .data }], guard := none }) rfl (fun K hK => ?_) (AllReadyH.cons (o := { dst := some 15, op := .buildSlice 23 1 #[(0, .tmp 14)], type := 23, pos := "del.go:128", after := #[{ on := 5, ground := .data }], guard := none }) rfl (fun K hK => ?_) AllReadyH.nil))
 ·go_simp
  (with_reducible refine (HN.out _ ((Below.refl W.heap.size W).drew)).mono ?_)
  rintro e U4 ⟨A4, c4, rfl, y4, _, b4, l4⟩
  have B4 := Lib.hid (((Below.refl W.heap.size W).drew).trans (b4.mono ((Below.refl W.heap.size W).drew).size))
  have Y4_4 := Lib.hid y4
  have L4 := Lib.hid l4
  clear y4 b4 l4
  go_wp2_with fail
  refine hK.out _ _ (KP.out _ B4.out) (fun hHeld' => ?_)
  clear hK K hHeld
  have hHeld := hHeld'
  clear hHeld'
  try simp only [Act.put, List.setIfInBounds_toArray, List.set_cons_zero, List.set_cons_succ]
  refine wpAnyH_ready (rs := [6, 8]) (by kernel_rfl) (by simp) (AllReadyH.cons (o := { dst := some 15, op := .buildSlice 23 1 #[(0, .tmp 14)], type := 23, pos := "del.go:128", after := #[{ on := 5, ground := .data }], guard := none }) rfl (fun K hK => ?_) (AllReadyH.cons (o := { dst := some 17, op := .call { callee := .value (.func 44), args := #[.tmp 16], argTypes := #[28] }, type := 23, pos := "del.go:128", after := #[{ on := 7, ground := .data }, { on := 4, ground := .chain }], guard := none }) rfl (fun K hK => ?_) AllReadyH.nil))
  ·go_simp
   obtain ⟨U6, hU6⟩ : ∃ V, U4.alloc (.cells #[.int .u8 z] 5) = V := ⟨_, rfl⟩
   have b6 : Below U4.heap.size U4 U6 := by rw [<- hU6]; exact (Below.refl _ _).alloc (Nat.le_refl _) _
   have B6 := Lib.hid ((B4.out).trans (b6.mono (B4.out).size))
   have Y4_6 := Lib.hid ((Y4_4.out.below b6).more b6.size)
   have Y6_6 := Lib.hid (show Byt U6 U6.heap.size (some ⟨U4.heap.size, 0, none⟩) 1 [d] from by rw [<- hU6, World.size_alloc]; exact byt_one U4 5 HZ.out)
   rw [hU6]
   clear hU6 b6
   refine hK.out _ _ (KP.out _ B6.out) (fun hHeld' => ?_)
   clear hK K hHeld
   have hHeld := hHeld'
   clear hHeld'
   try simp only [Act.put, List.setIfInBounds_toArray, List.set_cons_zero, List.set_cons_succ]
   refine wpAnyH_ready (rs := [8]) (by kernel_rfl) (by simp) (AllReadyH.cons (o := { dst := some 17, op := .call { callee := .value (.func 44), args := #[.tmp 16], argTypes := #[28] }, type := 23, pos := "del.go:128", after := #[{ on := 7, ground := .data }, { on := 4, ground := .chain }], guard := none }) rfl (fun K hK => ?_) AllReadyH.nil)
   go_simp
   (with_reducible refine (HK.out _ (B6.out)).mono ?_)
   rintro e U8 ⟨A8, c8, rfl, y8, _, b8, l8⟩
   have B8 := Lib.hid ((B6.out).trans (b8.mono (B6.out).size))
   have Y4_8 := Lib.hid ((Y4_6.out.below b8).more b8.size)
   have Y6_8 := Lib.hid ((Y6_6.out.below b8).more b8.size)
   have Y8_8 := Lib.hid y8
   have L8 := Lib.hid l8
   clear y8 b8 l8
   go_wp2_with fail
   refine hK.out _ _ (KP.out _ B8.out) (fun hHeld' => ?_)
   clear hK K hHeld
   have hHeld := hHeld'
   clear hHeld'
   try simp only [Act.put, List.setIfInBounds_toArray, List.set_cons_zero, List.set_cons_succ]
   refine wpAnyH_ready (rs := [9]) (by kernel_rfl) (by simp) (AllReadyH.cons (o := { dst := some 18, op := .buildSlice 185 3 #[(0, .tmp 13), (1, .tmp 15), (2, .tmp 17)], type := 185, pos := "del.go:128", after := #[{ on := 4, ground := .data }, { on := 6, ground := .data }, { on := 8, ground := .data }], guard := none }) rfl (fun K hK => ?_) AllReadyH.nil)
   go_simp
   obtain ⟨U9, hU9⟩ : ∃ V, U8.alloc (.cells #[.slice A4 pt1.length c4, .slice (some ⟨U4.heap.size, 0, none⟩) 1 1, .slice A8 pt3.length c8] 23) = V := ⟨_, rfl⟩
   have b9 : Below U8.heap.size U8 U9 := by rw [<- hU9]; exact (Below.refl _ _).alloc (Nat.le_refl _) _
   have B9 := Lib.hid ((B8.out).trans (b9.mono (B8.out).size))
   have HJ := Lib.hid (show Calls Tryz.prog 110 #[.slice (some ⟨U8.heap.size, 0, none⟩) 3 3] U9 (SlPost U9 (pt1 ++ d :: pt3)) from by rw [<- hU9]; exact joined_three Y4_8.out Y6_8.out Y8_8.out L4.out (Nat.le_refl _) L8.out HLN.out)
   rw [hU9]
   clear hU9 b9
   refine hK.out _ _ (KP.out _ B9.out) (fun hHeld' => ?_)
   clear hK K hHeld
   have hHeld := hHeld'
   clear hHeld'
   try simp only [Act.put, List.setIfInBounds_toArray, List.set_cons_zero, List.set_cons_succ]
   refine wpAnyH_ready (rs := [10]) (by kernel_rfl) (by simp) (AllReadyH.cons (o := { dst := some 19, op := .call { callee := .value (.func 110), args := #[.tmp 18], argTypes := #[185] }, type := 23, pos := "del.go:128", after := #[{ on := 9, ground := .data }, { on := 8, ground := .chain }], guard := none }) rfl (fun K hK => ?_) AllReadyH.nil)
   go_simp
   (with_reducible refine HJ.out.mono ?_)
   rintro e U10 ⟨A10, n10, c10, rfl, y10, z10, b10⟩
   have B10 := Lib.hid (B9.out.trans (b10.mono B9.out.size))
   have HSP := Lib.hid (HS.out _ A10 n10 c10 B10.out y10)
   clear y10 z10 b10 HJ
   go_wp2_with fail
   refine hK.out _ _ (KP.out _ B10.out) (fun hHeld' => ?_)
   clear hK K hHeld
   have hHeld := hHeld'
   clear hHeld'
   try simp only [Act.put, List.setIfInBounds_toArray, List.set_cons_zero, List.set_cons_succ]
   refine wpAnyH_ready (rs := [11]) (by kernel_rfl) (by simp) (AllReadyH.cons (o := { dst := some 20, op := .call { callee := .value (.func 100), args := #[.tmp 9, .tmp 11, .tmp 19], argTypes := #[28, 24, 23] }, type := 30, pos := "del.go:128", after := #[{ on := 0, ground := .data }, { on := 2, ground := .data }, { on := 10, ground := .data }, { on := 10, ground := .chain }], guard := none }) rfl (fun K hK => ?_) AllReadyH.nil)
   go_simp
   (with_reducible refine HSP.out.mono ?_)
   rintro e U11 ⟨⟨z11, rfl⟩, k11, r11⟩
   have K11 := Lib.hid k11
   have R11 := Lib.hid r11
   clear k11 r11 HSP
   go_wp2_with fail
   refine hK.out _ _ K11.out (fun hHeld' => ?_)
   clear hK K hHeld
   have hHeld := hHeld'
   clear hHeld'
   try simp only [Act.put, List.setIfInBounds_toArray, List.set_cons_zero, List.set_cons_succ]
   refine wpAnyH_done (by kernel_rfl) ?_ _
   go_wp2_with fail
   go_ret
   exact ⟨rfl, R11.out⟩
  ·go_simp
   (with_reducible refine (HK.out _ (B4.out)).mono ?_)
   rintro e U8 ⟨A8, c8, rfl, y8, _, b8, l8⟩
   have B8 := Lib.hid ((B4.out).trans (b8.mono (B4.out).size))
   have Y4_8 := Lib.hid ((Y4_4.out.below b8).more b8.size)
   have Y8_8 := Lib.hid y8
   have L8 := Lib.hid l8
   clear y8 b8 l8
   go_wp2_with fail
   refine hK.out _ _ (KP.out _ B8.out) (fun hHeld' => ?_)
   clear hK K hHeld
   have hHeld := hHeld'
   clear hHeld'
   try simp only [Act.put, List.setIfInBounds_toArray, List.set_cons_zero, List.set_cons_succ]
   refine wpAnyH_ready (rs := [6]) (by kernel_rfl) (by simp) (AllReadyH.cons (o := { dst := some 15, op := .buildSlice 23 1 #[(0, .tmp 14)], type := 23, pos := "del.go:128", after := #[{ on := 5, ground := .data }], guard := none }) rfl (fun K hK => ?_) AllReadyH.nil)
   go_simp
   obtain ⟨U6, hU6⟩ : ∃ V, U8.alloc (.cells #[.int .u8 z] 5) = V := ⟨_, rfl⟩
   have b6 : Below U8.heap.size U8 U6 := by rw [<- hU6]; exact (Below.refl _ _).alloc (Nat.le_refl _) _
   have B6 := Lib.hid ((B8.out).trans (b6.mono (B8.out).size))
   have Y4_6 := Lib.hid ((Y4_8.out.below b6).more b6.size)
   have Y8_6 := Lib.hid ((Y8_8.out.below b6).more b6.size)
   have Y6_6 := Lib.hid (show Byt U6 U6.heap.size (some ⟨U8.heap.size, 0, none⟩) 1 [d] from by rw [<- hU6, World.size_alloc]; exact byt_one U8 5 HZ.out)
   rw [hU6]
   clear hU6 b6
   refine hK.out _ _ (KP.out _ B6.out) (fun hHeld' => ?_)
   clear hK K hHeld
   have hHeld := hHeld'
   clear hHeld'
   try simp only [Act.put, List.setIfInBounds_toArray, List.set_cons_zero, List.set_cons_succ]
   refine wpAnyH_ready (rs := [9]) (by kernel_rfl) (by simp) (AllReadyH.cons (o := { dst := some 18, op := .buildSlice 185 3 #[(0, .tmp 13), (1, .tmp 15), (2, .tmp 17)], type := 185, pos := "del.go:128", after := #[{ on := 4, ground := .data }, { on := 6, ground := .data }, { on := 8, ground := .data }], guard := none }) rfl (fun K hK => ?_) AllReadyH.nil)
   go_simp
   obtain ⟨U9, hU9⟩ : ∃ V, U6.alloc (.cells #[.slice A4 pt1.length c4, .slice (some ⟨U8.heap.size, 0, none⟩) 1 1, .slice A8 pt3.length c8] 23) = V := ⟨_, rfl⟩
   have b9 : Below U6.heap.size U6 U9 := by rw [<- hU9]; exact (Below.refl _ _).alloc (Nat.le_refl _) _
   have B9 := Lib.hid ((B6.out).trans (b9.mono (B6.out).size))
   have HJ := Lib.hid (show Calls Tryz.prog 110 #[.slice (some ⟨U6.heap.size, 0, none⟩) 3 3] U9 (SlPost U9 (pt1 ++ d :: pt3)) from by rw [<- hU9]; exact joined_three Y4_6.out Y6_6.out Y8_6.out L4.out (Nat.le_refl _) L8.out HLN.out)
   rw [hU9]
   clear hU9 b9
   refine hK.out _ _ (KP.out _ B9.out) (fun hHeld' => ?_)
   clear hK K hHeld
   have hHeld := hHeld'
   clear hHeld'
   try simp only [Act.put, List.setIfInBounds_toArray, List.set_cons_zero, List.set_cons_succ]
   refine wpAnyH_ready (rs := [10]) (by kernel_rfl) (by simp) (AllReadyH.cons (o := { dst := some 19, op := .call { callee := .value (.func 110), args := #[.tmp 18], argTypes := #[185] }, type := 23, pos := "del.go:128", after := #[{ on := 9, ground := .data }, { on := 8, ground := .chain }], guard := none }) rfl (fun K hK => ?_) AllReadyH.nil)
   go_simp
   (with_reducible refine HJ.out.mono ?_)
   rintro e U10 ⟨A10, n10, c10, rfl, y10, z10, b10⟩
   have B10 := Lib.hid (B9.out.trans (b10.mono B9.out.size))
   have HSP := Lib.hid (HS.out _ A10 n10 c10 B10.out y10)
   clear y10 z10 b10 HJ
   go_wp2_with fail
   refine hK.out _ _ (KP.out _ B10.out) (fun hHeld' => ?_)
   clear hK K hHeld
   have hHeld := hHeld'
   clear hHeld'
   try simp only [Act.put, List.setIfInBounds_toArray, List.set_cons_zero, List.set_cons_succ]
   refine wpAnyH_ready (rs := [11]) (by kernel_rfl) (by simp) (AllReadyH.cons (o := { dst := some 20, op := .call { callee := .value (.func 100), args := #[.tmp 9, .tmp 11, .tmp 19], argTypes := #[28, 24, 23] }, type := 30, pos := "del.go:128", after := #[{ on := 0, ground := .data }, { on := 2, ground := .data }, { on := 10, ground := .data }, { on := 10, ground := .chain }], guard := none }) rfl (fun K hK => ?_) AllReadyH.nil)
   go_simp
   (with_reducible refine HSP.out.mono ?_)
   rintro e U11 ⟨⟨z11, rfl⟩, k11, r11⟩
   have K11 := Lib.hid k11
   have R11 := Lib.hid r11
   clear k11 r11 HSP
   go_wp2_with fail
   refine hK.out _ _ K11.out (fun hHeld' => ?_)
   clear hK K hHeld
   have hHeld := hHeld'
   clear hHeld'
   try simp only [Act.put, List.setIfInBounds_toArray, List.set_cons_zero, List.set_cons_succ]
   refine wpAnyH_done (by kernel_rfl) ?_ _
   go_wp2_with fail
   go_ret
   exact ⟨rfl, R11.out⟩
 ·go_simp
  obtain ⟨U6, hU6⟩ : ∃ V, (W.alloc (.cells #[.int .u8 z] 5)).drew = V := ⟨_, rfl⟩
  have B6 := Lib.hid (show Below W.heap.size W U6 by rw [<- hU6]; exact ((Below.refl _ _).alloc (Nat.le_refl _) _).drew)
  have Y6_6 := Lib.hid (show Byt U6 U6.heap.size (some ⟨W.heap.size, 0, none⟩) 1 [d] from by rw [<- hU6]; show Byt _ (W.alloc _).heap.size _ _ _; rw [World.size_alloc]; exact byt_one W 5 HZ.out)
  rw [hU6]
  clear hU6
  refine hK.out _ _ (KP.out _ B6.out) (fun hHeld' => ?_)
  clear hK K hHeld
  have hHeld := hHeld'
  clear hHeld'
  try simp only [Act.put, List.setIfInBounds_toArray, List.set_cons_zero, List.set_cons_succ]
  refine wpAnyH_ready (rs := [4]) (by kernel_rfl) (by simp) (AllReadyH.cons (o := { dst := some 13, op := .call { callee := .value (.func 44), args := #[.tmp 12], argTypes := #[28] }, type := 23, pos := "del.go:128", after := #[{ on := 3, ground := .data }], guard := none }) rfl (fun K hK => ?_) AllReadyH.nil)
  go_simp
  (with_reducible refine (HN.out _ (B6.out)).mono ?_)
  rintro e U4 ⟨A4, c4, rfl, y4, _, b4, l4⟩
  have B4 := Lib.hid ((B6.out).trans (b4.mono (B6.out).size))
  have Y6_4 := Lib.hid ((Y6_6.out.below b4).more b4.size)
  have Y4_4 := Lib.hid y4
  have L4 := Lib.hid l4
  clear y4 b4 l4
  go_wp2_with fail
  refine hK.out _ _ (KP.out _ B4.out) (fun hHeld' => ?_)
  clear hK K hHeld
  have hHeld := hHeld'
  clear hHeld'
  try simp only [Act.put, List.setIfInBounds_toArray, List.set_cons_zero, List.set_cons_succ]
  refine wpAnyH_ready (rs := [8]) (by kernel_rfl) (by simp) (AllReadyH.cons (o := { dst := some 17, op := .call { callee := .value (.func 44), args := #[.tmp 16], argTypes := #[28] }, type := 23, pos := "del.go:128", after := #[{ on := 7, ground := .data }, { on := 4, ground := .chain }], guard := none }) rfl (fun K hK => ?_) AllReadyH.nil)
  go_simp
  (with_reducible refine (HK.out _ (B4.out)).mono ?_)
  rintro e U8 ⟨A8, c8, rfl, y8, _, b8, l8⟩
  have B8 := Lib.hid ((B4.out).trans (b8.mono (B4.out).size))
  have Y6_8 := Lib.hid ((Y6_4.out.below b8).more b8.size)
  have Y4_8 := Lib.hid ((Y4_4.out.below b8).more b8.size)
  have Y8_8 := Lib.hid y8
  have L8 := Lib.hid l8
  clear y8 b8 l8
  go_wp2_with fail
  refine hK.out _ _ (KP.out _ B8.out) (fun hHeld' => ?_)
  clear hK K hHeld
  have hHeld := hHeld'
  clear hHeld'
  try simp only [Act.put, List.setIfInBounds_toArray, List.set_cons_zero, List.set_cons_succ]
  refine wpAnyH_ready (rs := [9]) (by kernel_rfl) (by simp) (AllReadyH.cons (o := { dst := some 18, op := .buildSlice 185 3 #[(0, .tmp 13), (1, .tmp 15), (2, .tmp 17)], type := 185, pos := "del.go:128", after := #[{ on := 4, ground := .data }, { on := 6, ground := .data }, { on := 8, ground := .data }], guard := none }) rfl (fun K hK => ?_) AllReadyH.nil)
  go_simp
  obtain ⟨U9, hU9⟩ : ∃ V, U8.alloc (.cells #[.slice A4 pt1.length c4, .slice (some ⟨W.heap.size, 0, none⟩) 1 1, .slice A8 pt3.length c8] 23) = V := ⟨_, rfl⟩
  have b9 : Below U8.heap.size U8 U9 := by rw [<- hU9]; exact (Below.refl _ _).alloc (Nat.le_refl _) _
  have B9 := Lib.hid ((B8.out).trans (b9.mono (B8.out).size))
  have HJ := Lib.hid (show Calls Tryz.prog 110 #[.slice (some ⟨U8.heap.size, 0, none⟩) 3 3] U9 (SlPost U9 (pt1 ++ d :: pt3)) from by rw [<- hU9]; exact joined_three Y4_8.out Y6_8.out Y8_8.out L4.out (Nat.le_refl _) L8.out HLN.out)
  rw [hU9]
  clear hU9 b9
  refine hK.out _ _ (KP.out _ B9.out) (fun hHeld' => ?_)
  clear hK K hHeld
  have hHeld := hHeld'
  clear hHeld'
  try simp only [Act.put, List.setIfInBounds_toArray, List.set_cons_zero, List.set_cons_succ]
  refine wpAnyH_ready (rs := [10]) (by kernel_rfl) (by simp) (AllReadyH.cons (o := { dst := some 19, op := .call { callee := .value (.func 110), args := #[.tmp 18], argTypes := #[185] }, type := 23, pos := "del.go:128", after := #[{ on := 9, ground := .data }, { on := 8, ground := .chain }], guard := none }) rfl (fun K hK => ?_) AllReadyH.nil)
  go_simp
  (with_reducible refine HJ.out.mono ?_)
  rintro e U10 ⟨A10, n10, c10, rfl, y10, z10, b10⟩
  have B10 := Lib.hid (B9.out.trans (b10.mono B9.out.size))
  have HSP := Lib.hid (HS.out _ A10 n10 c10 B10.out y10)
  clear y10 z10 b10 HJ
  go_wp2_with fail
  refine hK.out _ _ (KP.out _ B10.out) (fun hHeld' => ?_)
  clear hK K hHeld
  have hHeld := hHeld'
  clear hHeld'
  try simp only [Act.put, List.setIfInBounds_toArray, List.set_cons_zero, List.set_cons_succ]
  refine wpAnyH_ready (rs := [11]) (by kernel_rfl) (by simp) (AllReadyH.cons (o := { dst := some 20, op := .call { callee := .value (.func 100), args := #[.tmp 9, .tmp 11, .tmp 19], argTypes := #[28, 24, 23] }, type := 30, pos := "del.go:128", after := #[{ on := 0, ground := .data }, { on := 2, ground := .data }, { on := 10, ground := .data }, { on := 10, ground := .chain }], guard := none }) rfl (fun K hK => ?_) AllReadyH.nil)
  go_simp
  (with_reducible refine HSP.out.mono ?_)
  rintro e U11 ⟨⟨z11, rfl⟩, k11, r11⟩
  have K11 := Lib.hid k11
  have R11 := Lib.hid r11
  clear k11 r11 HSP
  go_wp2_with fail
  refine hK.out _ _ K11.out (fun hHeld' => ?_)
  clear hK K hHeld
  have hHeld := hHeld'
  clear hHeld'
  try simp only [Act.put, List.setIfInBounds_toArray, List.set_cons_zero, List.set_cons_succ]
  refine wpAnyH_done (by kernel_rfl) ?_ _
  go_wp2_with fail
  go_ret
  exact ⟨rfl, R11.out⟩
end Go.Proofs.YtcbgieoiefbeiaaGreatDoor
namespace Go.Proofs.YtcbgieoiefbeiaaGreatDoor
open Go.RowKit Go.Shelf
attribute [local go_sem] Oper.semAt_some
section
variable {w w1 w2 W V : World} {o : Int} {S D D1 : Nat -> Prop} {m : Option Nat} {rest : List Value} {cnt : Int} {x y : Nn} {k ky : Fo} {u g j i : Nat}
set_option maxRecDepth 100000 in
theorem Std.ownk (hp : Pre W o S D m rest cnt j) (hs : Std W w o S D m rest cnt x k u D1 i) (hi : i <= j) :
  Calls Tryz.prog 60 #[.pointer (some ⟨u, 0, none⟩), mtr m, .int .u64 o] w fun e w' => ∃ u' D', e = .returned (.pointer (some ⟨u', 0, none⟩)) /\ Std W w' o S D m rest cnt ⟨x.leaf, o, x.part, x.val, x.has⟩ k u' D' (i + (if x.ow = o then 0 else 1)) /\ Kept (fun q => m = some q) w w' /\ ∀ q, D' q -> D1 q \/ w.heap.size <= q := by
 have P1 := hp.on hs hi
 have hz := hs.kept.size
 refine (hs.tow.own hp.ne m (cnt + (i : Nat)) P1.mt (fun q hq => (P1.off q hq).1)).mono ?_
 rintro e w' ⟨u', D', rfl, h1, h2, h3, h4, _⟩
 refine ⟨u', D', rfl, ⟨h1, fun q hq => ?_, hs.kept.thru h3 (fun q _ y => .inr y), fun q hq => ?_⟩, h3, h2⟩
 ·rcases h2 q hq with z | z
  ·exact hs.sub q z
  ·exact .inr (by omega)
 ·have := h4 q hq
  by_cases e : x.ow = o
  ·rw [if_pos e] at this ⊢
   simpa using this
  ·rw [if_neg e] at this ⊢
   rw [show cnt + ((i + 1 : Nat) : Int) = cnt + (i : Nat) + 1 by omega]
   exact this
theorem Std.onekid {b : UInt8} (hs : Std W w o S D m rest cnt x (.cons b y ky .nil) u D1 i) :
  ∃ (be : Be) (A : Option Addr) (g : Nat) (Dk : Nat -> Prop), Nod w u (x.nd [(b, some ⟨g, 0, none⟩)]) be A /\ Std W w o S D m rest cnt y ky g Dk i := by
 by_cases hx : x.ow = o
 ·exact hs.onlykid hx
 ·rcases hs.tow with ⟨q, _⟩ | ⟨_, ⟨n1, n2, _⟩, be, A, ek, n, hS, hk⟩
  ·exact absurd q hx
  ·obtain ⟨g, be', A', ek', er, e, n', hS', hk', hr⟩ := hk
   obtain rfl : er = [] := hr
   subst e
   exact ⟨be, A, g, (fun _ => False), n, TOw.of_no n1 n2 ⟨be', A', ek', n', hS', hk'⟩, fun _ q => q.elim, hs.kept, hs.num⟩
theorem Std.nodm (hp : Pre W o S D m rest cnt j) (hs : Std W w o S D m rest cnt x k u D1 i) : ∃ be A ek, Nod w u (x.nd ek) be A /\ (∀ q, be.all u q \/ Pb A x.part q -> m ≠ some q) /\ ek.map Prod.fst = k.bs := by
 obtain ⟨be, A, ek, n, hS, hk⟩ := hs.tow.tre
 refine ⟨be, A, ek, n, fun q hq e => ?_, Fo.Is.bs hk⟩
 rcases hS q hq with z | z
 ·exact (hp.off q e).1 z
 ·rcases hs.sub q z with y | y
  ·exact (hp.off q e).2 y
  ·have := hp.lt e
   omega
set_option maxRecDepth 100000 in
theorem Std.placed (hp : Pre W o S D m rest cnt j) (hs : Std W w o S D m rest cnt y ky g D1 i) (hi : i <= j) (hy : y.ow = o) {ek : List Ent} {be : Be} {A : Option Addr} (n : Nod w u (x.nd ek) be A) {b : UInt8} {z : Int} (hz : z = (b.toNat : Int)) (hln : x.part.length + (y.part.length + 1) <= 140737488355328) :
  Calls Tryz.prog 85 #[tkV o m, .pointer (some ⟨u, 0, none⟩), .int .u8 z, .pointer (some ⟨g, 0, none⟩)] w fun e w' => e = .returned (.pointer (some ⟨g, 0, none⟩)) /\ Kept D1 w w' /\ ∃ D', Std W w' o S D m rest cnt ⟨y.leaf, o, x.part ++ b :: y.part, y.val, y.has⟩ ky g D' i := by
 have hl : (x.part ++ b :: y.part).length <= 140737488355328 := by rw [List.length_append, List.length_cons]; omega
 refine inplace_of (pt1 := x.part) (pt3 := y.part) hz (fun V h => npartr_any (n.below h)) (fun V h => ?_) (fun V A n c h hb ha => ?_) hl
 ·obtain ⟨_, _, _, n'⟩ := (hs.below hp h).nod
  exact npartr_any n'
 ·have hs' := hs.below hp h
  have hn := ha.1
  refine (hs'.tow.setpart hy hp.ne (fun q hq => ((hp.on hs' hi).far q hq).1) A n c V.heap.size _ ha (Nat.le_refl _) (by omega)).mono ?_
  rintro e V' ⟨rfl, t5, k5⟩
  have hz1 := hs'.kept.size
  refine ⟨⟨_, rfl⟩, k5.blk hb (fun q => Nat.lt_irrefl _ q.2), (Kept.of_below h).trans (k5.mono (fun q z => z.1)), _, hs'.write hp t5 (fun q hq => ?_) k5 (fun q hq => hs'.sub q hq)⟩
  rcases hq with z | z
  ·exact hs'.sub q z
  ·exact .inr (by omega)
set_option maxRecDepth 100000 in
theorem Std.ownplaced (hp : Pre W o S D m rest cnt j) (hs : Std W w o S D m rest cnt y ky g D1 i) (hi : i + 1 <= j) {ek : List Ent} {be : Be} {A : Option Addr} (n : Nod w u (x.nd ek) be A) (hm : ∀ q, be.all u q \/ Pb A x.part q -> m ≠ some q) {b : UInt8} {z : Int} (hz : z = (b.toNat : Int)) (hln : x.part.length + (y.part.length + 1) <= 140737488355328) :
  Calls Tryz.prog 60 #[.pointer (some ⟨g, 0, none⟩), mtr m, .int .u64 o] w fun e w' => ∃ u', e = .returned (.pointer (some ⟨u', 0, none⟩)) /\ Kept (fun q => m = some q) w w' /\
   ∀ V, Still w' V -> Calls Tryz.prog 85 #[tkV o m, .pointer (some ⟨u, 0, none⟩), .int .u8 z, .pointer (some ⟨u', 0, none⟩)] V fun e V' => e = .returned (.pointer (some ⟨u', 0, none⟩)) /\ Kept (fun q => D1 q \/ w.heap.size <= q) V V' /\ ∃ D', Std W V' o S D m rest cnt ⟨y.leaf, o, x.part ++ b :: y.part, y.val, y.has⟩ ky u' D' (i + (if y.ow = o then 0 else 1)) := by
 refine (Std.ownk hp hs (by omega)).mono ?_
 rintro e w' ⟨u', D', rfl, s, k, hd⟩
 refine ⟨u', rfl, k, fun V hV => ?_⟩
 refine (Std.placed hp (s.still hp hV) (by split <;> omega) rfl ((n.kept k (fun q hq e => hm q hq e)).still hV) hz hln).mono ?_
 rintro e V' ⟨rfl, k2, s2⟩
 exact ⟨rfl, k2.mono (fun q y => hd q y.1), s2⟩
def WPost (W : World) (o : Int) (S D : Nat -> Prop) (m : Option Nat) (rest : List Value) (cnt : Int) (mx : Nat) (T : Option (Nn × Fo)) (e : Ending) (w' : World) : Prop :=
 ∃ p' D' j, e = .returned (.pointer p') /\ OStd W w' o S D m rest cnt T p' D' j /\ j <= mx /\ (T = none -> j = 0)
set_option maxRecDepth 100000 in
theorem inplace_nil {z : Int} {d : UInt8} (hz : z = (d.toNat : Int)) {ek : List Ent} {be : Be} {A : Option Addr} (n : Nod w u (x.nd ek) be A) (hln : x.part.length <= 1000000) :
  Calls Tryz.prog 85 #[tkV o m, .pointer (some ⟨u, 0, none⟩), .int .u8 z, .pointer none] w fun e w' => e = .returned (.pointer none) /\ Below w.heap.size w w' := by
 refine inplace_of (pt1 := x.part) (pt3 := []) hz (fun V h => npartr_any (n.below h)) (fun V h => ?_) (fun V A n c h hb ha => ?_) (by simp; omega)
 ·refine (npart_nil V).mono ?_
  rintro e V' ⟨rfl, rfl⟩
  exact ⟨none, 0, rfl, Byt.none_, fun i hi => absurd rfl hi.1, Below.refl _ _, Nat.le_refl _⟩
 ·refine (nsetpart_nil o A n c V).mono ?_
  rintro e V' ⟨rfl, rfl⟩
  exact ⟨⟨_, rfl⟩, hb, h⟩
def valT (o : Int) (x : Nn) (k : Fo) : Option (Nn × Fo) := if x.leaf = true then none else tleft o ⟨false, o, x.part, 0, false⟩ k
set_option maxRecDepth 100000 in
set_option maxHeartbeats 2000000 in
theorem wval_any (hp : Pre w o S D m rest cnt 1) (h : TOw w o S x k u D) (hok : okN x k) (hh : x.has = true) (hl : x.part.length <= 1000000) (hM : ∀ b y ky, k = .cons b y ky .nil -> x.part.length + (y.part.length + 1) <= 140737488355328) :
  Calls Tryz.prog 58 #[tkV o m, .pointer (some ⟨u, 0, none⟩)] w (WPost w o S D m rest cnt 1 (valT o x k)) := by
 obtain ⟨mp, hmp⟩ : ∃ mp, mtr m = .pointer mp := ⟨_, rfl⟩
 obtain ⟨W, hW⟩ : ∃ W, w.alloc (.cells #[.int .u64 o, .pointer mp] 79) = W := ⟨_, rfl⟩
 obtain ⟨P0, S0, BX⟩ := hp.boxed h _ _ hW
 have hDw : ∀ i, D i /\ i < w.heap.size -> i < w.heap.size := fun i q => q.2
 have hmw : ∀ q, m = some q -> q < w.heap.size := fun q hq => hp.lt hq
 have BB : Blk W w.heap.size #[.int .u64 o, .pointer mp] := by rw [<- hW]; exact Blk.new w _ _
 generalize (fun i => D i /\ i < w.heap.size) = D0 at P0 S0 BX hDw
 obtain ⟨be, A, ek, n0, hm0, hbs⟩ := S0.nodm P0
 have hlen : ek.length = k.len := by rw [<- Fo.bs_len, <- hbs, List.length_map]
 have HL := nlen_any n0
 rw [show (x.nd ek).es.length = k.len from hlen] at HL
 have HKC := Lib.hid (fun (V : World) (hk : Kept (fun q => m = some q) W V) => show V.cell? ⟨w.heap.size, 0, none⟩ = some (.int .u64 o) /\ V.cell? ⟨w.heap.size, 1, none⟩ = some (.pointer mp) from by
  have h1 := hk.blk BB (fun q => Nat.lt_irrefl _ (hmw _ q))
  exact ⟨h1.cell 0, h1.cell 1⟩)
 show Calls _ _ #[.agg #[.int .u64 o, mtr m], _] _ _
 rw [hmp]
 have HP := Lib.hid P0
 have HS0 := Lib.hid S0
 have HBX := Lib.hid BX
 have HMP := Lib.hid hmp
 cases hlf : x.leaf with
 | true =>
  have hvt : valT o x k = none := by unfold valT; rw [if_pos hlf]
  have hk0 : k = .nil := by unfold okN at hok; rw [hlf] at hok; exact hok.1
  have hek : ek = [] := List.eq_nil_of_length_eq_zero (by rw [hlen, hk0]; rfl)
  subst hek
  rw [hk0] at HL
  rw [hvt]
  have HL := Lib.hid (show Calls Tryz.prog 84 #[.pointer (some ⟨u, 0, none⟩)] W (fun e w' => e = .returned (.int .i64 0) /\ Still W w') from HL)
  have HNX := Lib.hid (fun (V : World) (hV : Still W V) => show Calls Tryz.prog 47 #[.pointer (some ⟨u, 0, none⟩), .int .i64 0] V (fun e w' => e = .returned (.tuple #[.int .u8 0, .pointer none]) /\ Still V w') from nnext_any (n0.still hV) 0 (by omega))
  have HON := Lib.hid (fun (V : World) => nown_nil (.pointer mp) o V)
  have HIP := Lib.hid (fun (V : World) (hV : Still W V) => show Calls Tryz.prog 85 #[.agg #[.int .u64 o, .pointer mp], .pointer (some ⟨u, 0, none⟩), .int .u8 0, .pointer none] V (fun e w' => e = .returned (.pointer none) /\ Below V.heap.size V w') from by
   have h1 := inplace_nil (o := o) (m := m) (z := 0) (d := 0) rfl (n0.still hV) hl
   unfold tkV at h1
   rw [hmp] at h1
   exact h1)
  clear hp h P0 S0 BX n0 hm0 hbs hlen hok hh hl hM hDw hmw BB hk0 hvt hmp
  go_enter Tryz.func58, Tryz.ntmps58
  go_wp2_with fail
  (with_reducible refine HL.out.mono ?_)
  rintro e w1 ⟨rfl, s1⟩
  have HNX1 := Lib.hid (HNX.out _ s1)
  have HS1 := Lib.hid s1
  clear s1 hW HL
  go_wp2_with fail
  (with_reducible refine HNX1.out.mono ?_)
  rintro e w2 ⟨rfl, s2⟩
  have HS2 := Lib.hid (HS1.out.trans s2)
  obtain ⟨k0, k1⟩ := HKC.out _ (Kept.still HS2.out)
  clear s2 HNX1
  go_upto_region 6 with fail
  go_region_held3 (fun w' => w'.cell? ⟨w.heap.size, 0, none⟩ = some (.int .u64 o) /\ w'.cell? ⟨w.heap.size, 1, none⟩ = some (.pointer mp))
   (first
   | exact HKC.out _ (Kept.still HS2.out)
   | exact HKC.out _ (Kept.still (HS2.out.trans (Still.drew1 _)))
   | exact HKC.out _ (Kept.still q1)
   | exact HKC.out _ q5)
   (first
   | (go_at_call 60; (with_reducible refine (HON.out w2).mono ?_); rintro e v1 ⟨rfl, hv⟩; obtain rfl := hv; have q1 := HS2.out)
   | (go_at_call 60; (with_reducible refine (HON.out w2.drew).mono ?_); rintro e v1 ⟨rfl, hv⟩; obtain rfl := hv; have q1 := HS2.out.trans (Still.drew1 _))
   | (go_at_call 85; (with_reducible refine (HIP.out _ q1).mono ?_); rintro e v2 ⟨rfl, b2⟩; have q5 := Kept.of_below (D := fun q => m = some q) ((q1.below W.heap.size).trans (b2.mono (q1.below W.heap.size).size))))
  all_goals
   have HB := Lib.hid ((q1.below W.heap.size).trans (b2.mono (q1.below W.heap.size).size))
   clear b2 q1 q5
   go_wp2_with fail
   go_ret
   have h1 := HS0.out.below HP.out HB.out
   exact ⟨none, _, 0, rfl, ((HBX.out _ _ _ _ _ _ h1).2.2).nothing, Nat.zero_le _, fun _ => rfl⟩
 | false =>
  have hin := ok_inner hok hlf
  rw [if_pos hh] at hin
  have hvt : valT o x k = tleft o ⟨false, o, x.part, 0, false⟩ k := by unfold valT; rw [if_neg (by rw [hlf]; simp)]
  rw [hvt]
  by_cases hk1 : k.len = 1
  ·obtain ⟨b, y, ky, rfl⟩ := Fo.len_one hk1
   obtain ⟨be1, A1, g, Dk, n1, hk⟩ := S0.onekid
   have hln := hM b y ky rfl
   rw [hk1] at HL
   have HL := Lib.hid (show Calls Tryz.prog 84 #[.pointer (some ⟨u, 0, none⟩)] W (fun e w' => e = .returned (.int .i64 1) /\ Still W w') from HL)
   obtain ⟨z, hz⟩ : ∃ z : Int, z = (b.toNat : Int) := ⟨_, rfl⟩
   have HNX := Lib.hid (fun (V : World) (hV : Still W V) => show Calls Tryz.prog 47 #[.pointer (some ⟨u, 0, none⟩), .int .i64 0] V (fun e w' => e = .returned (.tuple #[.int .u8 z, .pointer (some ⟨g, 0, none⟩)]) /\ Still V w') from by
    rw [hz]
    exact nnext_any (n1.still hV) 0 (by omega))
   have HON := Lib.hid (fun (V : World) (hV : Still W V) => show Calls Tryz.prog 60 #[.pointer (some ⟨g, 0, none⟩), .pointer mp, .int .u64 o] V (fun e w' => ∃ u', e = .returned (.pointer (some ⟨u', 0, none⟩)) /\ Kept (fun q => m = some q) W w' /\
     ∀ V2, Still w' V2 -> Calls Tryz.prog 85 #[.agg #[.int .u64 o, .pointer mp], .pointer (some ⟨u, 0, none⟩), .int .u8 z, .pointer (some ⟨u', 0, none⟩)] V2 fun e V' => e = .returned (.pointer (some ⟨u', 0, none⟩)) /\ ∃ D', Std W V' o S D0 m rest cnt ⟨y.leaf, o, x.part ++ b :: y.part, y.val, y.has⟩ ky u' D' (if y.ow = o then 0 else 1)) from by
    have h1 := Std.ownplaced P0 (hk.still P0 hV) (Nat.le_refl _) (n0.still hV) hm0 hz hln
    unfold tkV at h1
    rw [hmp] at h1
    refine h1.mono ?_
    rintro e w' ⟨u', rfl, k2, h2⟩
    refine ⟨u', rfl, (Kept.still hV).trans k2, fun V2 hV2 => (h2 V2 hV2).mono ?_⟩
    rintro e V' ⟨rfl, _, D', s'⟩
    rw [Nat.zero_add] at s'
    exact ⟨rfl, D', s'⟩)
   clear hp h P0 S0 BX n0 hm0 hbs hlen hok hh hl hM hDw hmw BB hvt hk n1 hz hmp hk1 hin hln
   go_enter Tryz.func58, Tryz.ntmps58
   go_wp2_with fail
   (with_reducible refine HL.out.mono ?_)
   rintro e w1 ⟨rfl, s1⟩
   have HNX1 := Lib.hid (HNX.out _ s1)
   have HS1 := Lib.hid s1
   clear s1 hW HL
   go_wp2_with fail
   (with_reducible refine HNX1.out.mono ?_)
   rintro e w2 ⟨rfl, s2⟩
   have HS2 := Lib.hid (HS1.out.trans s2)
   obtain ⟨k0, k1⟩ := HKC.out _ (Kept.still HS2.out)
   clear s2 HNX1
   go_upto_region 6 with fail
   go_region_held3 (fun w' => w'.cell? ⟨w.heap.size, 0, none⟩ = some (.int .u64 o) /\ w'.cell? ⟨w.heap.size, 1, none⟩ = some (.pointer mp))
    (first
    | exact HKC.out _ (Kept.still HS2.out)
    | exact HKC.out _ (Kept.still (HS2.out.trans (Still.drew1 _)))
    | exact q6
    | exact HKC.out _ q1)
    (first
    | (go_at_call 60; (with_reducible refine (HON.out _ HS2.out).mono ?_); rintro e v1 ⟨u', rfl, q1, q2⟩)
    | (go_at_call 60; (with_reducible refine (HON.out _ (HS2.out.trans (Still.drew1 _))).mono ?_); rintro e v1 ⟨u', rfl, q1, q2⟩)
    | (go_at_call 85; (with_reducible refine (q2 _ (Still.refl _)).mono ?_); rintro e v2 ⟨rfl, D2, s2⟩; have q6 := (show v2.cell? ⟨w.heap.size, 0, none⟩ = some (.int .u64 o) /\ v2.cell? ⟨w.heap.size, 1, none⟩ = some (.pointer mp) from ⟨(HBX.out _ _ _ _ _ _ s2).1.cell 0, (HBX.out _ _ _ _ _ _ s2).1.cell 1⟩)))
   all_goals
    have HF := Lib.hid (HBX.out _ _ _ _ _ _ s2).2.2
    clear s2 q1 q2 q6
    go_wp2_with fail
    go_ret
    exact ⟨_, _, _, rfl, HF.out.opt, by split <;> omega, fun q => by cases q⟩
  ·have hk2 : 2 <= k.len := by omega
   rw [tleft_two (by dsimp only; omega)]
   obtain ⟨kl, hkl⟩ : ∃ n, k.len = n := ⟨_, rfl⟩
   rw [hkl] at HL hk2
   have HL := Lib.hid HL
   have hgt : (1 : Int) < (kl : Int) := by omega
   have HLF := Lib.hid hlf
   have HH := Lib.hid hh
   clear hp h P0 S0 BX n0 hm0 hbs hlen hok hh hl hM hDw hmw BB hvt hmp hk1 hin hkl hlf
   go_enter Tryz.func58, Tryz.ntmps58
   go_wp2_with fail
   (with_reducible refine HL.out.mono ?_)
   rintro e w1 ⟨rfl, s1⟩
   have S1 := HS0.out.still HP.out s1
   obtain ⟨k0, k1⟩ := HKC.out _ (Kept.still s1)
   have HO := Lib.hid (Std.own (HP.out.on0 S1) S1.tow)
   rw [HMP.out] at HO
   have HS1 := Lib.hid S1
   clear s1 S1 hW HL
   go_wp2_with fail
   (with_reducible refine HO.out.mono ?_)
   rintro e w2 ⟨u2, D2, rfl, s2, _⟩
   have S2 := HS1.out.trans0 s2
   have hj2 : (if x.ow = o then 0 else 1) <= 1 := by split <;> omega
   have P2 := HP.out.on S2 hj2
   have HDV := Std.dropval P2 S2.tow rfl HLF.out HH.out
   have HDV := Lib.hid HDV
   have HS2 := Lib.hid S2
   have HJ := Lib.hid hj2
   have k0 : w2.cell? ⟨w.heap.size, 0, none⟩ = some (.int .u64 o) := (HBX.out _ _ _ _ _ _ S2).1.cell 0
   clear s2 S2 P2 hj2 HO HS1
   go_wp2_with fail
   (with_reducible refine HDV.out.mono ?_)
   rintro e w3 ⟨rfl, D3, s3⟩
   have HF := Lib.hid (HBX.out _ _ _ _ _ _ (HS2.out.trans s3)).2.2
   clear s3 HDV
   go_wp2_with fail
   go_ret
   have h1 := HF.out
   rw [HLF.out, Nat.add_zero] at h1
   exact ⟨_, _, _, rfl, h1.opt, HJ.out, fun q => by cases q⟩
end
end Go.Proofs.YtcbgieoiefbeiaaGreatDoor
namespace Go.Proofs.YtcbgieoiefbeiaaGreatDoor
open Go.RowKit Go.Shelf
attribute [local go_sem] Oper.semAt_some
section
variable {W V : World} {o : Int} {S D : Nat -> Prop} {m : Option Nat} {rest : List Value} {cnt : Int} {x : Nn} {k : Fo} {u j i : Nat}
set_option maxRecDepth 100000 in
theorem Gon.leaf {d : UInt8} (hp : Pre W o S D m rest cnt j) (HG : Gon W V o S D m rest cnt j x k u d i) (hj : i + 1 <= j) {A : Option Addr} {n c B : Nat} (ha : Byt V B A n x.part) (hB : B <= V.heap.size) (hn : n <= 140737488355328) (hd : ∀ q, Pb A x.part q -> m ≠ some q) :
  Calls Tryz.prog 69 #[mtr m, .int .u64 o, .slice A n c, .int .u64 x.val] V fun e V2 => ∃ u3, e = .returned (.pointer (some ⟨u3, 0, none⟩)) /\ Kept (fun q => m = some q) V V2 /\ ∃ D3, Std W V2 o S D m rest cnt ⟨true, o, x.part, x.val, true⟩ .nil u3 D3 (i + 1) := by
 have hz := HG.kept.size
 refine (leaf_tow (o := o) (S := S) m (cnt + (i : Nat)) x.val n c B x.part (fun q hq => ⟨HG.num q hq, by have := (hp.mt q hq).2.1; omega, by have := hp.few; omega⟩) ha hB hn hd).mono ?_
 rintro e V2 ⟨u3, rfl, t, k2, n2⟩
 refine ⟨u3, rfl, k2, _, t, fun q hq => .inr (by omega), HG.kept.thru k2 (fun q _ y => .inr y), fun q hq => ?_⟩
 rw [show cnt + ((i + 1 : Nat) : Int) = cnt + (i : Nat) + 1 by omega]
 exact n2 q hq
set_option maxRecDepth 100000 in
set_option maxHeartbeats 4000000 in
theorem wkid_any {d : UInt8} {T : Nn × Fo} {z : Int} (hz : z = (d.toNat : Int)) (hp : Pre W o S D m rest cnt j) (hWV : W.heap.size <= V.heap.size) (HG : ∀ V', Below V.heap.size V V' -> Gon W V' o S D m rest cnt j x k u d i) (hj : i + 1 <= j) (hl : x.leaf = false) (hok : okN x k) (hsr : k.srt) (hT : k.kid d = some T) (hpl : x.part.length <= 1000000) (hM : ∀ c T', k.kid c = some T' -> x.part.length + (T'.1.part.length + 1) <= 140737488355328) (hD : ∀ q, D q -> q < V.heap.size) :
  Calls Tryz.prog 59 #[tkV o m, .pointer (some ⟨u, 0, none⟩), .int .u8 z] V (WPost W o S D m rest cnt (i + 1) (tleft o ⟨false, o, x.part, x.val, x.has⟩ (k.drop d))) := by
 obtain ⟨mp, hmp⟩ : ∃ mp, mtr m = .pointer mp := ⟨_, rfl⟩
 obtain ⟨W2, hW⟩ : ∃ W2, V.alloc (.cells #[.int .u64 o, .pointer mp] 79) = W2 := ⟨_, rfl⟩
 have hb : Below V.heap.size V W2 := by rw [<- hW]; exact (Below.refl _ _).alloc (Nat.le_refl _) _
 have BB : Blk W2 V.heap.size #[.int .u64 o, .pointer mp] := by rw [<- hW]; exact Blk.new V _ _
 have hmw : ∀ q, m = some q -> q < V.heap.size := fun q hq => by have := hp.lt hq; omega
 have HKC := Lib.hid (fun (V' : World) (hk : Kept (fun q => D q \/ m = some q) W2 V') => show V'.cell? ⟨V.heap.size, 0, none⟩ = some (.int .u64 o) /\ V'.cell? ⟨V.heap.size, 1, none⟩ = some (.pointer mp) from by
  have h1 := hk.blk BB (fun q => by
   rcases q with q | q
   ·exact Nat.lt_irrefl _ (hD _ q)
   ·exact Nat.lt_irrefl _ (hmw _ q))
  exact ⟨h1.cell 0, h1.cell 1⟩)
 have HGW := Lib.hid (fun (V' : World) (h : Below W2.heap.size W2 V') => HG V' (hb.trans (h.mono hb.size)))
 have hGV := HG V (Below.refl _ _)
 obtain ⟨be, A, ek, Dh, nV, hh0, hDh, hm0⟩ := hGV.nod
 have n0 := nV.below hb
 have hbs := hh0.bs
 have hlen : ek.length = k.len := by rw [<- Fo.bs_len, <- hbs, List.length_map]
 have HOC := nocc_any n0
 obtain ⟨oc, hoc⟩ : ∃ z, occN (x.nd ek) = z := ⟨_, rfl⟩
 have hoc1 : x.has = true -> oc = (k.len : Int) + 1 := fun e => by rw [<- hoc, <- hlen]; unfold occN; rw [if_pos (show (x.nd ek).has = true from e)]
 have hoc0 : x.has = false -> oc = (k.len : Int) := fun e => by rw [<- hoc, <- hlen]; unfold occN; rw [if_neg (by rw [show (x.nd ek).has = false from e]; simp)]
 rw [hoc] at HOC
 have HOC := Lib.hid HOC
 have hin := ok_inner hok hl
 have hdl := Fo.drop_len hT
 have HP := Lib.hid hp
 have HMP := Lib.hid hmp
 have HZ := Lib.hid hz
 have HMW := Lib.hid hmw
 have hzW : V.heap.size <= W2.heap.size := hb.size
 show Calls _ _ #[.agg #[.int .u64 o, mtr m], _, _] _ _
 rw [hmp]
 by_cases hbig : 2 < oc
 ·rw [tleft_two (x := ⟨false, o, x.part, x.val, x.has⟩) (by
   cases hh : x.has with
   | true => have := hoc1 hh; simp only [if_true]; omega
   | false => have := hoc0 hh; simp only [Bool.false_eq_true, if_false]; omega)]
  have HL := Lib.hid hl
  have HJ := Lib.hid hj
  clear hp HG hj hl hok hsr hT hpl hM n0 nV hGV hh0 hDh hm0 hbs hlen hoc hoc1 hoc0 hin hdl BB hb hmp hz hmw hWV hD
  go_enter Tryz.func59, Tryz.ntmps59
  go_wp2_with fail
  (with_reducible refine HOC.out.mono ?_)
  rintro e w1 ⟨rfl, s1⟩
  have HO := (HGW.out w1 (s1.below _)).own (by have := HJ.out; split <;> omega)
  rw [HMP.out, <- HZ.out] at HO
  have HO := Lib.hid HO
  obtain ⟨k0, k1⟩ := HKC.out _ (Kept.still s1)
  have HS1 := Lib.hid s1
  clear s1 hW HOC
  go_wp2_with fail
  (with_reducible refine HO.out.mono ?_)
  rintro e w2 ⟨u3, rfl, k2, h2⟩
  obtain ⟨k0, k1⟩ := HKC.out _ ((Kept.still HS1.out).trans (k2.mono (fun q z => .inr z)))
  have HD := Lib.hid (h2 w2 (Still.refl _))
  clear h2 k2 HO
  go_wp2_with fail
  (with_reducible refine HD.out.mono ?_)
  rintro e w3 ⟨⟨z3, rfl⟩, D5, s5⟩
  have HF := Lib.hid s5
  clear s5 HD
  go_wp2_with fail
  go_ret
  have h1 := HF.out
  rw [HL.out] at h1
  exact ⟨_, _, _, rfl, h1.opt, by split <;> omega, fun q => by cases q⟩
 ·have hnb : ¬ (2 : Int) < oc := hbig
  cases hh : x.has with
  | true =>
   rw [if_pos hh] at hin
   have ho1 := hoc1 hh
   obtain ⟨b, y, ky, rfl⟩ := Fo.len_one (show k.len = 1 by omega)
   have hbd : b = d := by
    rw [Fo.kid] at hT
    by_cases e : b = d
    ·exact e
    ·rw [if_neg e] at hT
     cases hT
   rw [show (Fo.cons b y ky .nil).drop d = .nil from by rw [Fo.drop, if_pos hbd]]
   rw [show tleft o ⟨false, o, x.part, x.val, true⟩ .nil = some (⟨true, o, x.part, x.val, true⟩, .nil) from rfl]
   have HV := Lib.hid (fun (V' : World) (hV : Still W2 V') => show Calls Tryz.prog 45 #[.pointer (some ⟨u, 0, none⟩)] V' (fun e w' => e = .returned (.tuple #[.int .u64 x.val, .bool true]) /\ Still V' w') from by
    have h1 := val_any (n0.still hV)
    rw [show (x.nd ek).has = true from hh] at h1
    exact h1)
   obtain ⟨pn, hpn⟩ : ∃ n, x.part.length = n := ⟨_, rfl⟩
   have HQ := Lib.hid (fun (V' : World) (hV : Still W2 V') => show Calls Tryz.prog 44 #[.pointer (some ⟨u, 0, none⟩)] V' (fun e V3 => ∃ A3 c3, e = .returned (.slice A3 pn c3) /\ Kept (fun q => D q \/ m = some q) W2 V3 /\
     ∀ V4, Still V3 V4 -> Calls Tryz.prog 69 #[.pointer mp, .int .u64 o, .slice A3 pn c3, .int .u64 x.val] V4 fun e V5 => ∃ u3, e = .returned (.pointer (some ⟨u3, 0, none⟩)) /\ Kept (fun q => D q \/ m = some q) W2 V5 /\ ∃ D3, Std W V5 o S D m rest cnt ⟨true, o, x.part, x.val, true⟩ .nil u3 D3 (i + 1)) from by
    refine (npartr_any (n0.still hV)).mono ?_
    rintro e V3 ⟨A3, c3, rfl, y3, z3, b3, l3⟩
    have bW3 : Below W2.heap.size W2 V3 := (hV.below _).trans (b3.mono (hV.below W2.heap.size).size)
    refine ⟨A3, c3, by rw [<- hpn], Kept.of_below bW3, fun V4 hV4 => ?_⟩
    have bW4 : Below W2.heap.size W2 V4 := bW3.trans (hV4.below _)
    have h1 := Gon.leaf (c := c3) hp (HGW.out V4 bW4) hj (y3.below (hV4.below V3.heap.size)) (hV4.below V3.heap.size).size (by show x.part.length <= _; omega) (fun q hq e => by
     have h2 := z3 q hq
     have h3 := hmw q e
     have h4 := (hV.below W2.heap.size).size
     omega)
    rw [hmp, show (x.nd ek).part.length = pn from hpn] at h1
    refine h1.mono ?_
    rintro e V5 ⟨u3, rfl, k5, s5⟩
    exact ⟨u3, rfl, (Kept.of_below bW4).trans (k5.mono fun q z => .inr z), s5⟩)
   clear hp HG hj hl hok hsr hT hpl hM n0 nV hGV hh0 hDh hm0 hbs hlen hoc hoc1 hoc0 hin hdl BB hb hmp hz hmw hWV ho1 hbd hpn hh hD hbig
   go_enter Tryz.func59, Tryz.ntmps59
   go_wp2_with fail
   (with_reducible refine HOC.out.mono ?_)
   rintro e w1 ⟨rfl, s1⟩
   have HV1 := Lib.hid (HV.out w1 s1)
   have HS1 := Lib.hid s1
   clear s1 hW HOC
   go_wp2_with fail
   (with_reducible refine HV1.out.mono ?_)
   rintro e w2 ⟨rfl, s2⟩
   have HS2 := Lib.hid (HS1.out.trans s2)
   obtain ⟨k0, k1⟩ := HKC.out _ (Kept.still HS2.out)
   clear s2 HV1
   go_upto_region 7 with fail
   go_region_held3 (fun w' => w'.cell? ⟨V.heap.size, 0, none⟩ = some (.int .u64 o) /\ w'.cell? ⟨V.heap.size, 1, none⟩ = some (.pointer mp))
    (first
    | exact HKC.out _ (Kept.still HS2.out)
    | exact HKC.out _ (Kept.still (HS2.out.trans (Still.drew1 _)))
    | exact HKC.out _ q5
    | exact HKC.out _ q6)
    (first
    | (go_at_call 44; (with_reducible refine (HQ.out _ HS2.out).mono ?_); rintro e v1 ⟨A3, c3, rfl, q5, h5⟩)
    | (go_at_call 44; (with_reducible refine (HQ.out _ (HS2.out.trans (Still.drew1 _))).mono ?_); rintro e v1 ⟨A3, c3, rfl, q5, h5⟩)
    | (go_at_call 69; (with_reducible refine (h5 _ (Still.refl _)).mono ?_); rintro e v2 ⟨u3, rfl, q6, D3, s3⟩))
   all_goals
    have HF := Lib.hid s3
    clear s3 q5 q6 h5
    go_wp2_with fail
    go_ret
    exact ⟨_, _, _, rfl, HF.out.opt, Nat.le_refl _, fun q => by cases q⟩
  | false =>
   rw [if_neg (by rw [hh]; simp)] at hin
   have ho0 := hoc0 hh
   obtain ⟨b1, y1, k1', b2, y2, k2', rfl⟩ := Fo.len_two (show k.len = 2 by omega)
   have h12 : b1 ≠ b2 := fun e => by
    have h1 : b1.toNat < b2.toNat := hsr.1
    rw [e] at h1
    exact Nat.lt_irrefl _ h1
   have hc : d = b1 \/ d = b2 := by
    rw [Fo.kid, Fo.kid] at hT
    by_cases e : b1 = d
    ·exact .inl e.symm
    ·by_cases e2 : b2 = d
     ·exact .inr e2.symm
     ·rw [if_neg e, if_neg e2] at hT
      cases hT
   obtain ⟨g1, g2, Dk, hek, hDk, hk1, hk2⟩ := hh0.other hc h12
   subst hek
   obtain ⟨z1, hz1⟩ : ∃ z : Int, z = (b1.toNat : Int) := ⟨_, rfl⟩
   obtain ⟨z2, hz2⟩ : ∃ z : Int, z = (b2.toNat : Int) := ⟨_, rfl⟩
   have HV := Lib.hid (fun (V' : World) (hV : Still W2 V') => show Calls Tryz.prog 45 #[.pointer (some ⟨u, 0, none⟩)] V' (fun e w' => e = .returned (.tuple #[.int .u64 x.val, .bool false]) /\ Still V' w') from by
    have h1 := val_any (n0.still hV)
    rw [show (x.nd _).has = false from hh] at h1
    exact h1)
   have HN0 := Lib.hid (fun (V' : World) (hV : Still W2 V') => show Calls Tryz.prog 47 #[.pointer (some ⟨u, 0, none⟩), .int .i64 0] V' (fun e w' => e = .returned (.tuple #[.int .u8 z1, .pointer (some ⟨g1, 0, none⟩)]) /\ Still V' w') from by
    have h1 := nnext_any (n0.still hV) 0 (by omega)
    rw [next_first] at h1
    rw [hz1]
    exact h1)
   have hop : ∀ (b' : UInt8) (y' : Nn) (k' : Fo) (g' : Nat) (z' : Int), z' = (b'.toNat : Int) -> TOw V o S y' k' g' Dk -> x.part.length + (y'.part.length + 1) <= 140737488355328 -> ∀ (V' : World), Still W2 V' -> Calls Tryz.prog 60 #[.pointer (some ⟨g', 0, none⟩), .pointer mp, .int .u64 o] V' (fun e w' => ∃ u', e = .returned (.pointer (some ⟨u', 0, none⟩)) /\ Kept (fun q => D q \/ m = some q) W2 w' /\
     ∀ V2, Still w' V2 -> Calls Tryz.prog 85 #[.agg #[.int .u64 o, .pointer mp], .pointer (some ⟨u, 0, none⟩), .int .u8 z', .pointer (some ⟨u', 0, none⟩)] V2 fun e V' => e = .returned (.pointer (some ⟨u', 0, none⟩)) /\ (V'.cell? ⟨V.heap.size, 0, none⟩ = some (.int .u64 o) /\ V'.cell? ⟨V.heap.size, 1, none⟩ = some (.pointer mp)) /\ ∃ D', Std W V' o S D m rest cnt ⟨y'.leaf, o, x.part ++ b' :: y'.part, y'.val, y'.has⟩ k' u' D' (i + (if y'.ow = o then 0 else 1))) := by
    intro b' y' k' g' z' hz' ht hln V' hV
    have hs0 : Std W V o S D m rest cnt y' k' g' Dk i := ⟨ht, fun q hq => hDh q (hDk q hq), hGV.kept, hGV.num⟩
    have h1 := Std.ownplaced hp ((hs0.below hp hb).still hp hV) hj (n0.still hV) hm0 hz' hln
    unfold tkV at h1
    rw [hmp] at h1
    refine h1.mono ?_
    rintro e w' ⟨u', rfl, kw, h2⟩
    have hkw : Kept (fun q => m = some q) W2 w' := (Kept.still hV).trans kw
    refine ⟨u', rfl, hkw.mono (fun q z => .inr z), fun V2 hV2 => (h2 V2 hV2).mono ?_⟩
    rintro e V3 ⟨rfl, k3, s3⟩
    have hbk := k3.blk ((Kept.still hV2 (D := fun _ => False)).blk (hkw.blk BB (fun q => Nat.lt_irrefl _ (hmw _ q))) (fun q => q)) (fun q => by
     have hlt := BB.lt
     have hsv := (hV.below W2.heap.size).size
     rcases q with q | q
     ·exact Nat.lt_irrefl _ q.1.2
     ·omega)
    exact ⟨rfl, ⟨hbk.cell 0, hbk.cell 1⟩, s3⟩
   obtain ⟨b', y', k', g', z', hz', hlt', ht', hdr, hfst⟩ : ∃ (b' : UInt8) (y' : Nn) (k' : Fo) (g' : Nat) (z' : Int), z' = (b'.toNat : Int) /\ x.part.length + (y'.part.length + 1) <= 140737488355328 /\ TOw V o S y' k' g' Dk /\ (Fo.cons b1 y1 k1' (.cons b2 y2 k2' .nil)).drop d = .cons b' y' k' .nil /\ ((z1 = z /\ z' = z2 /\ g' = g2) \/ (z1 ≠ z /\ z' = z1 /\ g' = g1)) := by
    rcases hc with hc | hc
    ·subst hc
     refine ⟨b2, y2, k2', g2, z2, hz2, hM b2 (y2, k2') ?_, hk1 rfl, by rw [Fo.drop, if_pos rfl], .inl ⟨by rw [hz1, hz], rfl, rfl⟩⟩
     rw [Fo.kid, if_neg h12, Fo.kid, if_pos rfl]
    ·subst hc
     refine ⟨b1, y1, k1', g1, z1, hz1, hM b1 (y1, k1') (by rw [Fo.kid, if_pos rfl]), hk2 rfl, by rw [Fo.drop, if_neg h12, Fo.drop, if_pos rfl], .inr ⟨fun e => h12 (UInt8.toNat_inj.1 (by omega)), rfl, rfl⟩⟩
   rw [hdr, show tleft o ⟨false, o, x.part, x.val, false⟩ (.cons b' y' k' .nil) = some (⟨y'.leaf, o, x.part ++ b' :: y'.part, y'.val, y'.has⟩, k') from rfl]
   have HON := Lib.hid (hop b' y' k' g' z' hz' ht' hlt')
   have hz255 : 0 <= z /\ z <= 255 := by have := d.toNat_lt; omega
   have HN1 := Lib.hid (fun (e : z1 = z) (V' : World) (hV : Still W2 V') => show Calls Tryz.prog 47 #[.pointer (some ⟨u, 0, none⟩), .int .i64 (z + 1)] V' (fun e w' => e = .returned (.tuple #[.int .u8 z2, .pointer (some ⟨g2, 0, none⟩)]) /\ Still V' w') from by
    have h1 := nnext_any (n0.still hV) (z + 1) (by omega)
    rw [next_after (i := 0) n0.up rfl (show z + 1 = (b1.toNat : Int) + 1 by omega)] at h1
    rw [hz2]
    exact h1)
   have ew : IntKind.i64.wrap (z + 1) = z + 1 := by rw [IntKind.wrap_i64]; omega
   clear hp HG hj hl hok hsr hT hpl hM n0 nV hGV hh0 hDh hm0 hbs hlen hoc hoc1 hoc0 hin hdl BB hb hmp hz hmw hWV ho0 hh hD hbig hop ht' hlt' hz' hdr hk1 hk2 hDk hz1 hz2 hc h12
   go_enter Tryz.func59, Tryz.ntmps59
   go_wp2_with fail
   (with_reducible refine HOC.out.mono ?_)
   rintro e w1 ⟨rfl, s1⟩
   have HV1 := Lib.hid (HV.out w1 s1)
   have HS1 := Lib.hid s1
   clear s1 hW HOC
   go_wp2_with fail
   (with_reducible refine HV1.out.mono ?_)
   rintro e w2 ⟨rfl, s2⟩
   have HS2 := Lib.hid (HS1.out.trans s2)
   have HN2 := Lib.hid (HN0.out w2 HS2.out)
   clear s2 HV1
   go_wp2_with fail
   (with_reducible refine HN2.out.mono ?_)
   rintro e w3 ⟨rfl, s3⟩
   have HS3 := Lib.hid (HS2.out.trans s3)
   clear s3 HN2 hnb
   rcases hfst with ⟨h1, rfl, rfl⟩ | ⟨h1, rfl, rfl⟩
   case' inl =>
    have HN3 := Lib.hid (HN1.out h1 w3 HS3.out)
    have hbz : (z1 == z) = true := by simpa using h1
    clear h1
    go_wp2_with fail
    (with_reducible refine HN3.out.mono ?_)
    rintro e w4 ⟨rfl, s4⟩
    obtain ⟨wx, hwx⟩ : ∃ wx, w4 = wx := ⟨_, rfl⟩
    subst hwx
    have HSX := Lib.hid (HS3.out.trans s4)
    clear s4 HN3
   case' inr =>
    have hbz : (z' == z) = false := by simpa using h1
    clear h1
    have HSX := HS3
   all_goals
    obtain ⟨k0, k1⟩ := HKC.out _ (Kept.still HSX.out)
    go_upto_region 11 with fail
    go_region_held3 (fun w' => w'.cell? ⟨V.heap.size, 0, none⟩ = some (.int .u64 o) /\ w'.cell? ⟨V.heap.size, 1, none⟩ = some (.pointer mp))
     (first
     | exact HKC.out _ (Kept.still HSX.out)
     | exact HKC.out _ (Kept.still (HSX.out.trans (Still.drew1 _)))
     | exact q6
     | exact HKC.out _ q1)
     (first
     | (go_at_call 60; (with_reducible refine (HON.out _ HSX.out).mono ?_); rintro e v1 ⟨u', rfl, q1, q2⟩)
     | (go_at_call 60; (with_reducible refine (HON.out _ (HSX.out.trans (Still.drew1 _))).mono ?_); rintro e v1 ⟨u', rfl, q1, q2⟩)
     | (go_at_call 85; (with_reducible refine (q2 _ (Still.refl _)).mono ?_); rintro e v2 ⟨rfl, q6, D2, s2⟩))
    all_goals
     have HF := Lib.hid s2
     clear s2 q1 q2 q6
     go_wp2_with fail
     go_ret
     exact ⟨_, _, _, rfl, HF.out.opt, by split <;> omega, fun q => by cases q⟩
end
end Go.Proofs.YtcbgieoiefbeiaaGreatDoor
namespace Go.Proofs.YtcbgieoiefbeiaaGreatDoor
open Go.RowKit Go.Shelf
attribute [local go_sem] Oper.semAt_some
def Wout (o : Int) (f : Nat) : Prop :=
 ∀ (l : List UInt8) (x : Nn) (k : Fo) (u : Nat) (A : Option Addr) (n c : Nat) (S D : Nat -> Prop) (m : Option Nat) (rest : List Value) (cnt : Int) (w : World),
  l.length < f -> TOw w o S x k u D -> osrt (some (x, k)) -> tgood x k -> (∃ v, (l, v) ∈ tlist x k []) -> (∀ p ∈ tlist x k [], p.1.length <= 1000000) -> Pre w o S D m rest cnt (tway o x k l + 1) -> (∀ V, Kept (fun q => D q \/ m = some q) w V -> Byt V w.heap.size A n l) -> n <= c ->
  Calls Tryz.prog 30 #[tkV o m, .pointer (some ⟨u, 0, none⟩), .slice A n c] w (WPost w o S D m rest cnt (tway o x k l + 1) (tdel o x k l))
theorem begB_app (a b : List UInt8) : begB (a ++ b) a = true := by
 have h : a.drop (lcp (a ++ b) a) = [] := (part_end (x := ⟨false, 0, a, 0, false⟩) (l := a ++ b)).2 ⟨b, rfl⟩
 refine is_beg (x := ⟨false, 0, a, 0, false⟩) rfl ?_
 have h1 := congrArg List.length h
 rw [List.length_drop, List.length_nil] at h1
 have h2 := lcp_le_right (a ++ b) a
 show lcp (a ++ b) a = a.length
 omega
set_option maxRecDepth 100000 in
set_option maxHeartbeats 4000000 in
theorem without_step {o : Int} {f : Nat} (ih : Wout o f) : Wout o (f + 1) := by
 intro l x k u A n c S D m rest cnt w hlen h hsr hg hm hM hp hky hnc
 have hll : l.length = n := (hky w (Kept.refl _ _)).1
 have hpl : x.part.length <= 1000000 := by
  obtain ⟨p, hp1, hp2⟩ := good_has hg
  exact Nat.le_trans hp2 (hM p hp1)
 have hMk : ∀ c T', k.kid c = some T' -> x.part.length + (T'.1.part.length + 1) <= 140737488355328 := fun c T' hT => by
  have := part_two hg.2 hT hM
  omega
 obtain ⟨mp, hmp⟩ : ∃ mp, mtr m = .pointer mp := ⟨_, rfl⟩
 obtain ⟨W, hW⟩ : ∃ W, w.alloc (.cells #[.int .u64 o, .pointer mp] 79) = W := ⟨_, rfl⟩
 obtain ⟨P0, S0, BX⟩ := hp.boxed h _ _ hW
 have hbW : Below w.heap.size w W := by rw [<- hW]; exact (Below.refl _ _).alloc (Nat.le_refl _) _
 have hzw : w.heap.size <= W.heap.size := hbW.size
 have hzW1 : W.heap.size = w.heap.size + 1 := by rw [<- hW, World.size_alloc]
 obtain ⟨D0, hD0⟩ : ∃ D0, (fun i => D i /\ i < w.heap.size) = D0 := ⟨_, rfl⟩
 rw [hD0] at P0 S0 BX
 have hD0D : ∀ q, D0 q -> D q /\ q < w.heap.size := fun q z => by rw [<- hD0] at z; exact z
 have hky0 : ∀ V, Kept (fun q => D0 q \/ m = some q) W V -> Byt V w.heap.size A n l := fun V hk => hky V ((Kept.of_below hbW).trans (hk.mono fun q z => z.imp (fun y => (hD0D q y).1) id))
 have BK : ∀ V, Kept (fun q => D0 q \/ m = some q) W V -> Blk V w.heap.size #[.int .u64 o, .pointer mp] := fun V hk => hp.boxk _ _ hW V (hk.mono fun q z => z.imp (fun y => by rw [<- hD0] at y; exact y) id)
 clear hD0
 obtain ⟨be, Ab, ek, n0⟩ := S0.nod
 have HPT := npartr_any n0
 obtain ⟨mpl, hmpl⟩ : ∃ z, x.part.length = z := ⟨_, rfl⟩
 show Calls _ _ #[.agg #[.int .u64 o, mtr m], _, _] _ _
 rw [hmp]
 have HPT := Lib.hid HPT
 have HP := Lib.hid P0
 have HS0 := Lib.hid S0
 have HBK := Lib.hid (fun (V : World) (hk : Kept (fun q => D0 q \/ m = some q) W V) => show V.cell? ⟨w.heap.size, 0, none⟩ = some (.int .u64 o) /\ V.cell? ⟨w.heap.size, 1, none⟩ = some (.pointer mp) from ⟨(BK V hk).cell 0, (BK V hk).cell 1⟩)
 have HKY := Lib.hid hky0
 have HMP := Lib.hid hmp
 have HLL := Lib.hid hll
 have HLN := Lib.hid hlen
 have HSR := Lib.hid hsr
 have HG := Lib.hid hg
 have HM := Lib.hid hM
 have HMK := Lib.hid hMk
 have HPL := Lib.hid hpl
 have HNC := Lib.hid hnc
 have HIH := Lib.hid ih
 have HML := Lib.hid hmpl
 have HD := Lib.hid hD0D
 have HBW := Lib.hid hbW
 have HF := Lib.hid (fun (V : World) (T : Option (Nn × Fo)) (p : Option Addr) (D1 : Nat -> Prop) (i : Nat) (hs : OStd W V o S D0 m rest cnt T p D1 i) => show OStd w V o S D m rest cnt T p D1 i from (hs.mono (fun q z => (hD0D q z).1)).from hbW)
 have hz0 : n <= 9223372036854775807 := by have := (hky w (Kept.refl _ _)).2.1; unfold maxLen at this; omega
 have hw2 := way_two hsr hm
 clear hp h P0 S0 BX n0 hky hmp hll hlen hsr ih hky0 hnc BK hg hm hM hMk hpl hD0D hbW
 go_enter Tryz.func30, Tryz.ntmps30
 go_wp2_with fail
 (with_reducible refine HPT.out.mono ?_)
 rintro e w1 ⟨Ap, cp, rfl, y1, _, b1, _⟩
 rw [show (x.nd ek).part.length = mpl from hmpl]
 have S1 := HS0.out.below HP.out b1
 obtain ⟨D1, S1⟩ := S1.hide
 have P1 := HP.out.on0 S1
 obtain ⟨k0, k1⟩ := HBK.out _ S1.kept
 have HS1 := Lib.hid S1
 have HP1 := Lib.hid P1
 clear S1 P1 HPT y1 b1 hW hmpl
 rcases hw2 with ⟨hl, hh⟩ | ⟨d, lr, T, hl, hlf, hT, hmT⟩
 ·-- the node's own key
  have hnm : n = mpl := by rw [<- HLL.out, <- HML.out, hl]
  subst hnm
  have hdr : l.drop x.part.length = [] := by rw [hl]; exact List.drop_length ..
  have hvt : valT o x k = tdel o x k l := by
   unfold valT
   cases hlf : x.leaf with
   | true => rw [if_pos rfl, tdel_leaf hdr hlf]
   | false => rw [if_neg (by simp), tdel_here hdr hlf]
  have HWV := wval_any (HP1.out.less (show 1 <= tway o x k l + 1 by omega)) HS1.out.tow HG.out.1 hh HPL.out (fun b y ky e => HMK.out b (y, ky) (by rw [e, Fo.kid, if_pos rfl]))
  unfold tkV at HWV
  rw [HMP.out, hvt] at HWV
  have HWV := Lib.hid HWV
  clear hl hh hdr hvt
  go_wp2_with fail
  (with_reducible refine HWV.out.mono ?_)
  rintro e w2 ⟨p2, D2, j2, rfl, s2, b2, c2⟩
  have HE := Lib.hid (HF.out _ _ _ _ _ (HS1.out.otrans (i' := j2) (by rw [show cnt + ((0 : Nat) : Int) = cnt by omega]; exact s2)))
  clear s2 HWV
  go_wp2_with fail
  go_ret
  have h1 := HE.out
  rw [Nat.zero_add] at h1
  exact ⟨p2, D2, j2, rfl, h1, by omega, c2⟩
 ·-- behind a kid
  have hll1 : n = mpl + (lr.length + 1) := by rw [<- HLL.out, <- HML.out, hl, List.length_append, List.length_cons]
  have hne : ((n : Int) == (mpl : Int)) = false := by rw [beq_eq_false_iff_ne]; omega
  have hdr : l.drop x.part.length = d :: lr := by rw [hl]; exact List.drop_left ..
  have hway : tway o x k l = (if x.ow = o then 0 else 1) + tway o T.1 T.2 lr := by
   rw [tway_on (by rw [hl]; exact begB_app _ _) hdr, hT]
   rfl
  obtain ⟨R7, hR7⟩ : ∃ R, tdel o T.1 T.2 lr = R := ⟨_, rfl⟩
  have hgo := tdel_goes (o := o) HSR.out.2 hdr hT
  rw [show odel o (some T) lr = R7 from hR7] at hgo
  have HDN := Lib.hid (show R7 = none -> tdel o x k l = tleft o ⟨false, o, x.part, x.val, x.has⟩ (k.drop d) from fun e => by rw [hgo, e]; rfl)
  have HDS := Lib.hid (show ∀ U, R7 = some U -> tdel o x k l = some (⟨false, o, x.part, x.val, x.has⟩, k.set d U.1 U.2) from fun U e => by
   rw [hgo, e]
   show tleft o _ (k.set d U.1 U.2) = _
   rw [tleft_two (by rw [Fo.set_len HSR.out.2 hT]; exact ok_inner (x := x) HG.out.1 hlf)])
  obtain ⟨p6, Dy, g1, g2, g3, g4, g5⟩ := Std.went HP.out HS1.out (Nat.zero_le _) hlf d
  obtain ⟨g6, rfl, _⟩ : ∃ g, p6 = some ⟨g, 0, none⟩ /\ TOw w1 o S T.1 T.2 g Dy := by
   have h1 := (g2 w1 (Still.refl _)).1
   rw [hT] at h1
   exact h1
  have hb0 := HKY.out w1 HS1.out.kept
  obtain ⟨ad, rfl, _, hc0⟩ := hb0.2.2 (by omega)
  have hdl : l.drop (mpl + 1) = lr := by
   have h1 : (l.drop x.part.length).drop 1 = lr := by rw [hdr]; rfl
   rwa [List.drop_drop, HML.out] at h1
  have hds : l[mpl]? = some d := by
   have h1 : (l.drop x.part.length)[0]? = some d := by rw [hdr]; rfl
   rwa [List.getElem?_drop, Nat.add_zero, HML.out] at h1
  obtain ⟨bz, hbz⟩ : ∃ z : Int, z = (d.toNat : Int) := ⟨_, rfl⟩
  have k3 : w1.cell? (ad.add mpl) = some (.int .u8 bz) := by rw [hbz]; exact hc0 mpl d hds
  obtain ⟨s1, hs1⟩ : ∃ X, mpl + 1 = X := ⟨_, rfl⟩
  have hs1n : s1 <= n := by omega
  have ew : IntKind.i64.wrap ((mpl : Int) + 1) = (s1 : Int) := by rw [IntKind.wrap_i64]; omega
  have sl2 := fun W' => slc_from (P := Tryz.prog) Tryz.underlying23 size_u8 (some ad) n c s1 hs1n W'
  obtain ⟨Ap', hAp⟩ : ∃ X, cutA (some ad) s1 c 1 = X := ⟨_, rfl⟩
  obtain ⟨np', hnp⟩ : ∃ X, n - s1 = X := ⟨_, rfl⟩
  obtain ⟨cp', hcp⟩ : ∃ X, c - s1 = X := ⟨_, rfl⟩
  rw [hs1] at hdl
  have hnc' := HNC.out
  have HGO := Lib.hid (fun (V : World) (hV : Still w1 V) => HIH.out lr T.1 T.2 g6 (cutA (some ad) s1 c 1) (n - s1) (c - s1) S Dy m rest (cnt + ((0 : Nat) : Int)) V (by have := HLN.out; have := HLL.out; omega) (by
    have h1 := (g2 V hV).1
    rw [hT] at h1
    obtain ⟨g7, e, h1⟩ := h1
    injection e with e
    injection e with e
    subst e
    exact h1) (by have h1 := Fo.srt_kid (c := d) HSR.out.2; rw [hT] at h1; exact h1) (Fo.kid_good HG.out.2 hT) hmT (kid_short hT HM.out) ((g2 V hV).2.less (by rw [hway]; omega)) (fun V' hk => by
    have h1 := (HKY.out V' (g3 V V' hV hk)).cut_ s1 n hs1n (Nat.le_refl _) hnc'
    rw [List.take_of_length_le (by rw [HLL.out]; exact Nat.le_refl _), hdl] at h1
    exact h1.more (Nat.le_trans hzw (Nat.le_trans HS1.out.kept.size (hV.below w1.heap.size).size))) (by omega))
  rw [hR7] at HGO
  unfold tkV at HGO
  rw [HMP.out, hAp, hnp, hcp] at HGO
  rw [hAp, hnp, hcp] at sl2
  rw [<- hbz] at g1
  have HKD := Lib.hid g1
  have HG3 := Lib.hid g3
  have HG4 := Lib.hid g4
  have HG5 := Lib.hid g5
  have HBZ := Lib.hid hbz
  have HT := Lib.hid hT
  have HLF := Lib.hid hlf
  have HWY := Lib.hid hway
  have hzs : (0 : Int) <= (mpl : Int) := by omega
  have hzt : (mpl : Int) < (n : Int) := by omega
  have hzn : ((mpl : Int)).toNat = mpl := by omega
  clear hl hlf hT hmT hdr hway hgo g1 g2 g3 g4 g5 hb0 hc0 hdl hds hbz hs1 hs1n hAp hnp hcp hnc' hR7 hll1
  go_upto_region 5 with fail
  go_region_held3 (fun w' => w'.cell? ⟨w.heap.size, 0, none⟩ = some (.int .u64 o) /\ w'.cell? ⟨w.heap.size, 1, none⟩ = some (.pointer mp))
   (first
   | exact HBK.out _ HS1.out.kept
   | exact HBK.out _ HS1.out.kept.drew
   | exact HBK.out _ q5
   | exact HBK.out _ q6)
   (first
   | (go_at_call 49; (with_reducible refine (HKD.out _ (Still.refl _)).mono ?_); rintro e v1 ⟨rfl, q1⟩; have q5 := HG3.out _ _ q1 (Kept.refl _ _))
   | (go_at_call 49; (with_reducible refine (HKD.out _ (Still.drew1 _)).mono ?_); rintro e v1 ⟨rfl, q0⟩; have q1 := (Still.drew1 _).trans q0; have q5 := HG3.out _ _ q1 (Kept.refl _ _))
   | (go_at_call 30; (with_reducible refine (HGO.out _ q1).mono ?_); rintro e v2 ⟨p7, D7, j7, rfl, s7, b7, c7⟩; have q6 := HG3.out _ _ q1 s7.kept))
  all_goals
   have HQ1 := Lib.hid q1
   have HQ6 := Lib.hid q6
   have HB7 := Lib.hid b7
   obtain ⟨k0, k1⟩ := HBK.out _ q6
   clear q1 q5 q6 b7 k3 sl2 ew hzs hzt hzn HGO HKD
   cases R7 with
   | none =>
    obtain rfl : p7 = none := s7.tow
    obtain rfl : j7 = 0 := c7 rfl
    have hvz : w.heap.size < v2.heap.size := by have := HQ6.out.size; omega
    have HWK := wkid_any (z := bz) (V := v2) (i := 0) HBZ.out HP.out HQ6.out.size (fun V' hb => HG5.out v1 v2 none D7 0 HQ1.out s7 V' hb) (by omega) HLF.out HG.out.1 HSR.out.2 HT.out HPL.out HMK.out (fun q hq => by have := (HD.out q hq).2; omega)
    unfold tkV at HWK
    rw [HMP.out, <- HDN.out rfl] at HWK
    have HWK := Lib.hid HWK
    clear s7 c7 hvz
    go_wp2_with fail
    (with_reducible refine HWK.out.mono ?_)
    rintro e v3 ⟨p9, D9, j9, rfl, s9, b9, c9⟩
    have HE := Lib.hid (HF.out _ _ _ _ _ s9)
    clear s9 HWK
    go_wp2_with fail
    go_ret
    exact ⟨p9, D9, j9, rfl, HE.out, by omega, c9⟩
   | some U =>
    obtain ⟨g7, rfl, s7'⟩ := s7.some_
    have hbud : 0 + j7 + (if x.ow = o then 0 else 1) <= tway o x k l + 1 := by
     have h1 := HWY.out
     have h2 := HB7.out
     omega
    have HO := HG4.out v1 v2 U.1 U.2 g7 D7 j7 HQ1.out s7' hbud
    rw [HMP.out, <- HBZ.out] at HO
    have HO := Lib.hid HO
    have HBU := Lib.hid hbud
    clear s7 s7' c7 hbud
    go_wp2_with fail
    (with_reducible refine HO.out.mono ?_)
    rintro e v3 ⟨u3, rfl, k3, h3⟩
    obtain ⟨k0, k1⟩ := HBK.out _ k3
    have HSK := Lib.hid (h3 v3 (Still.refl _))
    clear k3 h3 HO
    go_wp2_with fail
    (with_reducible refine HSK.out.mono ?_)
    rintro e v4 ⟨rfl, D9, s9⟩
    have HE := Lib.hid (HF.out _ _ _ _ _ s9.opt)
    clear s9 HSK
    go_wp2_with fail
    go_ret
    have h1 := HE.out
    rw [HLF.out, <- HDS.out U rfl] at h1
    exact ⟨_, D9, _, rfl, h1, HBU.out, fun q => by rw [HDS.out U rfl] at q; cases q⟩
theorem without_any (o : Int) : ∀ f, Wout o f
 | 0 => fun _ _ _ _ _ _ _ _ _ _ _ _ _ h => absurd h (Nat.not_lt_zero _)
 | f + 1 => without_step (without_any o f)
end Go.Proofs.YtcbgieoiefbeiaaGreatDoor
namespace Go.Proofs.YtcbgieoiefbeiaaGreatDoor
open Go.RowKit Go.Shelf
attribute [local go_sem] Oper.semAt_some
set_option maxRecDepth 100000 in
theorem del_zero (p A : Option Addr) (n c : Nat) (q : Option Addr) (w : World) :
  Calls Tryz.prog 12 #[.pointer p, .slice A n c, .int .u64 0, .pointer q] w fun e w' => e = .returned (.tuple #[.pointer none, .bool false, .int .i64 1]) /\ w' = w := by
 go_enter Tryz.func12, Tryz.ntmps12
 go_wp2
 go_ret3
 exact ⟨rfl, rfl⟩
set_option maxRecDepth 100000 in
theorem del_big (p A : Option Addr) (n c : Nat) (o : Int) (q : Option Addr) (w : World) (ho : o ≠ 0) (hn : 65535 < n) (hm : n <= 9223372036854775807) :
  Calls Tryz.prog 12 #[.pointer p, .slice A n c, .int .u64 o, .pointer q] w fun e w' => e = .returned (.tuple #[.pointer none, .bool false, .int .i64 8]) /\ w' = w := by
 have HM := may_any A n c w hm
 rw [if_neg (by omega)] at HM
 have HM := Lib.hid HM
 have h0 : (o == 0) = false := by simpa using ho
 go_enter Tryz.func12, Tryz.ntmps12
 go_wp2_with fail
 (with_reducible refine HM.out.mono ?_)
 rintro e w1 ⟨rfl, rfl⟩
 go_wp2_with fail
 go_ret3
 exact ⟨rfl, rfl⟩
def DelPost (o : Int) (w : World) (S D : Nat -> Prop) (m : Option Nat) (rest : List Value) (cnt : Int) (t : Option (Nn × Fo)) (p : Option Addr) (l : List UInt8) (e : Ending) (w' : World) : Prop :=
 ∃ p' D' j, e = .returned (.tuple #[.pointer p', .bool (firstK (olist t) l).2, .int .i64 0]) /\ OStd w w' o S D m rest cnt (odels o t l) p' D' j /\ j <= oway o t l + 1 /\ ((firstK (olist t) l).2 = false -> j = 0 /\ p' = p)
def ogood : Option (Nn × Fo) -> Prop
 | none => True
 | some T => tgood T.1 T.2
theorem OCan.good {ps : List PV} {t : Option (Nn × Fo)} (h : OCan ps t) : ogood t := by
 cases t with
 | none => trivial
 | some T => exact Can.good h
theorem OStd.start {o : Int} {S D : Nat -> Prop} {m : Option Nat} {rest : List Value} {cnt : Int} {j : Nat} {w w' : World} {t : Option (Nn × Fo)} {p : Option Addr} (hp : Pre w o S D m rest cnt j) (ht : OTow w o S t p D) (hb : Below w.heap.size w w') : ∃ D', OStd w w' o S D m rest cnt t p D' 0 := by
 cases t with
 | none =>
  obtain rfl : p = none := ht
  have hk : Kept (fun q => w.heap.size <= q) w w' := Kept.of_below hb
  exact ⟨(fun _ => False), rfl, fun _ q => q.elim, Kept.of_below hb, fun q hq => by
   have h1 := hk.blk (hp.mt q hq).1 (fun y => by have := hp.lt hq; omega)
   rw [Int.natCast_zero, Int.add_zero]
   exact h1⟩
 | some T =>
  obtain ⟨g, rfl, h1⟩ := ht
  exact ⟨_, ((Std.start hp h1).below hp hb).opt⟩
set_option maxRecDepth 100000 in
set_option maxHeartbeats 1000000 in
theorem del_any {o cnt : Int} {t : Option (Nn × Fo)} {p A : Option Addr} {n c : Nat} {l : List UInt8} {S D : Nat -> Prop} {m : Option Nat} {rest : List Value} {w : World}
  (ht : OTow w o S t p D) (hs : osrt t) (hw : owfB t) (hg : ogood t) (hM : ∀ q ∈ olist t, q.1.length <= 1000000) (hp : Pre w o S D m rest cnt (oway o t l + 1)) (hky : ∀ V, Kept (fun q => D q \/ m = some q) w V -> Byt V w.heap.size A n l) (hnc : n <= c) (hn : n <= 65535) :
  Calls Tryz.prog 12 #[.pointer p, .slice A n c, .int .u64 o, mtr m] w (DelPost o w S D m rest cnt t p l) := by
 have HM := may_any A n c w (by omega)
 rw [if_pos hn] at HM
 have HM := Lib.hid HM
 have h0 : (o == 0) = false := by simpa using hp.ne
 obtain ⟨g1, g2, hgk⟩ : ∃ g1 g2, firstK (olist t) l = (g1, g2) := ⟨_, _, rfl⟩
 have HG := Lib.hid (thas_any hw ht.here (hky w (Kept.refl _ _)) (Nat.le_refl _) hnc (by omega) hgk)
 obtain ⟨mp, hmp⟩ : ∃ mp, mtr m = .pointer mp := ⟨_, rfl⟩
 cases g2 with
 | false =>
  have HF := Lib.hid (fun (V : World) (hb : Below w.heap.size w V) => show DelPost o w S D m rest cnt t p l (.returned (.tuple #[.pointer p, .bool false, .int .i64 0])) V from by
   obtain ⟨D', h1⟩ := OStd.start hp ht hb
   refine ⟨p, D', 0, by rw [hgk], ?_, Nat.zero_le _, fun _ => ⟨rfl, rfl⟩⟩
   unfold odels
   rw [hgk, if_neg (by simp)]
   exact h1)
  rw [hmp]
  clear ht hs hw hg hM hp hky hnc hmp hgk
  go_enter Tryz.func12, Tryz.ntmps12
  go_wp2_with fail
  (with_reducible refine HM.out.mono ?_)
  rintro e w1 ⟨rfl, rfl⟩
  go_wp2_with fail
  (with_reducible refine HG.out.mono ?_)
  rintro e w2 ⟨rfl, b2⟩
  have HE := Lib.hid (HF.out _ b2)
  clear b2
  go_wp2_with fail
  go_ret3
  exact HE.out
 | true =>
  have hm := (firstK_yes hw.rise).1 hgk
  cases t with
  | none => cases hm
  | some T =>
   obtain ⟨g, rfl, h1⟩ := ht
   have HIN := Lib.hid (fun (V : World) (hb : Below w.heap.size w V) => show Calls Tryz.prog 30 #[.agg #[.int .u64 o, .pointer mp], .pointer (some ⟨g, 0, none⟩), .slice A n c] V (fun e w' => ∃ p', e = .returned (.pointer p') /\ DelPost o w S D m rest cnt (some T) (some ⟨g, 0, none⟩) l (.returned (.tuple #[.pointer p', .bool true, .int .i64 0])) w') from by
    have S1 := (Std.start hp h1).below hp hb
    have hk0 : ∀ V', Kept (fun q => (D q /\ q < w.heap.size) \/ m = some q) V V' -> Byt V' V.heap.size A n l := fun V' hk => (hky V' ((Kept.of_below hb).thru hk (fun q _ z => z.imp (fun y => y.1) id))).more hb.size
    have h2 := without_any o (l.length + 1) l T.1 T.2 g A n c S (fun i => D i /\ i < w.heap.size) m rest cnt V (Nat.lt_succ_self _) S1.tow hs hg ⟨g1, hm⟩ hM (hp.there.below hb) hk0 hnc
    unfold tkV at h2
    rw [hmp] at h2
    refine h2.mono ?_
    rintro e w' ⟨p', D', j, rfl, s, b, c⟩
    refine ⟨p', rfl, p', D', j, by rw [hgk], ?_, b, fun q => by rw [hgk] at q; cases q⟩
    unfold odels
    rw [hgk, if_pos rfl]
    exact (s.mono (fun q z => z.1)).from hb)
   rw [hmp]
   clear hs hw hg hM hp hky hnc hmp hgk hm h1
   go_enter Tryz.func12, Tryz.ntmps12
   go_wp2_with fail
   (with_reducible refine HM.out.mono ?_)
   rintro e w1 ⟨rfl, rfl⟩
   go_wp2_with fail
   (with_reducible refine HG.out.mono ?_)
   rintro e w2 ⟨rfl, b2⟩
   have HE := Lib.hid (HIN.out _ b2)
   clear b2 HG HM HIN
   go_wp2_with fail
   (with_reducible refine HE.out.mono ?_)
   rintro e w3 ⟨p', rfl, h3⟩
   have HX := Lib.hid h3
   clear h3 HE
   go_wp2_with fail
   go_ret3
   exact HX.out
end Go.Proofs.YtcbgieoiefbeiaaGreatDoor
