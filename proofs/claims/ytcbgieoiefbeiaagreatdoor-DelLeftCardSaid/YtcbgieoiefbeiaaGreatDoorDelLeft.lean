/-
  Proved here: what is left of the top node of any tree of two pairs at least, with any value, or none, and any of its kids, is the canonical tree of those pairs, or refused; itself, if that is what it has; it is what it was, whoever owns it; nothing that came in is turned. The one condition is the card's own: the table of the powers of ten lies as the program's library lays it (tied).
-/
import Derived.Test.YtcbgieoiefbeiaaGreatDoorDelY
import Derived.Test.YtcbgieoiefbeiaaGreatDoorRowSlot
import Derived.Test.YtcbgieoiefbeiaaGreatDoorRow
import Derived.Test.YtcbgieoiefbeiaaGreatDoorTie
import Derived.Test.YtcbgieoiefbeiaaGreatDoorCards
import Derived.SevenTiedAt
import Derived.Deep.RegionHeld3
import Derived.Deep.DeepCutAuto
import Derived.Deep.Light
namespace Go.Proofs.YtcbgieoiefbeiaaGreatDoor.delLeft
open Go.ChangeShapes Go.WideShapes Go.ChangeAt Go.RowKit
theorem is_somes {w : World} {S : Nat -> Prop} : ∀ {f : Fo} {es : List Ent}, f.Is w S es -> ∀ e ∈ es, ∃ g x be A, e.2 = some ⟨g, 0, none⟩ /\ Nod w g x be A /\ ∀ i, be.all g i \/ Pb A x.part i -> S i
 | .nil, _, h, e, he => by
  obtain rfl : _ = [] := h
  cases he
 | .cons b x k r, _, ⟨g, be, A, ek, er, e0, h1, h2, h3, h4⟩, e, he => by
  subst e0
  rcases List.mem_cons.1 he with rfl | he
  ·exact ⟨g, _, be, A, rfl, h1, h2⟩
  ·exact is_somes h4 e he
theorem any_all (l : List UInt8) (c : UInt8) : anyD l c l.length = true ↔ c ∈ l := by
 unfold anyD
 rw [List.take_length, List.any_eq_true]
 constructor
 ·rintro ⟨d, hd, e⟩
  have : d = c := of_decide_eq_true e
  subst this
  exact hd
 ·intro h
  exact ⟨c, h, decide_eq_true rfl⟩
theorem filt_same {ek : List Ent} {P : UInt8 -> Bool} {bs : List UInt8} (h : bs = (ek.filter fun e => P e.1).map Prod.fst) : (ek.filter fun e => anyD bs e.1 bs.length) = ek.filter fun e => P e.1 := by
 refine List.filter_congr fun e he => ?_
 rw [Bool.eq_iff_iff, any_all, h, List.mem_map]
 constructor
 ·rintro ⟨z, hz, e2⟩
  have := (List.mem_filter.1 hz).2
  rw [e2] at this
  exact this
 ·intro hp
  exact ⟨e, List.mem_filter.2 ⟨he, hp⟩, rfl⟩
theorem adj_lt {L : List Ent} (h : Adj L) : ∀ {i j : Nat} {a b : Ent}, i < j -> L[i]? = some a -> L[j]? = some b -> a.1.toNat < b.1.toNat := by
 intro i j
 induction j with
 | zero => intro a b hij; omega
 | succ j ih =>
  intro a b hij ha hb
  rcases Nat.lt_or_ge i j with q | q
  ·have hj : j < L.length := by have := (List.getElem?_eq_some_iff.1 hb).1; omega
   have he := List.getElem?_eq_getElem hj
   have h1 := ih q ha he
   have h2 := h j _ _ he hb
   omega
  ·have : i = j := by omega
   subst this
   exact h i a b ha hb
def RvS (w3 wr : World) (A4 : Option Addr) (m c4 : Nat) (E L : List Ent) (i : Nat) : Prop :=
 MineR wr w3.heap.size 70 2 (.slice A4 m c4) m (L.map kdc) /\ Below w3.heap.size w3 wr /\ (∀ e ∈ L, e ∈ E) /\ (i = 0 -> L = E) /\ (1 <= i -> L[0]? = E[m - 1]? /\ L[m - 1]? = E[0]?)
theorem RvS.swap {w3 wr U : World} {g m c4 : Nat} {E L : List Ent} {i j : Nat} {a b : Ent} (h : RvS w3 wr (some ⟨g, 0, none⟩) m c4 E L i) (hm : MineR U w3.heap.size 70 2 (.slice (some ⟨g, 0, none⟩) m c4) m (L.map kdc)) (hU : Below wr.heap.size wr U) (hg : w3.heap.size <= g) (ha : L[i]? = some a) (hb : L[j]? = some b) (hij : i < j) (hjm : j < m) (hj : j + i + 1 = m) :
  ∃ L', RvS w3 ((((U.setCell ⟨g, i * 2, none⟩ (.int .u8 (b.1.toNat : Int))).setCell ⟨g, i * 2 + 1, none⟩ (.pointer b.2)).setCell ⟨g, j * 2, none⟩ (.int .u8 (a.1.toNat : Int))).setCell ⟨g, j * 2 + 1, none⟩ (.pointer a.2)) (some ⟨g, 0, none⟩) m c4 E L' (i + 1) := by
 obtain ⟨_, h2, h3, h4, h5⟩ := h
 obtain ⟨r1, r2⟩ := MineR.set2 hm (j := i) (by omega) (.int .u8 (b.1.toNat : Int)) (.pointer b.2)
 obtain ⟨r3, r4⟩ := MineR.set2 r1 (j := j) hjm (.int .u8 (a.1.toNat : Int)) (.pointer a.2)
 have hll : L.length = m := by have := hm.2.1; simpa using this
 have hb2 : Below w3.heap.size w3 U := h2.trans (hU.mono h2.size)
 have hk := r2.trans r4
 refine ⟨(L.set i b).set j a, ?_, hb2.trans (hk.below hb2.size (fun g' e => by omega)), fun e he => ?_, fun q => by omega, fun _ => ?_⟩
 ·rw [List.map_set, List.map_set]
  exact r3
 ·rcases List.mem_or_eq_of_mem_set he with q | q
  ·rcases List.mem_or_eq_of_mem_set q with q | q
   ·exact h3 e q
   ·rw [q]; exact h3 b (List.mem_of_getElem? hb)
  ·rw [q]; exact h3 a (List.mem_of_getElem? ha)
 ·by_cases hi : i = 0
  ·subst hi
   obtain rfl : L = E := h4 rfl
   have hj1 : j = m - 1 := by omega
   subst hj1
   constructor
   ·rw [List.getElem?_set_ne (by omega), List.getElem?_set_self (by omega), hb]
   ·rw [List.getElem?_set_self (by rw [List.length_set]; omega), ha]
  ·obtain ⟨q1, q2⟩ := h5 (by omega)
   constructor
   ·rw [List.getElem?_set_ne (by omega), List.getElem?_set_ne (by omega), q1]
   ·rw [List.getElem?_set_ne (by omega), List.getElem?_set_ne (by omega), q2]
theorem RvS.round {w3 wr : World} {A4 : Option Addr} {m c4 i : Nat} {E : List Ent} {jz : Int} (h : Hid (∃ L, RvS w3 wr A4 m c4 E L i)) (hjz : jz = (m : Int) - 1 - i) (h1 : (i : Int) < jz) (hm : m <= 256) :
  ∃ (jx g2 : Nat) (za zb : Int) (pa pb : Option Addr), jz = (jx : Int) /\ A4 = some ⟨g2, 0, none⟩ /\
   wr.cell? ⟨g2, i * 2, none⟩ = some (.int .u8 za) /\ wr.cell? ⟨g2, i * 2 + 1, none⟩ = some (.pointer pa) /\ wr.frozen? ⟨g2, i * 2, none⟩ = false /\ wr.frozen? ⟨g2, i * 2 + 1, none⟩ = false /\
   wr.cell? ⟨g2, jx * 2, none⟩ = some (.int .u8 zb) /\ wr.cell? ⟨g2, jx * 2 + 1, none⟩ = some (.pointer pb) /\ wr.frozen? ⟨g2, jx * 2, none⟩ = false /\ wr.frozen? ⟨g2, jx * 2 + 1, none⟩ = false /\
   IntKind.i64.wrap ((i : Int) + 1) = (i : Int) + 1 /\ IntKind.i64.wrap ((jx : Int) - 1) = (jx : Int) - 1 /\ (0 : Int) <= (jx : Int) /\ (jx : Int) < (m : Int) /\ (i : Int) < (m : Int) /\ (jx * 2 ≠ i * 2 /\ jx * 2 ≠ i * 2 + 1 /\ jx * 2 + 1 ≠ i * 2) /\
   Hid (∃ L', RvS w3 ((((wr.drew.setCell ⟨g2, i * 2, none⟩ (.int .u8 zb)).setCell ⟨g2, i * 2 + 1, none⟩ (.pointer pb)).setCell ⟨g2, jx * 2, none⟩ (.int .u8 za)).setCell ⟨g2, jx * 2 + 1, none⟩ (.pointer pa)) (some ⟨g2, 0, none⟩) m c4 E L' (i + 1)) /\
   Hid ((jx : Int) - 1 = (m : Int) - 1 - ((i + 1 : Nat) : Int) /\ i + 1 <= m /\ m - ((i : Int) + 1).toNat < m - (i : Int).toNat) := by
 obtain ⟨jx, rfl⟩ : ∃ jx : Nat, jz = (jx : Int) := ⟨jz.toNat, by omega⟩
 have hij : i < jx := by omega
 have hjm : jx < m := by omega
 obtain ⟨L, hL⟩ := h.out
 have hll : L.length = m := by have := hL.1.2.1; simpa using this
 obtain ⟨g2, eg, hgb⟩ := MineR.form hL.1 (by omega)
 cases eg
 have ha := List.getElem?_eq_getElem (l := L) (i := i) (by omega)
 have hb := List.getElem?_eq_getElem (l := L) (i := jx) (by omega)
 obtain ⟨ea, hea⟩ : ∃ e, L[i]'(by omega) = e := ⟨_, rfl⟩
 obtain ⟨eb, heb⟩ : ∃ e, L[jx]'(by omega) = e := ⟨_, rfl⟩
 rw [hea] at ha
 rw [heb] at hb
 have hmd : MineR wr.drew w3.heap.size 70 2 (.slice (some ⟨g2, 0, none⟩) m c4) m (L.map kdc) := MineR.still hL.1 (Still.drew1 _)
 obtain ⟨x0, x1, x2, x3⟩ := MineR.there2 hL.1 (j := i) (a := .int .u8 (ea.1.toNat : Int)) (b := .pointer ea.2) (by rw [List.getElem?_map, ha]; rfl)
 obtain ⟨y0, y1, y2, y3⟩ := MineR.there2 hL.1 (j := jx) (a := .int .u8 (eb.1.toNat : Int)) (b := .pointer eb.2) (by rw [List.getElem?_map, hb]; rfl)
 exact ⟨jx, g2, ea.1.toNat, eb.1.toNat, ea.2, eb.2, rfl, rfl, x0, x1, x2, x3, y0, y1, y2, y3, by rw [IntKind.wrap_i64]; omega, by rw [IntKind.wrap_i64]; omega, by omega, by omega, by omega, by omega, Lib.hid (hL.swap hmd (Still.below (Still.drew1 _) _) hgb ha hb hij hjm (by omega)), Lib.hid ⟨by omega, by omega, by omega⟩⟩
set_option maxRecDepth 100000 in
theorem RvS.exit {w3 wr : World} {A4 : Option Addr} {m c4 i g : Nat} {E ek : List Ent} {jz : Int} {x : Nn} {be : Be} {Ab : Option Addr} (h : Hid (∃ L, RvS w3 wr A4 m c4 E L i)) (hjz : jz = (m : Int) - 1 - i) (h1 : ¬ (i : Int) < jz) (hkk : ∀ V, Below w3.heap.size w3 V -> ∀ e ∈ E, ∃ g x be Ab, e.2 = some ⟨g, 0, none⟩ /\ Nod V g x be Ab) (nd : Nod w3 g (x.nd ek) be Ab) (hx : x.leaf = false) (hu : Up E) (sx : Bool) (pv : Int) :
  ∃ L : List Ent, Hid (MineR wr w3.heap.size 70 2 (.slice A4 m c4) m (L.map kdc) /\ Below w3.heap.size w3 wr) /\
   Hid (∀ (V : World) (A8 : Option Addr) (c8 : Nat), Below w3.heap.size w3 V -> MineR V w3.heap.size 70 2 (.slice A8 (m + 1) c8) (m + 1) (L.map kdc ++ [kdc (0, none)]) ->
    Calls Tryz.prog 23 #[.pointer (some ⟨g, 0, none⟩), .bool sx, .int .u64 pv, .slice A8 (m + 1) c8, .int .u64 2, .pointer none] V fun e w' => e = .returned (.tuple #[.pointer none, .int .i64 1]) /\ Below V.heap.size V w') /\
   Hid (2 <= m -> Calls Tryz.prog 23 #[.pointer (some ⟨g, 0, none⟩), .bool sx, .int .u64 pv, .slice A4 m c4, .int .u64 2, .pointer none] wr fun e w' => e = .returned (.tuple #[.pointer none, .int .i64 12]) /\ Below wr.heap.size wr w') := by
 obtain ⟨L, hL⟩ := h.out
 have hll : L.length = m := by have := hL.1.2.1; simpa using this
 have hnil : (L.any fun e => e.2.isNone) = false := by
  rw [Bool.eq_false_iff]
  intro q
  obtain ⟨e, he, h2⟩ := List.any_eq_true.1 q
  obtain ⟨g', _, _, _, e1, _⟩ := hkk w3 (Below.refl _ _) e (hL.2.2.1 e he)
  rw [e1] at h2
  cases h2
 have hkl : ∀ V, Below w3.heap.size w3 V -> ∀ e ∈ L, ∀ a, e.2 = some a -> ∃ g x be Ab, a = ⟨g, 0, none⟩ /\ Nod V g x be Ab := fun V hV e he a hea => by
  obtain ⟨g', x', be', A', e1, n1⟩ := hkk V hV e (hL.2.2.1 e he)
  rw [e1] at hea
  injection hea with hea
  exact ⟨g', x', be', A', hea.symm, n1⟩
 refine ⟨L, Lib.hid ⟨hL.1, hL.2.1⟩, Lib.hid fun V A8 c8 hV hm => dl_arg (w := V) (A := A8) (n := m + 1) (o := 2) (B := V.heap.size) (L := L ++ [(0, none)]) (some ⟨g, 0, none⟩) c8 sx pv none (by decide) (by rw [List.map_append]; exact hm.rws) (Nat.le_refl _) (fun e he a hea => ?_) (by rw [List.any_append]; simp), Lib.hid fun hm2 => ?_⟩
 ·rcases List.mem_append.1 he with h | h
  ·exact hkl V hV e h a hea
  ·obtain rfl : e = (0, none) := by simpa using h
   cases hea
 ·have hnadj : ¬ Adj L := by
   obtain ⟨q1, q2⟩ := hL.2.2.2.2 (by omega)
   intro hadj
   have he0 := List.getElem?_eq_getElem (l := L) (i := 0) (by omega)
   have he1 := List.getElem?_eq_getElem (l := L) (i := m - 1) (by omega)
   have h2 := adj_lt hadj (show 0 < m - 1 by omega) he0 he1
   rw [he0] at q1
   rw [he1] at q2
   have h3 := hu.at_ (show 0 < m - 1 by omega) q2.symm q1.symm
   omega
  exact dl_order (w := wr) (A := A4) (n := m) (o := 2) (B := wr.heap.size) (L := L) (nd.below hL.2.1) hx c4 sx pv none (by decide) hL.1.rws (Nat.le_refl _) (hkl wr hL.2.1) hnil hnadj
theorem zero_at (m : Nat) : (m : Int) - 1 = (m : Int) - 1 - ((0 : Nat) : Int) := by omega
theorem app_small {m : Nat} (h : m <= 256) : (m + 1) * 16 <= 140737488355328 := by omega
theorem app_max {m : Nat} (h : m <= 256) : m + 1 <= maxLen := by unfold maxLen; omega
theorem less_two {m : Nat} (h : ¬ 2 <= m) : ¬ (1 : Int) < (m : Int) := by omega
theorem two_less {m : Nat} (h : 2 <= m) : (1 : Int) < (m : Int) := by omega
set_option maxRecDepth 100000 in
set_option maxHeartbeats 4000000 in
theorem walk (A : Option Addr) (n c : Nat) (ps : List PV) (A' : Option Addr) (n' c' : Nat) (key : List UInt8) (sx : Bool) (pv : Int) (W : World) (htb : Tb W) (ha : Prs W W.heap.size A n ps) (hk : Kps W W.heap.size ps) (_ : n <= c) (hv : ∀ p ∈ ps, 0 <= p.val /\ p.val <= 18446744073709551615) (hb : Byt W W.heap.size A' n' key) (hnc' : n' <= c') (hpv : 0 <= pv /\ pv <= 18446744073709551615) :
  Calls Tryz.prog 7 #[.slice A n c, .slice A' n' c', .agg #[.bool sx, .int .u64 pv]] W fun e w' => e = .returned (.bool true) /\ Below W.heap.size W w' := by
 obtain ⟨W0, hW0⟩ : ∃ V, W.alloc (.cells #[.bool sx, .int .u64 pv] 62) = V := ⟨_, rfl⟩
 have bW : Below W.heap.size W W0 := by rw [<- hW0]; exact (Below.refl _ _).alloc (Nat.le_refl _) _
 have sW : W0.heap.size = W.heap.size + 1 := by rw [<- hW0, World.size_alloc]
 have kW : Blk W0 W.heap.size #[.bool sx, .int .u64 pv] := by rw [<- hW0]; exact Blk.new W _ _
 have HBX := Lib.hid (fun (V : World) (h : Below W0.heap.size W0 V) => show (V.cell? ⟨W.heap.size, 0, none⟩ = some (.bool sx) /\ V.cell? ⟨W.heap.size, 1, none⟩ = some (.int .u64 pv)) from by
  have h1 : Blk V W.heap.size #[.bool sx, .int .u64 pv] := kW.below h (by omega)
  exact ⟨h1.cell 0, h1.cell 1⟩)
 have hle : 0 < W.heap.size := htb.lt
 have HTB := Lib.hid (fun (V : World) (h : Below W0.heap.size W0 V) => htb.below (bW.trans (h.mono (by omega))) hle)
 have HAL := Lib.hid (fun (V : World) (h : Below W0.heap.size W0 V) => dalive_any V (htb.below (bW.trans (h.mono (by omega))) hle))
 have HZ := Lib.hid (fun (V : World) (h : Below W0.heap.size W0 V) => show Below W.heap.size W V from bW.trans (h.mono (by omega)))
 have HA := Lib.hid (fun (V : World) (h : Below W0.heap.size W0 V) => (ha.below (bW.trans (h.mono (by omega)))).more (show W.heap.size <= W0.heap.size by omega))
 have HK := Lib.hid (fun (V : World) (h : Below W0.heap.size W0 V) => (hk.below (bW.trans (h.mono (by omega)))).more (show W.heap.size <= W0.heap.size by omega))
 have HB := Lib.hid (fun (V : World) (h : Below W0.heap.size W0 V) => (hb.below (bW.trans (h.mono (by omega)))).more (show W.heap.size <= W0.heap.size by omega))
 have hn9 : n' <= 9223372036854775807 := by have := hb.2.1; unfold maxLen at this; omega
 have H1 := pfar_any A n c W0.heap.size 150 ps W0 ((ha.below bW).more (by omega)) (Nat.le_refl _) (by omega)
 rw [show ((150 : Nat) : Int) = 150 from rfl] at H1
 have H1 := Lib.hid H1
 have HV := Lib.hid hv
 have HPV := Lib.hid hpv
 have HC := Lib.hid hnc'
 have HLN := Lib.hid ha.1
 have HKL := Lib.hid hb.1
 obtain ⟨k0, k1⟩ := HBX.out W0 (Below.refl _ _)
 clear htb ha hk hb hnc' hv hpv kW sW hle bW
 go_enter Tryz.func7, Tryz.ntmps7
 go_wp2_with fail
 (with_reducible refine H1.out.mono ?_)
 rintro e w1 ⟨rfl, b1⟩
 have B1 := Lib.hid b1
 obtain ⟨k0, k1⟩ := HBX.out w1 b1
 obtain ⟨fb, hfb⟩ : ∃ b, farP ps 150 = b := ⟨_, rfl⟩
 rw [hfb]
 have HFB := Lib.hid hfb
 clear b1 hfb H1 hW0
 by_cases hfar : fb = true \/ 300 < n'
 ·have H2 := Lib.hid (HAL.out w1 B1.out)
  cases fb with
  | true =>
   clear hfar
   go_wp2_with fail
   (with_reducible refine H2.out.mono ?_)
   rintro e w2 ⟨rfl, b2⟩
   have B2 := Lib.hid (HZ.out w2 (B1.out.trans (b2.mono B1.out.size)))
   clear b2
   go_wp2_with fail
   go_ret
   exact ⟨rfl, B2.out⟩
  | false =>
   have i1 : decide ((300 : Int) < (n' : Int)) = true := decide_eq_true (by
    rcases hfar with q | q
    ·cases q
    ·omega)
   clear hfar
   go_wp2_with fail
   (with_reducible refine H2.out.mono ?_)
   rintro e w2 ⟨rfl, b2⟩
   have B2 := Lib.hid (HZ.out w2 (B1.out.trans (b2.mono B1.out.size)))
   clear b2
   go_wp2_with fail
   go_ret
   exact ⟨rfl, B2.out⟩
 ·have hfb : fb = false := by
   cases fb with
   | false => rfl
   | true => exact absurd (.inl rfl) hfar
  subst hfb
  have hq : n' <= 300 := by
   rcases Nat.lt_or_ge 300 n' with q | q
   ·exact absurd (.inr q) hfar
   ·exact q
  obtain ⟨f1, f2⟩ := farP_no HFB.out
  have hn200 : n <= 150 := by have := HLN.out; omega
  have F2 := Lib.hid f2
  have HS := Lib.hid (rsort_any A n c W0.heap.size ps w1 (HA.out w1 B1.out) (HK.out w1 B1.out) B1.out.size (by omega))
  have HSM := Lib.hid hq
  have i1 : decide ((300 : Int) < (n' : Int)) = false := decide_eq_false (by omega)
  clear hfar f1 f2 hq
  go_wp2_with fail
  (with_reducible refine HS.out.mono ?_)
  rintro e w2 ⟨A2, c2, rfl, hc2, p2, _, b2⟩
  obtain ⟨ps2, hps2⟩ : ∃ l, sortS ps = l := ⟨_, rfl⟩
  obtain ⟨n2, hn2⟩ : ∃ k, (sortS ps).length = k := ⟨_, rfl⟩
  have hn2a : n2 <= 150 := by
   have := (sortS_len ps).1
   have := HLN.out
   omega
  have hrs : Rsn ps2 := hps2 ▸ sortS_rise ps
  have hk2 : ∀ p ∈ ps2, p.key.length <= 300 := hps2 ▸ sortS_all (P := fun p => p.key.length <= 300) (fun _ _ h _ => h) F2.out
  have hv2 : ∀ p ∈ ps2, 0 <= p.val /\ p.val <= 18446744073709551615 := hps2 ▸ sortS_all (P := fun p => 0 <= p.val /\ p.val <= 18446744073709551615) (fun _ _ _ h => h) HV.out
  rw [hn2] at p2 hc2 ⊢
  rw [hps2] at p2 hn2
  have b2' : Below W0.heap.size W0 w2 := B1.out.trans (b2.mono B1.out.size)
  have hkp : ∀ V, Below W0.heap.size W0 V -> Kps V W0.heap.size ps2 := fun V hb => hps2 ▸ Kps.sort (HK.out V hb)
  have ZV := Lib.hid (fun V (h : Below w2.heap.size w2 V) => show Prs V w2.heap.size A2 n2 ps2 /\ Kps V w2.heap.size ps2 /\ Below W0.heap.size W0 V from
   have hW : Below W0.heap.size W0 V := b2'.trans (h.mono b2'.size)
   ⟨p2.below h, (hkp V hW).more b2'.size, hW⟩)
  have HT := Lib.hid (ptree_any (o := 1) (by omega) A2 n2 c2 w2.heap.size ps2 w2 p2 ((hkp w2 b2').more b2'.size) (Nat.le_refl _) (by omega) hrs hk2)
  have HRS := Lib.hid hrs
  have HK2 := Lib.hid hk2
  have HV2 := Lib.hid hv2
  have HC2 := Lib.hid hc2
  have HN2 := Lib.hid hn2
  clear hps2 hrs hk2 hv2 hkp p2 b2 b2' hn2 hc2 HS
  go_wp2_with fail
  (with_reducible refine HT.out.mono ?_)
  rintro e w3 ⟨p, rfl, t3, b3⟩
  have T3 := Lib.hid (OTow.here t3)
  have B3 := Lib.hid b3
  clear t3 b3 HT
  have HPX := Lib.hid (show oall (fun q => q = 1) (bTr 1 301 (rel 0 ps2)) /\ OCan ps2 (bTr 1 301 (rel 0 ps2)) from by
   have h1 := bTr_ocan 1 HRS.out 301 (fun p hp => by have := HK2.out p hp; omega)
   exact ⟨h1.2, h1.1⟩)
  obtain ⟨t, ht⟩ : ∃ t, bTr 1 301 (rel 0 ps2) = t := ⟨_, rfl⟩
  have HTT := Lib.hid ht
  rw [ht] at T3 HPX
  have HZ3 := Lib.hid (fun (V : World) (h : Below w3.heap.size w3 V) => (ZV.out V (B3.out.trans (h.mono B3.out.size))).2.2)
  have hz30 : W0.heap.size <= w3.heap.size := (HZ3.out w3 (Below.refl _ _)).size
  have HZZ := Lib.hid (fun (V : World) (h : Below w3.heap.size w3 V) => ZV.out V (B3.out.trans (h.mono B3.out.size)))
  have hz32 : w2.heap.size <= w3.heap.size := B3.out.size
  cases t with
  | none =>
   obtain rfl : ps2 = [] := HPX.out.2
   obtain rfl : n2 = 0 := (HZZ.out w3 (Below.refl _ _)).1.1.symm
   obtain rfl : p = none := T3.out
   have HKS := Lib.hid (lkids_any (p := none) (ek := []) List.Pairwise.nil (fun e he => by cases he) (Nat.zero_le _) w3 (fun V _ c z _ => (nkid_nil z V).mono (fun e w' ⟨h1, h2⟩ => ⟨h1, h2 ▸ Still.refl _⟩)) A' n' c' W0.heap.size key (HB.out w3 (HZ3.out w3 (Below.refl _ _))) hz30)
   clear ht
   go_wp2_with fail
   (with_reducible refine HKS.out.mono ?_)
   rintro e w4 ⟨A4, c4, A5, c5, m, rfl, hm, hc4, m4, y4, _, b4⟩
   obtain rfl : m = 0 := hm
   obtain ⟨W5, hW5⟩ : ∃ V, w4.alloc (.cells #[.int .i64 0] 43) = V := ⟨_, rfl⟩
   have b5 : Below w4.heap.size w4 W5 := by rw [<- hW5]; exact (Below.refl _ _).alloc (Nat.le_refl _) _
   have B5 := Lib.hid (b4.trans (b5.mono b4.size))
   have H6 := Lib.hid (dl_kind (w := W5) (A := A4) (o := 1) (p := none) (kd := 0) (r := 2) c4 sx pv (some ⟨w4.heap.size, 0, none⟩) (by decide) (fun V _ => (nkind_nil V).mono (fun e w' ⟨h1, h2⟩ => ⟨h1, h2 ▸ Still.refl _⟩)) (.inl ⟨rfl, rfl⟩))
   obtain ⟨k0, k1⟩ := HBX.out W5 (HZ3.out W5 B5.out)
   clear m4 y4 b4 b5 HKS
   go_wp2_with fail
   clear hW5
   (with_reducible refine H6.out.mono ?_)
   rintro e w6 ⟨rfl, b6⟩
   have B6 := Lib.hid (B5.out.trans (b6.mono B5.out.size))
   have H7 := Lib.hid (HAL.out w6 (HZ3.out w6 B6.out))
   clear b6 H6
   go_wp2_with fail
   (with_reducible refine H7.out.mono ?_)
   rintro e w7 ⟨rfl, b7⟩
   have B7 := Lib.hid (HZ.out w7 (HZ3.out w7 (B6.out.trans (b7.mono B6.out.size))))
   clear b7 H7
   go_wp2_with fail
   go_ret
   exact ⟨rfl, B7.out⟩
  | some T =>
  obtain ⟨g, rfl, hT3⟩ := T3.out
  obtain ⟨be, Ab, ek, nd, hS, hki⟩ := hT3
  have hcan : Can ps2 T := HPX.out.2
  have hln : ps2.length = n2 := HN2.out
  have hkl := keys_leaf hcan.good
  rw [hcan.list, List.length_map, hln] at hkl
  have hsm := is_somes hki
  have hup : Up ek := nd.up
  have h256 : ek.length <= 256 := nd.few
  have HKS := Lib.hid (lkids_any (p := some ⟨g, 0, none⟩) (ek := ek) hup (fun e he q => by
   obtain ⟨g', _, _, _, e1, _⟩ := hsm e he
   rw [e1] at q
   cases q) h256 w3 (fun V hV c z hz => nkid_any (nd.below hV) c z hz) A' n' c' W0.heap.size key (HB.out w3 (HZ3.out w3 (Below.refl _ _))) hz30)
  have HND := Lib.hid (And.intro nd (And.intro hS hki))
  have HSM := Lib.hid hsm
  have HUP := Lib.hid (And.intro hup h256)
  have HCN := Lib.hid hcan
  clear ht nd hS hki hcan hsm hup h256
  cases hlf : T.1.leaf with
  | true =>
   obtain rfl : n2 = 1 := hkl.1 hlf
   have hek : ek = [] := List.eq_nil_of_length_eq_zero (by
    rw [HND.out.2.2.len]
    have := HCN.out.srt.1 hlf
    rw [this]
    rfl)
   subst hek
   have HKD := Lib.hid (fun (V : World) (hV : Below w3.heap.size w3 V) => nkind_any (HND.out.1.below hV))
   rw [show kindD (T.1.nd []) = 1 from kindD_leaf hlf] at HKD
   clear hkl hlf
   go_wp2_with fail
   (with_reducible refine HKS.out.mono ?_)
   rintro e w4 ⟨A4, c4, A5, c5, m, rfl, hm, hc4, m4, y4, _, b4⟩
   obtain rfl : m = 0 := hm
   obtain ⟨W5, hW5⟩ : ∃ V, w4.alloc (.cells #[.int .i64 0] 43) = V := ⟨_, rfl⟩
   have b5 : Below w4.heap.size w4 W5 := by rw [<- hW5]; exact (Below.refl _ _).alloc (Nat.le_refl _) _
   have B5 := Lib.hid (b4.trans (b5.mono b4.size))
   have H6 := Lib.hid (dl_kind (w := W5) (A := A4) (o := 1) (p := some ⟨g, 0, none⟩) (kd := 1) (r := 9) c4 sx pv (some ⟨w4.heap.size, 0, none⟩) (by decide) (fun V hV => HKD.out V (B5.out.trans (hV.mono B5.out.size))) (.inr ⟨rfl, rfl⟩))
   obtain ⟨k0, k1⟩ := HBX.out W5 (HZ3.out W5 B5.out)
   clear m4 y4 b4 b5 HKS
   go_wp2_with fail
   clear hW5
   (with_reducible refine H6.out.mono ?_)
   rintro e w6 ⟨rfl, b6⟩
   have B6 := Lib.hid (B5.out.trans (b6.mono B5.out.size))
   have H7 := Lib.hid (HAL.out w6 (HZ3.out w6 B6.out))
   clear b6 H6
   go_wp2_with fail
   (with_reducible refine H7.out.mono ?_)
   rintro e w7 ⟨rfl, b7⟩
   have B7 := Lib.hid (HZ.out w7 (HZ3.out w7 (B6.out.trans (b7.mono B6.out.size))))
   clear b7 H7
   go_wp2_with fail
   go_ret
   exact ⟨rfl, B7.out⟩
  | false =>
  have hn22 : 2 <= n2 := hkl.2 hlf
  obtain ⟨E, hE⟩ : ∃ E, (ek.filter fun e => keepB key e.1) = E := ⟨_, rfl⟩
  rw [hE] at HKS
  go_wp2_with fail
  (with_reducible refine HKS.out.mono ?_)
  rintro e w4 ⟨A4, c4, A5, c5, m, rfl, hm, hc4, m4, y4, ap4, b4⟩
  obtain ⟨bs, hbs⟩ : ∃ bs, E.map Prod.fst = bs := ⟨_, rfl⟩
  rw [hbs] at y4
  have hfs : (ek.filter fun e => anyD bs e.1 bs.length) = E := by rw [<- hE]; exact filt_same (by rw [hE]; exact hbs.symm)
  have hEs : ∀ e ∈ E, e ∈ ek := fun e he => by rw [<- hE] at he; exact (List.mem_filter.1 he).1
  have hEu : Up E := by rw [<- hE]; exact List.Pairwise.sublist (List.filter_sublist ..) HUP.out.1
  have hm256 : m <= 256 := by rw [hm]; exact Nat.le_trans (by rw [<- hE]; exact List.length_filter_le _ _) HUP.out.2
  obtain ⟨W5, hW5⟩ : ∃ V, w4.alloc (.cells #[.int .i64 0] 43) = V := ⟨_, rfl⟩
  have b5 : Below w4.heap.size w4 W5 := by rw [<- hW5]; exact (Below.refl _ _).alloc (Nat.le_refl _) _
  have s5 : W5.heap.size = w4.heap.size + 1 := by rw [<- hW5]; simp
  have q5 : Lst W5 w4.heap.size [.int .i64 0] := by rw [<- hW5]; exact Blk.new w4 _ _
  have hz43 := b4.size
  have hz54 := b5.size
  have bw5 : Below w3.heap.size w3 W5 := b4.trans (b5.mono hz43)
  have hb45 : ∀ V, Kept (fun q => (some w4.heap.size : Option Nat) = some q) W5 V -> Below w4.heap.size w4 V := fun V hk => b5.trans (hk.below hz54 (fun g q => by injection q with q; omega))
  have hpk : (T.2.pick fun c => anyD bs c bs.length).Is w3 (fun i => i < w3.heap.size) E := by
   have h1 := HND.out.2.2.pick (P := fun c => anyD bs c bs.length)
   rw [hfs] at h1
   exact h1
  have hM : ∀ p ∈ tlist T.1 T.2 [], p.1.length <= 300 := fun q hq => by
   rw [HCN.out.list] at hq
   obtain ⟨p, hp, rfl⟩ := List.mem_map.1 hq
   exact HK2.out p hp
  have hpl : T.1.part.length <= 300 := by
   obtain ⟨p, hp1, hp2⟩ := good_has HCN.out.good
   exact Nat.le_trans hp2 (hM p hp1)
  have hLH : LfH W5 1 (fun i => i < w3.heap.size) (some w4.heap.size) [] 0 T.1 g (T.2.pick fun c => anyD bs c bs.length) E A4 m := by
   refine ⟨by decide, ⟨ek, be, Ab, HND.out.1.below bw5, HND.out.2.1⟩, hpk.kept (D := fun i => w3.heap.size <= i) (Kept.less (D := fun _ => False) (Kept.of_below bw5) (fun _ _ q => q.elim)) (fun i q z => by omega), hEu, fun i hi => by omega, fun q hq => ?_, fun i hi q => ?_, fun V hk => ?_, by omega, fun c T' hk => ?_⟩
   ·injection hq with hq
    subst hq
    exact ⟨q5, by decide, by decide⟩
   ·injection hi with hi
    omega
   ·exact (m4.rws.below (hb45 V hk)).more hz54
   ·have h1 := part_two (x := T.1) (M := 300) (Fo.pick_good HCN.out.good.2) hk (fun p hp => by
     rcases mem_tlist.1 hp with ⟨q1, rfl⟩ | ⟨q, hq, rfl⟩
     ·exact hM _ (mem_tlist.2 (.inl ⟨q1, rfl⟩))
     ·exact hM _ (mem_tlist.2 (.inr ⟨q, ((Fo.pick_mem q).1 hq).1, rfl⟩)))
    omega
  have hkk : ∀ V, Below w3.heap.size w3 V -> ∀ e ∈ E, ∃ g x be Ab, e.2 = some ⟨g, 0, none⟩ /\ Nod V g x be Ab := fun V hV e he => by
   obtain ⟨g', x', be', A', e1, n1, _⟩ := HSM.out e (hEs e he)
   exact ⟨g', x', be', A', e1, n1.below hV⟩
  have H6 := dleft_any hLH (HND.out.1.below bw5) hlf (fun e he => getE_some ((look_some HUP.out.1).2 ⟨e, hEs e he, rfl, rfl⟩)) (hkk W5 bw5) c4 sx pv hm256
  rw [show mtr (some w4.heap.size) = .pointer (some ⟨w4.heap.size, 0, none⟩) from rfl] at H6
  have H6 := Lib.hid H6
  have hFL : (T.2.pick fun c => anyD bs c bs.length).len = m := hLH.flen
  have HKK := Lib.hid hkk
  have HFL := Lib.hid hFL
  have HEU := Lib.hid hEu
  have HM4 := Lib.hid m4
  have HY4 := Lib.hid y4
  have HAP := Lib.hid ap4
  have HB45 := Lib.hid hb45
  have HM256 := Lib.hid hm256
  have HSZ := Lib.hid (And.intro hz43 (And.intro s5 hz54))
  have HB4 := Lib.hid b4
  have HQ5 := Lib.hid q5
  have HTN := Lib.hid (show n2 <= 150 /\ 2 <= n2 from ⟨hn2a, hn22⟩)
  have HLF := Lib.hid hlf
  have i2 : decide ((n2 : Int) < 2) = false := decide_eq_false (by omega)
  obtain ⟨k0, k1⟩ := HBX.out W5 (HZ3.out W5 bw5)
  clear hE hm hbs hfs hEs hEu hm256 b5 q5 hb45 hpk hM hpl hLH hkk hFL m4 y4 ap4 b4 HKS hkl hln hn22
  go_wp2_with fail
  clear hW5
  (with_reducible refine H6.out.mono ?_)
  rintro e w6 ⟨p6, i6, rfl, k6, n6, hi6, hj6, ho6⟩
  have b46 := HB45.out w6 k6
  have hz6 := b46.size
  have bw6 : Below w3.heap.size w3 w6 := HB4.out.trans (b46.mono hz43)
  have hc6 : Lst w6 w4.heap.size [.int .i64 (i6 : Int)] := by
   have h1 := n6 _ rfl
   rwa [Int.zero_add] at h1
  obtain ⟨jb, hjb⟩ : ∃ b, jB (T.1.nd ek) sx pv m = b := ⟨_, rfl⟩
  rw [hjb] at hj6 ho6
  have HJB := Lib.hid hjb
  have hZ6 := HZZ.out w6 bw6
  have H7 := Lib.hid (rleft_any A2 n2 c2 w6.heap.size ps2 w6 (hZ6.1.more (Nat.le_trans hz32 bw6.size)) (hZ6.2.1.more (Nat.le_trans hz32 bw6.size)) (Nat.le_refl _) (by omega) HC2.out HRS.out (fun p hp => HK2.out p hp) HTT.out sx pv A5 m c5 bs ((HY4.out.byt.below b46).more hz6))
  have HC6 := Lib.hid hc6
  have HI6 := Lib.hid (And.intro hi6 (And.intro hj6 ho6))
  have HB46 := Lib.hid b46
  have HW6 := Lib.hid bw6
  obtain ⟨k0, k1⟩ := HBX.out w6 (HZ3.out w6 bw6)
  clear k6 n6 hi6 hj6 ho6 hjb b46 bw6 hc6 hZ6 hz6 H6 bw5
  go_wp2_with fail
  (with_reducible refine H7.out.mono ?_)
  rintro e w7 ⟨A7, n7, c7, v, rfl, h7, hhas, hvv, p7, q7, b7⟩
  obtain ⟨want, hwant⟩ : ∃ l, leftS v T.1.part (fun c => anyD bs c bs.length) ps2 = l := ⟨_, rfl⟩
  have hji := just_iff HCN.out HRS.out v hhas hvv (fun c => anyD bs c bs.length) (ek := ek) (by exact HND.out.2.2.len) HFL.out
  have hcl := HCN.out.left HRS.out 1 v (fun x hx => (hvv x hx).1) (fun c => anyD bs c bs.length) (has := sx) (val := if sx = true then pv else 0) hhas (by
   cases v with
   | none => rw [hhas]; rfl
   | some x => rw [hhas]; exact (hvv x rfl).2.symm)
  have hwl : want.length <= 300 := by
   rw [<- hwant]
   have h1 := leftT_len v T.1.part (fun c => anyD bs c bs.length) ps2 ps2.length
   unfold leftT at h1
   rw [List.take_length] at h1
   have := HN2.out
   have := HTN.out
   omega
  have hwr : Rsn want := by
   rw [<- hwant]
   exact leftS_rise HRS.out (fun x hx => (hvv x hx).1) (fun p hp => tlist_begs (x := T.1) (k := T.2) (kvP p) (by rw [HCN.out.list]; exact List.mem_map.2 ⟨p, hp, rfl⟩))
  have hwk : ∀ p ∈ want, p.key.length <= 600 /\ 0 <= p.val /\ p.val <= 18446744073709551615 := fun p hp => by
   rw [<- hwant] at hp
   rcases List.mem_append.1 hp with h | h
   ·have hx : v = some p := by
     cases v with
     | none => cases h
     | some x =>
      have : p = x := by simpa using h
      rw [this]
    obtain ⟨e1, e2⟩ := hvv p hx
    have hM2 : T.1.part.length <= 300 := by
     obtain ⟨q, hq1, hq2⟩ := good_has HCN.out.good
     rw [HCN.out.list] at hq1
     obtain ⟨z, hz, rfl⟩ := List.mem_map.1 hq1
     exact Nat.le_trans hq2 (HK2.out z hz)
    rw [e1, e2]
    exact ⟨by omega, HPV.out⟩
   ·have h1 := (List.mem_filter.1 h).1
    have h2 := HK2.out p h1
    exact ⟨by omega, HV2.out p h1⟩
  rw [hwant] at p7 q7 hji hcl
  rw [HJB.out] at hji
  have bw7 : Below w3.heap.size w3 w7 := HW6.out.trans (b7.mono HW6.out.size)
  -- the tree that is told, and what it is
  obtain ⟨T', hT', hot⟩ : ∃ T', OCan want T' /\ OTre w6 (· < w6.heap.size) T' p6 := by
   cases jb with
   | true =>
    obtain ⟨e1, _⟩ := HI6.out.2.1 rfl
    exact ⟨some T, Can.same HCN.out (hji.1 rfl), by rw [e1]; exact T3.out.below HW6.out⟩
   | false =>
    exact ⟨_, hcl, OTre.here (HI6.out.2.2 rfl)⟩
  have H8 := Lib.hid (pas_any (c := c7) (HTB.out w7 (HZ3.out w7 bw7)) (OTre.below hot b7) p7 q7 (Nat.le_refl _) (by have := p7.1; omega) h7 hwr (fun p hp => (hwk p hp).1) (fun p hp => (hwk p hp).2) hT')
  have HA9 := Lib.hid (fun (V : World) (h : Below w3.heap.size w3 V) => pas_any (c := c2) (HTB.out V (HZ3.out V h)) (T3.out.below h) (HZZ.out V h).1 (HZZ.out V h).2.1 (Nat.le_trans hz32 h.size) (by have := HTN.out; omega) HC2.out HRS.out (fun p hp => by have := HK2.out p hp; omega) HV2.out HPX.out.2)
  have HCO := Lib.hid (fun (V : World) (h : Below w6.heap.size w6 V) => count_any (g := w4.heap.size) (m := (i6 : Int)) (w := V) ((Blk.below HC6.out h (Blk.lt HC6.out)).cell 0))
  have HEQ := Lib.hid (fun (V : World) (h : Below w7.heap.size w7 V) => lequal_any A7 A2 n7 n2 c7 c2 V.heap.size want ps2 V ((p7.below h).more h.size) ((HZZ.out V (bw7.trans (h.mono bw7.size))).1.more (Nat.le_trans hz32 (Nat.le_trans bw7.size h.size))) (Nat.le_refl _))
  have HJI := Lib.hid hji
  have HB7 := Lib.hid b7
  have HW7 := Lib.hid bw7
  clear hhas hvv p7 q7 b7 hwant hji hcl hwl hwr hwk hT' hot bw7 H7 h7
  have ewm : IntKind.i64.wrap ((m : Int) - 1) = (m : Int) - 1 := by rw [IntKind.wrap_i64]; have := HM256.out; omega
  have i3 : decide ((1 : Int) < (i6 : Int)) = false := decide_eq_false (by have := HI6.out.1; omega)
  go_upto_region 11 with fail
  go_cut [114] (fun v114 wc => v114 = .bool false /\ Hid (Below w7.heap.size w7 wc))
  case first =>
   go_wp2_with fail
   (with_reducible refine H8.out.mono ?_)
   rintro e w8 ⟨rfl, b8⟩
   have HB8 := Lib.hid (HB7.out.trans (b8.mono HB7.out.size))
   have HW8 := Lib.hid (HW7.out.trans (b8.mono HW7.out.size))
   have HS8 := Lib.hid b8
   have H9 := Lib.hid (HA9.out w8 HW8.out)
   clear b8 H8
   go_wp2_with fail
   (with_reducible refine H9.out.mono ?_)
   rintro e w9 ⟨rfl, b9⟩
   have HB9 := Lib.hid (HB8.out.trans (b9.mono HB8.out.size))
   have HW9 := Lib.hid (HW8.out.trans (b9.mono HW8.out.size))
   have HS9 := Lib.hid (HS8.out.trans (b9.mono HS8.out.size))
   have H10 := Lib.hid (HCO.out w9 HB9.out)
   clear b9 H9
   go_wp2_with fail
   (with_reducible refine H10.out.mono ?_)
   rintro e w10 ⟨rfl, hw⟩
   obtain rfl : w9 = w10 := hw.symm
   have H11 := Lib.hid (HEQ.out w9 HS9.out)
   clear H10 HEQ
   go_wp2_with fail
   (with_reducible refine H11.out.mono ?_)
   rintro e w11 ⟨rr, rfl, hrr, b11⟩
   have HB11 := Lib.hid (HB9.out.trans (b11.mono HB9.out.size))
   have HS11 := Lib.hid (HS9.out.trans (b11.mono HS9.out.size))
   have hrj : rr = true -> p6 = some ⟨g, 0, none⟩ /\ i6 = 0 := fun q => HI6.out.2.1 (HJI.out.2 (hrr.1 q))
   have HRJ := Lib.hid hrj
   have HCO11 := Lib.hid (HCO.out w11 HB11.out)
   clear hrr b11 hrj H11 i3
   have hrc : rr = true \/ rr = false := by cases rr <;> simp
   rcases hrc with rfl | rfl
   case inl =>
    obtain ⟨e1, e2⟩ := HRJ.out rfl
    subst e1
    subst e2
    have hnq := neq_self (some ⟨g, 0, none⟩)
    go_wp2_with fail
    (with_reducible refine HCO11.out.mono ?_)
    rintro e w12 ⟨rfl, hw⟩
    obtain rfl : w11 = w12 := hw.symm
    clear hnq
    go_wp2_with fail
    go_meet
    exact ⟨rfl, HS11⟩
   case inr =>
    clear HRJ HCO11
    go_wp2_with fail
    go_meet
    exact ⟨rfl, HS11⟩
  case rest =>
  obtain ⟨rfl, HS11⟩ := hcut
  have HB11 := Lib.hid (HB7.out.trans (HS11.out.mono HB7.out.size))
  have HW11 := Lib.hid (HW7.out.trans (HS11.out.mono HW7.out.size))
  have hm11 : MineR wc w3.heap.size 70 2 (.slice A4 m c4) m (E.map kdc) := HM4.out.below (HB46.out.trans (HB11.out.mono HB46.out.size)) (fun g hg => (HM4.out.lt g hg).2)
  have HM11 := Lib.hid hm11
  clear hm11 i3 H8 HEQ HA9 HCO HJI
  go_wp2_with fail
  have HAS : Hid (RvS w3 wc A4 m c4 E E 0) := Lib.hid ⟨HM11.out, HW11.out, fun _ h => h, fun _ => rfl, fun q => absurd q (by decide)⟩
  have h0z := zero_at m
  go_loopw [14, 15] (fun a b wr => ∃ (i : Nat) (jz : Int), a = .int .i64 (i : Int) /\ b = .int .i64 jz /\ jz = (m : Int) - 1 - i /\ i <= m /\ Hid (∃ L, RvS w3 wr A4 m c4 E L i)) (fun a _ _ => m - (intOf a).toNat)
  case atStart => exact ⟨0, (m : Int) - 1, rfl, rfl, h0z, Nat.zero_le _, Lib.hid ⟨E, HAS.out⟩⟩
  case round =>
   obtain ⟨i, jz, rfl, rfl, hjz, him, HS⟩ := hrel
   clear HM11 HAS h0z him
   by_cases h1 : (i : Int) < jz
   ·obtain ⟨jx, g2, za, zb, pa, pb, rfl, rfl, x0, x1, x2, x3, y0, y1, y2, y3, ew1, ewi, i1, i2, i3, hdis, HRV, HJZ⟩ := RvS.round HS hjz h1 HM256.out
    clear HS hjz
    go_upto_region 16 with fail
    refine wp_region_held_drew (S := (fun w' => 0 <= w'.heap.size)) (by kernel_rfl) (Nat.zero_le _) (fun hHeld => ?_)
    refine wpAnyH_take (i := 0) (oi := { dst := some 125, op := .move (.tmp 8), type := 63, pos := "law.go:180", after := #[], guard := none }) (v := ?v1) rfl (by kernel_rfl) (by kernel_rfl) (by kernel_rfl) (fun _ _ _ h => h) (Or.inl ⟨by rfl, ?hy1⟩) hHeld ?rest1
    case hy1 => (intro w' hSw; (try dsimp only at hSw); go_simp; (try with_reducible rfl))
    try simp only [Act.put, List.setIfInBounds_toArray, List.set_cons_zero, List.set_cons_succ]
    refine wpAnyH_take (i := 1) (oi := { dst := some 126, op := .move (.tmp 14), type := 3, pos := "law.go:180", after := #[], guard := none }) (v := ?v2) rfl (by kernel_rfl) (by kernel_rfl) (by kernel_rfl) (fun _ _ _ h => h) (Or.inl ⟨by rfl, ?hy2⟩) hHeld ?rest2
    case hy2 => (intro w' hSw; (try dsimp only at hSw); go_simp; (try with_reducible rfl))
    try simp only [Act.put, List.setIfInBounds_toArray, List.set_cons_zero, List.set_cons_succ]
    refine wpAnyH_take (i := 2) (oi := { dst := some 127, op := .move (.tmp 8), type := 63, pos := "law.go:180", after := #[{ on := 13, ground := .gcOnly .lateStores }], guard := none }) (v := ?v3) rfl (by kernel_rfl) (by kernel_rfl) (by kernel_rfl) (fun _ _ _ h => h) (Or.inl ⟨by rfl, ?hy3⟩) hHeld ?rest3
    case hy3 => (intro w' hSw; (try dsimp only at hSw); go_simp; (try with_reducible rfl))
    try simp only [Act.put, List.setIfInBounds_toArray, List.set_cons_zero, List.set_cons_succ]
    refine wpAnyH_take (i := 3) (oi := { dst := some 128, op := .move (.tmp 15), type := 3, pos := "law.go:180", after := #[{ on := 13, ground := .gcOnly .lateStores }], guard := none }) (v := ?v4) rfl (by kernel_rfl) (by kernel_rfl) (by kernel_rfl) (fun _ _ _ h => h) (Or.inl ⟨by rfl, ?hy4⟩) hHeld ?rest4
    case hy4 => (intro w' hSw; (try dsimp only at hSw); go_simp; (try with_reducible rfl))
    try simp only [Act.put, List.setIfInBounds_toArray, List.set_cons_zero, List.set_cons_succ]
    refine wpAnyH_take (i := 4) (oi := { dst := some 129, op := .move (.tmp 8), type := 63, pos := "law.go:180", after := #[], guard := none }) (v := ?v5) rfl (by kernel_rfl) (by kernel_rfl) (by kernel_rfl) (fun _ _ _ h => h) (Or.inl ⟨by rfl, ?hy5⟩) hHeld ?rest5
    case hy5 => (intro w' hSw; (try dsimp only at hSw); go_simp; (try with_reducible rfl))
    try simp only [Act.put, List.setIfInBounds_toArray, List.set_cons_zero, List.set_cons_succ]
    refine wpAnyH_take (i := 5) (oi := { dst := some 130, op := .move (.tmp 15), type := 3, pos := "law.go:180", after := #[], guard := none }) (v := ?v6) rfl (by kernel_rfl) (by kernel_rfl) (by kernel_rfl) (fun _ _ _ h => h) (Or.inl ⟨by rfl, ?hy6⟩) hHeld ?rest6
    case hy6 => (intro w' hSw; (try dsimp only at hSw); go_simp; (try with_reducible rfl))
    try simp only [Act.put, List.setIfInBounds_toArray, List.set_cons_zero, List.set_cons_succ]
    refine wpAnyH_take (i := 6) (oi := { dst := some 131, op := .indexAddr 63 (.tmp 129) (.tmp 130), type := 0, pos := "law.go:180", after := #[{ on := 4, ground := .data }, { on := 5, ground := .data }], guard := none }) (v := ?v7) rfl (by kernel_rfl) (by kernel_rfl) (by kernel_rfl) (fun _ _ _ h => h) (Or.inl ⟨by rfl, ?hy7⟩) hHeld ?rest7
    case hy7 => (intro w' hSw; (try dsimp only at hSw); go_simp; (try with_reducible rfl))
    try simp only [Act.put, List.setIfInBounds_toArray, List.set_cons_zero, List.set_cons_succ]
    refine wpAnyH_take (i := 8) (oi := { dst := some 133, op := .move (.tmp 8), type := 63, pos := "law.go:180", after := #[], guard := none }) (v := ?v8) rfl (by kernel_rfl) (by kernel_rfl) (by kernel_rfl) (fun _ _ _ h => h) (Or.inl ⟨by rfl, ?hy8⟩) hHeld ?rest8
    case hy8 => (intro w' hSw; (try dsimp only at hSw); go_simp; (try with_reducible rfl))
    try simp only [Act.put, List.setIfInBounds_toArray, List.set_cons_zero, List.set_cons_succ]
    refine wpAnyH_take (i := 9) (oi := { dst := some 134, op := .move (.tmp 14), type := 3, pos := "law.go:180", after := #[], guard := none }) (v := ?v9) rfl (by kernel_rfl) (by kernel_rfl) (by kernel_rfl) (fun _ _ _ h => h) (Or.inl ⟨by rfl, ?hy9⟩) hHeld ?rest9
    case hy9 => (intro w' hSw; (try dsimp only at hSw); go_simp; (try with_reducible rfl))
    try simp only [Act.put, List.setIfInBounds_toArray, List.set_cons_zero, List.set_cons_succ]
    refine wpAnyH_take (i := 10) (oi := { dst := some 135, op := .indexAddr 63 (.tmp 133) (.tmp 134), type := 0, pos := "law.go:180", after := #[{ on := 8, ground := .data }, { on := 9, ground := .data }], guard := none }) (v := ?v10) rfl (by kernel_rfl) (by kernel_rfl) (by kernel_rfl) (fun _ _ _ h => h) (Or.inl ⟨by rfl, ?hy10⟩) hHeld ?rest10
    case hy10 => (intro w' hSw; (try dsimp only at hSw); go_simp; (try with_reducible rfl))
    try simp only [Act.put, List.setIfInBounds_toArray, List.set_cons_zero, List.set_cons_succ]
    refine wpAnyH_ready (rs := [7, 11]) (by kernel_rfl) (by simp) (AllReadyH.cons (o := { dst := some 132, op := .load 70 (.tmp 131), type := 70, pos := "law.go:180", after := #[{ on := 6, ground := .data }], guard := none }) rfl (fun K hK => ?_) (AllReadyH.cons (o := { dst := some 136, op := .load 70 (.tmp 135), type := 70, pos := "law.go:180", after := #[{ on := 10, ground := .data }], guard := none }) rfl (fun K hK => ?_) AllReadyH.nil))
    ·go_simp
     refine hK.out _ _ (Nat.zero_le _) (fun hHeld' => ?_)
     clear hK K hHeld
     have hHeld := hHeld'
     clear hHeld'
     try simp only [Act.put, List.setIfInBounds_toArray, List.set_cons_zero, List.set_cons_succ]
     refine wpAnyH_ready (rs := [11]) (by kernel_rfl) (by simp) (AllReadyH.cons (o := { dst := some 136, op := .load 70 (.tmp 135), type := 70, pos := "law.go:180", after := #[{ on := 10, ground := .data }], guard := none }) rfl (fun K hK => ?_) AllReadyH.nil)
     go_simp
     refine hK.out _ _ (Nat.zero_le _) (fun hHeld' => ?_)
     clear hK K hHeld
     have hHeld := hHeld'
     clear hHeld'
     try simp only [Act.put, List.setIfInBounds_toArray, List.set_cons_zero, List.set_cons_succ]
     refine wpAnyH_take (i := 12) (oi := { dst := some 137, op := .indexAddr 63 (.tmp 125) (.tmp 126), type := 0, pos := "law.go:180", after := #[{ on := 0, ground := .data }, { on := 1, ground := .data }, { on := 0, ground := .phase }, { on := 1, ground := .phase }, { on := 2, ground := .textOnly .lateStores }, { on := 3, ground := .textOnly .lateStores }, { on := 4, ground := .phase }, { on := 5, ground := .phase }, { on := 6, ground := .phase }, { on := 7, ground := .phase }, { on := 8, ground := .textOnly .lateStores }, { on := 9, ground := .textOnly .lateStores }, { on := 10, ground := .textOnly .lateStoresUnsure }, { on := 11, ground := .phase }], guard := none }) (v := ?v11) rfl (by kernel_rfl) (by kernel_rfl) (by kernel_rfl) (fun _ _ _ h => h) (Or.inl ⟨by rfl, ?hy11⟩) hHeld ?rest11
     case hy11 => (intro w' hSw; (try dsimp only at hSw); go_simp; (try with_reducible rfl))
     try simp only [Act.put, List.setIfInBounds_toArray, List.set_cons_zero, List.set_cons_succ]
     refine wpAnyH_ready (rs := [13]) (by kernel_rfl) (by simp) (AllReadyH.cons (o := { dst := none, op := .store 70 (.tmp 137) (.tmp 132), type := 0, pos := "law.go:180", after := #[{ on := 12, ground := .data }, { on := 7, ground := .data }, { on := 0, ground := .phase }, { on := 1, ground := .phase }, { on := 2, ground := .textOnly .lateStores }, { on := 3, ground := .textOnly .lateStores }, { on := 4, ground := .phase }, { on := 5, ground := .phase }, { on := 6, ground := .phase }, { on := 7, ground := .phase }, { on := 8, ground := .textOnly .lateStores }, { on := 9, ground := .textOnly .lateStores }, { on := 10, ground := .textOnly .lateStoresUnsure }, { on := 11, ground := .phase }], guard := none }) rfl (fun K hK => ?_) AllReadyH.nil)
     go_simp
     refine hK.out _ _ (Nat.zero_le _) (fun hHeld' => ?_)
     clear hK K hHeld
     have hHeld := hHeld'
     clear hHeld'
     try simp only [Act.put, List.setIfInBounds_toArray, List.set_cons_zero, List.set_cons_succ]
     refine wpAnyH_take (i := 14) (oi := { dst := some 138, op := .indexAddr 63 (.tmp 127) (.tmp 128), type := 0, pos := "law.go:180", after := #[{ on := 2, ground := .data }, { on := 3, ground := .data }, { on := 0, ground := .phase }, { on := 1, ground := .phase }, { on := 2, ground := .phase }, { on := 3, ground := .phase }, { on := 4, ground := .phase }, { on := 5, ground := .phase }, { on := 6, ground := .phase }, { on := 7, ground := .phase }, { on := 8, ground := .phase }, { on := 9, ground := .phase }, { on := 10, ground := .phase }, { on := 11, ground := .phase }, { on := 12, ground := .phase }, { on := 13, ground := .phase }], guard := none }) (v := ?v12) rfl (by kernel_rfl) (by kernel_rfl) (by kernel_rfl) (fun _ _ _ h => h) (Or.inl ⟨by rfl, ?hy12⟩) hHeld ?rest12
     case hy12 => (intro w' hSw; (try dsimp only at hSw); go_simp; (try with_reducible rfl))
     try simp only [Act.put, List.setIfInBounds_toArray, List.set_cons_zero, List.set_cons_succ]
     refine wpAnyH_ready (rs := [15]) (by kernel_rfl) (by simp) (AllReadyH.cons (o := { dst := none, op := .store 70 (.tmp 138) (.tmp 136), type := 0, pos := "law.go:180", after := #[{ on := 14, ground := .data }, { on := 11, ground := .data }, { on := 13, ground := .chain }, { on := 0, ground := .phase }, { on := 1, ground := .phase }, { on := 2, ground := .phase }, { on := 3, ground := .phase }, { on := 4, ground := .phase }, { on := 5, ground := .phase }, { on := 6, ground := .phase }, { on := 7, ground := .phase }, { on := 8, ground := .phase }, { on := 9, ground := .phase }, { on := 10, ground := .phase }, { on := 11, ground := .phase }, { on := 12, ground := .phase }, { on := 13, ground := .phase }], guard := none }) rfl (fun K hK => ?_) AllReadyH.nil)
     go_simp
     refine hK.out _ _ (Nat.zero_le _) (fun hHeld' => ?_)
     clear hK K hHeld
     have hHeld := hHeld'
     clear hHeld'
     try simp only [Act.put, List.setIfInBounds_toArray, List.set_cons_zero, List.set_cons_succ]
     refine wpAnyH_done (by kernel_rfl) ?_ _
     go_wp2_with fail
     go_light
     exact ⟨⟨i + 1, (jx : Int) - 1, by go_num, rfl, HJZ.out.1, HJZ.out.2.1, HRV⟩, HJZ.out.2.2⟩
    ·go_simp
     refine hK.out _ _ (Nat.zero_le _) (fun hHeld' => ?_)
     clear hK K hHeld
     have hHeld := hHeld'
     clear hHeld'
     try simp only [Act.put, List.setIfInBounds_toArray, List.set_cons_zero, List.set_cons_succ]
     refine wpAnyH_ready (rs := [7]) (by kernel_rfl) (by simp) (AllReadyH.cons (o := { dst := some 132, op := .load 70 (.tmp 131), type := 70, pos := "law.go:180", after := #[{ on := 6, ground := .data }], guard := none }) rfl (fun K hK => ?_) AllReadyH.nil)
     go_simp
     refine hK.out _ _ (Nat.zero_le _) (fun hHeld' => ?_)
     clear hK K hHeld
     have hHeld := hHeld'
     clear hHeld'
     try simp only [Act.put, List.setIfInBounds_toArray, List.set_cons_zero, List.set_cons_succ]
     refine wpAnyH_take (i := 12) (oi := { dst := some 137, op := .indexAddr 63 (.tmp 125) (.tmp 126), type := 0, pos := "law.go:180", after := #[{ on := 0, ground := .data }, { on := 1, ground := .data }, { on := 0, ground := .phase }, { on := 1, ground := .phase }, { on := 2, ground := .textOnly .lateStores }, { on := 3, ground := .textOnly .lateStores }, { on := 4, ground := .phase }, { on := 5, ground := .phase }, { on := 6, ground := .phase }, { on := 7, ground := .phase }, { on := 8, ground := .textOnly .lateStores }, { on := 9, ground := .textOnly .lateStores }, { on := 10, ground := .textOnly .lateStoresUnsure }, { on := 11, ground := .phase }], guard := none }) (v := ?v13) rfl (by kernel_rfl) (by kernel_rfl) (by kernel_rfl) (fun _ _ _ h => h) (Or.inl ⟨by rfl, ?hy13⟩) hHeld ?rest13
     case hy13 => (intro w' hSw; (try dsimp only at hSw); go_simp; (try with_reducible rfl))
     try simp only [Act.put, List.setIfInBounds_toArray, List.set_cons_zero, List.set_cons_succ]
     refine wpAnyH_ready (rs := [13]) (by kernel_rfl) (by simp) (AllReadyH.cons (o := { dst := none, op := .store 70 (.tmp 137) (.tmp 132), type := 0, pos := "law.go:180", after := #[{ on := 12, ground := .data }, { on := 7, ground := .data }, { on := 0, ground := .phase }, { on := 1, ground := .phase }, { on := 2, ground := .textOnly .lateStores }, { on := 3, ground := .textOnly .lateStores }, { on := 4, ground := .phase }, { on := 5, ground := .phase }, { on := 6, ground := .phase }, { on := 7, ground := .phase }, { on := 8, ground := .textOnly .lateStores }, { on := 9, ground := .textOnly .lateStores }, { on := 10, ground := .textOnly .lateStoresUnsure }, { on := 11, ground := .phase }], guard := none }) rfl (fun K hK => ?_) AllReadyH.nil)
     go_simp
     refine hK.out _ _ (Nat.zero_le _) (fun hHeld' => ?_)
     clear hK K hHeld
     have hHeld := hHeld'
     clear hHeld'
     try simp only [Act.put, List.setIfInBounds_toArray, List.set_cons_zero, List.set_cons_succ]
     refine wpAnyH_take (i := 14) (oi := { dst := some 138, op := .indexAddr 63 (.tmp 127) (.tmp 128), type := 0, pos := "law.go:180", after := #[{ on := 2, ground := .data }, { on := 3, ground := .data }, { on := 0, ground := .phase }, { on := 1, ground := .phase }, { on := 2, ground := .phase }, { on := 3, ground := .phase }, { on := 4, ground := .phase }, { on := 5, ground := .phase }, { on := 6, ground := .phase }, { on := 7, ground := .phase }, { on := 8, ground := .phase }, { on := 9, ground := .phase }, { on := 10, ground := .phase }, { on := 11, ground := .phase }, { on := 12, ground := .phase }, { on := 13, ground := .phase }], guard := none }) (v := ?v14) rfl (by kernel_rfl) (by kernel_rfl) (by kernel_rfl) (fun _ _ _ h => h) (Or.inl ⟨by rfl, ?hy14⟩) hHeld ?rest14
     case hy14 => (intro w' hSw; (try dsimp only at hSw); go_simp; (try with_reducible rfl))
     try simp only [Act.put, List.setIfInBounds_toArray, List.set_cons_zero, List.set_cons_succ]
     refine wpAnyH_ready (rs := [15]) (by kernel_rfl) (by simp) (AllReadyH.cons (o := { dst := none, op := .store 70 (.tmp 138) (.tmp 136), type := 0, pos := "law.go:180", after := #[{ on := 14, ground := .data }, { on := 11, ground := .data }, { on := 13, ground := .chain }, { on := 0, ground := .phase }, { on := 1, ground := .phase }, { on := 2, ground := .phase }, { on := 3, ground := .phase }, { on := 4, ground := .phase }, { on := 5, ground := .phase }, { on := 6, ground := .phase }, { on := 7, ground := .phase }, { on := 8, ground := .phase }, { on := 9, ground := .phase }, { on := 10, ground := .phase }, { on := 11, ground := .phase }, { on := 12, ground := .phase }, { on := 13, ground := .phase }], guard := none }) rfl (fun K hK => ?_) AllReadyH.nil)
     go_simp
     refine hK.out _ _ (Nat.zero_le _) (fun hHeld' => ?_)
     clear hK K hHeld
     have hHeld := hHeld'
     clear hHeld'
     try simp only [Act.put, List.setIfInBounds_toArray, List.set_cons_zero, List.set_cons_succ]
     refine wpAnyH_done (by kernel_rfl) ?_ _
     go_wp2_with fail
     go_light
     exact ⟨⟨i + 1, (jx : Int) - 1, by go_num, rfl, HJZ.out.1, HJZ.out.2.1, HRV⟩, HJZ.out.2.2⟩
   ·obtain ⟨L, HL, HAR, H13⟩ := RvS.exit HS hjz h1 HKK.out HND.out.1 HLF.out HEU.out sx pv
    clear HS hjz
    have HBC := Lib.hid (fun (V : World) (h : Below w3.heap.size w3 V) => HBX.out V (HZ3.out V h))
    have HZR := Lib.hid (fun (V : World) => dl_zero (some ⟨g, 0, none⟩) none 0 0 sx pv none V)
    obtain ⟨k0, k1⟩ := HBC.out wr HL.out.2
    go_upto_if 141 with fail
    go_cut [16] (fun v16 wc => Hid (MineR wc w3.heap.size 70 2 (.slice A4 m c4) m (L.map kdc) /\ Below w3.heap.size w3 wc))
    case first =>
     by_cases hm2 : 2 <= m
     ·have H14 := Lib.hid (H13.out hm2)
      have im := two_less hm2
      clear H13
      go_wp2_with fail
      (with_reducible refine H14.out.mono ?_)
      rintro e wq ⟨rfl, b13⟩
      have HL2 := Lib.hid (And.intro (show MineR wq w3.heap.size 70 2 (.slice A4 m c4) m (L.map kdc) from HL.out.1.below b13 (fun g hg => (HL.out.1.lt g hg).2)) (HL.out.2.trans (b13.mono HL.out.2.size)))
      clear H14 b13
      go_wp2_with fail
      go_meet
      exact HL2
     ·have im := less_two hm2
      clear H13
      go_wp2_with fail
      go_meet
      exact HL
    case rest =>
    have HL2 := Lib.hid hcut.out.1
    have HBL2 := Lib.hid hcut.out.2
    clear hcut H13 HL k0 k1
    obtain ⟨wq, hwq⟩ : ∃ V, V = wc := ⟨_, rfl⟩
    subst hwq
    obtain ⟨k0, k1⟩ := HBC.out wq HBL2.out
    have HZ5 := Lib.hid (HZR.out wq)
    go_wp2_with fail
    (with_reducible refine HZ5.out.mono ?_)
    rintro e w14 ⟨rfl, hw⟩
    obtain rfl : wq = w14 := hw.symm
    clear HZ5
    go_upto_region 22 with fail
    refine wp_region_held_drew (S := (fun w' => w'.cell? ⟨W.heap.size, 0, none⟩ = some (.bool sx) /\ w'.cell? ⟨W.heap.size, 1, none⟩ = some (.int .u64 pv))) (by kernel_rfl) (HBC.out _ HBL2.out.drew) (fun hHeld => ?_)
    refine wpAnyH_take (i := 0) (oi := { dst := some 168, op := .move (.tmp 7), type := 28, pos := "law.go:188", after := #[], guard := none }) (v := ?v15) rfl (by kernel_rfl) (by kernel_rfl) (by kernel_rfl) (fun _ _ _ h => h) (Or.inl ⟨by rfl, ?hy15⟩) hHeld ?rest15
    case hy15 => (intro w' hSw; (try dsimp only at hSw); go_simp; (try with_reducible rfl))
    try simp only [Act.put, List.setIfInBounds_toArray, List.set_cons_zero, List.set_cons_succ]
    refine wpAnyH_take (i := 1) (oi := { dst := some 169, op := .fieldAddr 62 (.tmp 5) 0, type := 0, pos := "law.go:188", after := #[], guard := none }) (v := ?v16) rfl (by kernel_rfl) (by kernel_rfl) (by kernel_rfl) (fun _ _ _ h => h) (Or.inl ⟨by rfl, ?hy16⟩) hHeld ?rest16
    case hy16 => (intro w' hSw; (try dsimp only at hSw); go_simp; (try with_reducible rfl))
    try simp only [Act.put, List.setIfInBounds_toArray, List.set_cons_zero, List.set_cons_succ]
    refine wpAnyH_take (i := 2) (oi := { dst := some 170, op := .load 4 (.tmp 169), type := 4, pos := "law.go:188", after := #[{ on := 1, ground := .data }], guard := none }) (v := ?v17) rfl (by kernel_rfl) (by kernel_rfl) (by kernel_rfl) (fun _ _ _ h => h) (Or.inl ⟨by rfl, ?hy17⟩) hHeld ?rest17
    case hy17 => (intro w' hSw; (try dsimp only at hSw); go_simp; (try with_reducible rfl))
    try simp only [Act.put, List.setIfInBounds_toArray, List.set_cons_zero, List.set_cons_succ]
    refine wpAnyH_take (i := 3) (oi := { dst := some 171, op := .fieldAddr 62 (.tmp 5) 1, type := 0, pos := "law.go:188", after := #[], guard := none }) (v := ?v18) rfl (by kernel_rfl) (by kernel_rfl) (by kernel_rfl) (fun _ _ _ h => h) (Or.inl ⟨by rfl, ?hy18⟩) hHeld ?rest18
    case hy18 => (intro w' hSw; (try dsimp only at hSw); go_simp; (try with_reducible rfl))
    try simp only [Act.put, List.setIfInBounds_toArray, List.set_cons_zero, List.set_cons_succ]
    refine wpAnyH_take (i := 4) (oi := { dst := some 172, op := .load 24 (.tmp 171), type := 24, pos := "law.go:188", after := #[{ on := 3, ground := .data }], guard := none }) (v := ?v19) rfl (by kernel_rfl) (by kernel_rfl) (by kernel_rfl) (fun _ _ _ h => h) (Or.inl ⟨by rfl, ?hy19⟩) hHeld ?rest19
    case hy19 => (intro w' hSw; (try dsimp only at hSw); go_simp; (try with_reducible rfl))
    try simp only [Act.put, List.setIfInBounds_toArray, List.set_cons_zero, List.set_cons_succ]
    refine wpAnyH_take (i := 5) (oi := { dst := some 173, op := .move (.tmp 8), type := 63, pos := "law.go:188", after := #[], guard := none }) (v := ?v20) rfl (by kernel_rfl) (by kernel_rfl) (by kernel_rfl) (fun _ _ _ h => h) (Or.inl ⟨by rfl, ?hy20⟩) hHeld ?rest20
    case hy20 => (intro w' hSw; (try dsimp only at hSw); go_simp; (try with_reducible rfl))
    try simp only [Act.put, List.setIfInBounds_toArray, List.set_cons_zero, List.set_cons_succ]
    refine wpAnyH_take (i := 6) (oi := { dst := some 174, op := .build 70 #[(0, .const (.int .u8 0))], type := 70, pos := "law.go:188", after := #[], guard := none }) (v := ?v21) rfl (by kernel_rfl) (by kernel_rfl) (by kernel_rfl) (fun _ _ _ h => h) (Or.inl ⟨by rfl, ?hy21⟩) hHeld ?rest21
    case hy21 => (intro w' hSw; (try dsimp only at hSw); go_simp; (try with_reducible rfl))
    try simp only [Act.put, List.setIfInBounds_toArray, List.set_cons_zero, List.set_cons_succ]
    refine wpAnyH_ready (rs := [7]) (by kernel_rfl) (by simp) (AllReadyH.cons (o := { dst := some 175, op := .buildSlice 63 1 #[(0, .tmp 174)], type := 63, pos := "law.go:188", after := #[{ on := 6, ground := .data }], guard := none }) rfl (fun K hK => ?_) AllReadyH.nil)
    go_simp
    obtain ⟨U7, hU7⟩ : ∃ V, (wq.alloc (.cells #[.int .u8 0, .pointer none] 70)).drew = V := ⟨_, rfl⟩
    have B7 := Lib.hid (show Below wq.heap.size wq U7 by rw [<- hU7]; exact ((Below.refl _ _).alloc (Nat.le_refl _) _).drew)
    have LB := Lib.hid (show ∀ (j : Nat) (u : Value), (kdc (0, none))[j]? = some u -> U7.cell? ((⟨wq.heap.size, 0, none⟩ : Addr).add j) = some u from by rw [<- hU7]; exact kdc_cells (e := (0, none)) (z := 0) rfl (Blk.new wq 70 #[.int .u8 0, .pointer none]))
    have MR := Lib.hid (show MineR U7 w3.heap.size 70 2 (.slice A4 m c4) m (L.map kdc) by rw [<- hU7]; exact (MineR.alloc HL2.out _).drewN 1)
    rw [hU7]
    clear hU7
    refine hK.out _ _ (HBC.out _ (HBL2.out.trans (B7.out.mono HBL2.out.size))) (fun hHeld' => ?_)
    clear hK K hHeld
    have hHeld := hHeld'
    clear hHeld'
    try simp only [Act.put, List.setIfInBounds_toArray, List.set_cons_zero, List.set_cons_succ]
    refine wpAnyH_ready (rs := [8]) (by kernel_rfl) (by simp) (AllReadyH.cons (o := { dst := some 176, op := .call { callee := .builtin .append, args := #[.tmp 173, .tmp 175], argTypes := #[63, 63] }, type := 63, pos := "law.go:188", after := #[{ on := 5, ground := .data }, { on := 7, ground := .data }], guard := none }) rfl (fun K hK => ?_) AllReadyH.nil)
    rw [if_pos (by rfl)]
    refine wp_append_rws _ (.tmp 173) (.tmp 175) _ rfl Tryz.underlying63 info_kid (by rfl) (by decide) w3.heap.size (.slice A4 m c4) m (L.map kdc) (by rfl) MR.out ⟨wq.heap.size, 0, none⟩ 1 (kdc (0, none)) (by rfl) (by rfl) LB.out (kid_one _) (app_small HM256.out) (app_max HM256.out) (Nat.le_trans HBL2.out.size B7.out.size) ?_
    intro v8 U8 m8 g8 _
    obtain ⟨A8, c8, rfl, _⟩ := m8.slice
    have hb8 : Below w3.heap.size w3 U8 := below_grown (HBL2.out.trans (B7.out.mono HBL2.out.size)) MR.out g8 (Nat.le_refl _) (Nat.le_trans HBL2.out.size B7.out.size)
    have HB8 := Lib.hid hb8
    have H9 := Lib.hid (HAR.out U8 A8 c8 hb8 m8)
    clear m8 g8 hb8
    refine hK.out _ _ (HBC.out _ HB8.out) (fun hHeld' => ?_)
    clear hK K hHeld
    have hHeld := hHeld'
    clear hHeld'
    try simp only [Act.put, List.setIfInBounds_toArray, List.set_cons_zero, List.set_cons_succ]
    refine wpAnyH_ready (rs := [9]) (by kernel_rfl) (by simp) (AllReadyH.cons (o := { dst := some 177, op := .call { callee := .value (.func 23), args := #[.tmp 168, .tmp 170, .tmp 172, .tmp 176, .const (.int .u64 2), .const (.pointer none)], argTypes := #[28, 4, 24, 63, 24, 44] }, type := 57, pos := "law.go:188", after := #[{ on := 0, ground := .data }, { on := 2, ground := .data }, { on := 4, ground := .data }, { on := 8, ground := .data }, { on := 8, ground := .chain }], guard := none }) rfl (fun K hK => ?_) AllReadyH.nil)
    go_simp
    (with_reducible refine H9.out.mono ?_)
    rintro e U9 ⟨rfl, b9⟩
    have HB9 := Lib.hid (HB8.out.trans (b9.mono HB8.out.size))
    clear b9
    go_wp2_with fail
    refine hK.out _ _ (HBC.out _ HB9.out) (fun hHeld' => ?_)
    clear hK K hHeld
    have hHeld := hHeld'
    clear hHeld'
    try simp only [Act.put, List.setIfInBounds_toArray, List.set_cons_zero, List.set_cons_succ]
    refine wpAnyH_take (i := 10) (oi := { dst := some 167, op := .move (.tmp 177), type := 57, pos := "law.go:188", after := #[{ on := 9, ground := .data }], guard := none }) (v := ?v22) rfl (by kernel_rfl) (by kernel_rfl) (by kernel_rfl) (fun _ _ _ h => h) (Or.inl ⟨by rfl, ?hy22⟩) hHeld ?rest22
    case hy22 => (intro w' hSw; (try dsimp only at hSw); go_simp; (try with_reducible rfl))
    try simp only [Act.put, List.setIfInBounds_toArray, List.set_cons_zero, List.set_cons_succ]
    refine wpAnyH_take (i := 11) (oi := { dst := some 178, op := .extract (.tmp 167) 0, type := 28, pos := "law.go:188", after := #[{ on := 10, ground := .data }], guard := none }) (v := ?v23) rfl (by kernel_rfl) (by kernel_rfl) (by kernel_rfl) (fun _ _ _ h => h) (Or.inl ⟨by rfl, ?hy23⟩) hHeld ?rest23
    case hy23 => (intro w' hSw; (try dsimp only at hSw); go_simp; (try with_reducible rfl))
    try simp only [Act.put, List.setIfInBounds_toArray, List.set_cons_zero, List.set_cons_succ]
    refine wpAnyH_take (i := 12) (oi := { dst := some 179, op := .extract (.tmp 167) 1, type := 30, pos := "law.go:188", after := #[{ on := 10, ground := .data }, { on := 13, ground := .gcOnly .lateStores }], guard := none }) (v := ?v24) rfl (by kernel_rfl) (by kernel_rfl) (by kernel_rfl) (fun _ _ _ h => h) (Or.inl ⟨by rfl, ?hy24⟩) hHeld ?rest24
    case hy24 => (intro w' hSw; (try dsimp only at hSw); go_simp; (try with_reducible rfl))
    try simp only [Act.put, List.setIfInBounds_toArray, List.set_cons_zero, List.set_cons_succ]
    refine wpAnyH_take (i := 13) (oi := { dst := some 20, op := .assign (.tmp 178), type := 28, pos := "law.go:188", after := #[{ on := 11, ground := .data }, { on := 9, ground := .chain }, { on := 0, ground := .phase }, { on := 1, ground := .phase }, { on := 2, ground := .phase }, { on := 3, ground := .phase }, { on := 4, ground := .phase }, { on := 5, ground := .phase }, { on := 6, ground := .phase }, { on := 7, ground := .phase }, { on := 8, ground := .phase }, { on := 9, ground := .phase }, { on := 10, ground := .phase }, { on := 11, ground := .phase }, { on := 12, ground := .textOnly .lateStores }], guard := none }) (v := ?v25) rfl (by kernel_rfl) (by kernel_rfl) (by kernel_rfl) (fun _ _ _ h => h) (Or.inl ⟨by rfl, ?hy25⟩) hHeld ?rest25
    case hy25 => (intro w' hSw; (try dsimp only at hSw); go_simp; (try with_reducible rfl))
    try simp only [Act.put, List.setIfInBounds_toArray, List.set_cons_zero, List.set_cons_succ]
    refine wpAnyH_take (i := 14) (oi := { dst := some 21, op := .assign (.tmp 179), type := 30, pos := "law.go:188", after := #[{ on := 12, ground := .data }, { on := 13, ground := .chain }, { on := 0, ground := .phase }, { on := 1, ground := .phase }, { on := 2, ground := .phase }, { on := 3, ground := .phase }, { on := 4, ground := .phase }, { on := 5, ground := .phase }, { on := 6, ground := .phase }, { on := 7, ground := .phase }, { on := 8, ground := .phase }, { on := 9, ground := .phase }, { on := 10, ground := .phase }, { on := 11, ground := .phase }, { on := 12, ground := .phase }, { on := 13, ground := .phase }], guard := none }) (v := ?v26) rfl (by kernel_rfl) (by kernel_rfl) (by kernel_rfl) (fun _ _ _ h => h) (Or.inl ⟨by rfl, ?hy26⟩) hHeld ?rest26
    case hy26 => (intro w' hSw; (try dsimp only at hSw); go_simp; (try with_reducible rfl))
    try simp only [Act.put, List.setIfInBounds_toArray, List.set_cons_zero, List.set_cons_succ]
    refine wpAnyH_done (by kernel_rfl) ?_ _
    have H12 := Lib.hid (HAL.out _ (HZ3.out _ HB9.out))
    go_wp2_with fail
    (with_reducible refine H12.out.mono ?_)
    rintro e w12 ⟨rfl, b12⟩
    have B12 := Lib.hid (HZ.out w12 (HZ3.out w12 (HB9.out.trans (b12.mono HB9.out.size))))
    clear b12 H12
    go_wp2_with fail
    go_ret
    exact ⟨rfl, B12.out⟩
set_option maxRecDepth 100000 in
theorem lifted (os : Os) (started : os.Started) (H : Type) (enc : TypeId × Value -> H) :
  ReturnsInHanded {} Tryz.checked os 7 .any (fun w args => (Rows.delLeftSpec.pre enc Tryz.prog Tryz.f7 [] false w args /\ laidMetH Tryz.prog laid3 w) /\ sizedMet enc Tryz.prog Tryz.f7 (OpenSpec.ofChange Rows.delLeftSpec) false w args) (Rows.delLeftSpec.post enc Tryz.prog Tryz.f7 false true false false) := by
 refine returnsInHanded_of_change_and (C := Tryz.checked) (X := fun w _ => laidMetH Tryz.prog laid3 w) (fun _ _ _ hh h => h.of_heap hh) own started (by kernel_rfl) Tryz.func7
  (ChangeSpec.witness_shaped (enc := enc) (C := Tryz.checked) (os := os) (X := fun w _ => laidMetH Tryz.prog laid3 w) false (World.doorLaid Tryz.prog 400 os) #[.slice none 0 0, .slice none 0 0, .agg #[.bool false, .int .u64 0]] 8 rfl (World.shaped_of_RefB (by kernel_rfl) (by kernel_rfl)) (by kernel_rfl) (by kernel_rfl) (by kernel_rfl) (door_met3 os _)) ?_
 intro W base args ds gs before hval0 hW _ _ hL _
 have hval : ∀ (j : Nat) t v, Tryz.f7.params[j]? = some t -> args[j]? = some v -> Value.okWide Tryz.prog W .any base t v := hval0
 have hW' := hW
 obtain ⟨p, q, hA0, hV, rfl, hfz, hnd⟩ := hW
 have hA : DataW.TrodAll enc Tryz.prog W 0 (fun _ => true) true Tryz.f7.params.toList args.toList ds p := hA0
 rw [Tryz.params7] at hA hval
 obtain ⟨v0, vs0, d0, ds0, p0, q0, hargs, rfl, rfl, h0, r0⟩ := trodAll_cons hA
 obtain ⟨v1, vs1, d1, ds1, p1, q1, rfl, rfl, rfl, h1, r1⟩ := trodAll_cons r0
 obtain ⟨v2, vs2, d2, ds2, p2, q2, rfl, rfl, rfl, h2, r2⟩ := trodAll_cons r1
 obtain ⟨rfl, rfl, rfl⟩ := trodAll_nil r2
 obtain rfl : args = #[v0, v1, v2] := by cases args; simp_all
 obtain ⟨rfl, rfl⟩ := trodVars_none hV
 have k0 := h0
 have lt0 : ∀ x ∈ p0, x.block < W.heap.size := by obtain ⟨m, hm⟩ := k0; exact DataW.trod_lt m _ _ _ hm
 have k1 := h1
 have lt1 : ∀ x ∈ p1, x.block < W.heap.size := by obtain ⟨m, hm⟩ := k1; exact DataW.trod_lt m _ _ _ hm
 have k2 := h2
 have lt2 : ∀ x ∈ p2, x.block < W.heap.size := by obtain ⟨m, hm⟩ := k2; exact DataW.trod_lt m _ _ _ hm
 obtain ⟨A0, n0, c0, l0, rfl, b0, kp0, nc0, vl0⟩ := open_kps (hval 0 22 v0 rfl rfl) h0
 obtain ⟨A1, n1, c1, l1, rfl, b1, nc1⟩ := open_byt (hval 1 23 v1 rfl rfl) h1
 obtain ⟨x2, z2, rfl, vz2⟩ := open_slot (hval 2 62 v2 rfl rfl) h2
 clear hA0 hval0
 refine (walk A0 n0 c0 l0 A1 n1 c1 l1 x2 z2 W (of_laid3 hL) b0 kp0 nc0 vl0 b1 nc1 vz2).mono fun e W' ⟨he, bel⟩ => ?_
 subst he
 exact ⟨_, rfl, _, _, _, [], _, [], hW', trodAll_mk1 (shut_bool Tryz.underlying4 _), (trodAll_cons_mk (Below.trod laidOut (by kernel_rfl) (of_decide_eq_true (by kernel_rfl)) k0 bel lt0) (trodAll_cons_mk (Below.trod laidOut (by kernel_rfl) (of_decide_eq_true (by kernel_rfl)) k1 bel lt1) (trodAll_cons_mk (Below.trod laidOut (by kernel_rfl) (of_decide_eq_true (by kernel_rfl)) k2 bel lt2) trodAll_mk0))), rfl, bel.frame _, fun h => by cases h⟩
set_option maxRecDepth 100000 in
theorem proved : Rows.DelLeftSaid :=
 OpenClaim.holds_of_wide 7 Tryz.f7 rfl rfl rfl rfl rfl rfl rfl ⟨rfl, rfl, rfl, rfl, rfl⟩ rfl rfl rfl rfl rfl (by kernel_rfl) Tryz.func7 (by kernel_rfl)
  (of_decide_eq_true (by kernel_rfl)) (by unfold Func.isWrapper; first | (rw [if_pos (by decide +kernel)]; kernel_rfl) | (rw [if_neg (by decide +kernel)]; exact ⟨rfl, rfl⟩))
  (fun os started H enc _ => lifted os started H enc)
set_option maxRecDepth 100000 in
theorem card_holds : Rows.DelLeftCardSaid :=
 Claim7.holds_tied_plain_at .later [] [.data, .data, .data] true _ false
  proved (fun _ h => by cases h) (by kernel_rfl) (fun _ h => by cases h) delLeft_row_tie rfl ⟨rfl, rfl⟩ (by kernel_rfl) rfl
  (fun f fn hf hfn => by
   obtain rfl : f = 7 := Option.some.inj ((show Tryz.prog.funcNamed "spunyarn/spunyarnlaw16.DelLeft" = some 7 by kernel_rfl).symm.trans hf) |>.symm
   obtain rfl : fn = Tryz.f7 := (Option.some.inj (Tryz.func7.symm.trans hfn)).symm
   exact ⟨by kernel_rfl, fun j t ht => by
    rw [Tryz.params7] at ht
    have hm : t ∈ [22, 23, 62] := by simpa using Array.mem_of_getElem? ht
    have hall : ([22, 23, 62].all fun u => !Tryz.prog.wantsStandIn u) = true := by kernel_rfl
    exact (show Tryz.prog.wantsStandIn t = false by simpa using List.all_eq_true.1 hall t hm)⟩)
  (by kernel_rfl)
end Go.Proofs.YtcbgieoiefbeiaaGreatDoor.delLeft
