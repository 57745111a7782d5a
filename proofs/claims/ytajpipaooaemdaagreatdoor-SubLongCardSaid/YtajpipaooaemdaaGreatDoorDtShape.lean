/-
  The document's trees: where one lies that is handed by value (its six cells, and what these stand for); Depth, Made and Fine of it.
  The document's Digits.
  The document's trees: Shape.
-/
import Derived.Test.YtajpipaooaemdaaGreatDoorCanonPt
import Derived.Test.YtajpipaooaemdaaGreatDoorTree
import Derived.Test.YtajpipaooaemdaaGreatDoorCanRead
import Derived.Test.YtajpipaooaemdaaGreatDoorShape
import Derived.Test.YtajpipaooaemdaaGreatDoorShapeP
namespace Go.Proofs.YtajpipaooaemdaaGreatDoor
open Go.RowKit

def kdV (x : Nn) (k : Fo) : Int := if x.leaf then 1 else kindN k.len
theorem kd_leaf {x : Nn} (k : Fo) (h : x.leaf = true) : kdV x k = 1 := by unfold kdV; rw [if_pos h]
theorem kd_inner {x : Nn} (k : Fo) (h : x.leaf = false) : kdV x k = kindN k.len ∧ 4 ≤ kdV x k := by
  unfold kdV
  rw [h]
  refine ⟨rfl, ?_⟩
  unfold kindN
  simp only [Bool.false_eq_true, if_false]
  split <;> (try split) <;> (try split) <;> omega
/-- Where the parts of one lie. -/
structure Dv where
  A : Option Addr
  n : Nat
  c : Nat
  Ab : Option Addr
  nb : Nat
  cb : Nat
  Ak : Option Addr
  nk : Nat
  ck : Nat
def Dv.cells (d : Dv) (x : Nn) (k : Fo) : List Value := [.int .i64 (kdV x k), .slice d.A d.n d.c, .bool x.has, .int .u64 x.val, .slice d.Ab d.nb d.cb, .slice d.Ak d.nk d.ck]
structure Dat (w : World) (B : Nat) (x : Nn) (k : Fo) (d : Dv) (ek : List (List Value)) : Prop where
  part : Byt w B d.A d.n x.part
  pr : d.n ≤ d.c
  byt : Byt w B d.Ab d.nb k.bytes
  br : d.nb ≤ d.cb
  row : Rws w B d.Ak d.nk 6 ek
  kr : d.nk ≤ d.ck
def Fo.Dis (w : World) (B : Nat) : Fo → List (List Value) → Prop
  | .nil, css => css = []
  | .cons _ x k r, css => ∃ d ek er, css = d.cells x k :: er ∧ Dat w B x k d ek ∧ Fo.Dis w B k ek ∧ Fo.Dis w B r er
/-- The cells cs are the document's tree. -/
def Dno (w : World) (B : Nat) (x : Nn) (k : Fo) (cs : List Value) : Prop := ∃ d ek, cs = d.cells x k ∧ Dat w B x k d ek ∧ k.Dis w B ek
section
variable {w w' : World} {B B' : Nat}
theorem Dat.below {x : Nn} {k : Fo} {d : Dv} {ek : List (List Value)} (h : Dat w B x k d ek) (hb : Below B w w') : Dat w' B x k d ek := ⟨h.part.below hb, h.pr, h.byt.below hb, h.br, h.row.below hb, h.kr⟩
theorem Dat.more {x : Nn} {k : Fo} {d : Dv} {ek : List (List Value)} (h : Dat w B x k d ek) (hB : B ≤ B') : Dat w B' x k d ek := ⟨h.part.more hB, h.pr, h.byt.more hB, h.br, h.row.more hB, h.kr⟩
theorem Fo.Dis.below (hb : Below B w w') : ∀ {k : Fo} {css : List (List Value)}, k.Dis w B css → k.Dis w' B css
  | .nil, _, h => h
  | .cons _ _ _ _, _, ⟨d, ek, er, e, h1, h2, h3⟩ => ⟨d, ek, er, e, h1.below hb, Fo.Dis.below hb h2, Fo.Dis.below hb h3⟩
theorem Fo.Dis.more (hB : B ≤ B') : ∀ {k : Fo} {css : List (List Value)}, k.Dis w B css → k.Dis w B' css
  | .nil, _, h => h
  | .cons _ _ _ _, _, ⟨d, ek, er, e, h1, h2, h3⟩ => ⟨d, ek, er, e, h1.more hB, Fo.Dis.more hB h2, Fo.Dis.more hB h3⟩
theorem Fo.Dis.len : ∀ {k : Fo} {css : List (List Value)}, k.Dis w B css → css.length = k.len
  | .nil, _, h => by cases h; rfl
  | .cons _ _ _ _, _, ⟨_, _, _, e, _, _, h3⟩ => by subst e; simp [Fo.len, Fo.Dis.len h3]
theorem Dno.below {x : Nn} {k : Fo} {cs : List Value} (h : Dno w B x k cs) (hb : Below B w w') : Dno w' B x k cs := by
  obtain ⟨d, ek, e, h1, h2⟩ := h
  exact ⟨d, ek, e, h1.below hb, h2.below hb⟩
theorem Dno.more {x : Nn} {k : Fo} {cs : List Value} (h : Dno w B x k cs) (hB : B ≤ B') : Dno w B' x k cs := by
  obtain ⟨d, ek, e, h1, h2⟩ := h
  exact ⟨d, ek, e, h1.more hB, h2.more hB⟩
theorem drop_cons {α : Type} {l : List α} {j : Nat} {a : α} {r : List α} (h : l.drop j = a :: r) : l[j]? = some a ∧ l.drop (j + 1) = r := by
  have h0 : (l.drop j)[0]? = some a := by rw [h]; rfl
  rw [List.getElem?_drop, Nat.add_zero] at h0
  refine ⟨h0, ?_⟩
  rw [← List.drop_drop, h]
  rfl
theorem Fo.Dis.at_ {r : Fo} {ek : List (List Value)} {j : Nat} (h : r.Dis w B (ek.drop j)) (hj : j < ek.length) :
    ∃ b x k r' d e2, r = .cons b x k r' ∧ ek[j]? = some (d.cells x k) ∧ Dat w B x k d e2 ∧ k.Dis w B e2 ∧ r'.Dis w B (ek.drop (j + 1)) := by
  cases r with
  | nil =>
    have : ek.drop j = [] := h
    have := congrArg List.length this
    simp at this
    omega
  | cons b x k r' =>
    obtain ⟨d, e2, er, e, h1, h2, h3⟩ := h
    obtain ⟨q1, q2⟩ := drop_cons e
    exact ⟨b, x, k, r', d, e2, rfl, q1, h1, h2, by rw [q2]; exact h3⟩
theorem Fo.Dis.done {r : Fo} {ek : List (List Value)} {j : Nat} (h : r.Dis w B (ek.drop j)) (hj : ek.length ≤ j) : r = .nil := by
  cases r with
  | nil => rfl
  | cons b x k r' =>
    obtain ⟨d, e2, er, e, _⟩ := h
    rw [List.drop_of_length_le hj] at e
    cases e
/-- A kid in its row. -/
theorem kid_cells {A : Option Addr} {n j : Nat} {ek : List (List Value)} (h : Rws w B A n 6 ek) (hj : j < n) {d : Dv} {x : Nn} {k : Fo} (he : ek[j]? = some (d.cells x k)) :
    ∃ ad : Addr, A = some ad ∧ ad.block < B ∧ w.cell? (ad.add (j * 6)) = some (.int .i64 (kdV x k)) ∧ w.cell? ⟨(ad.add (j * 6)).block, (ad.add (j * 6)).off + 1, none⟩ = some (.slice d.A d.n d.c) ∧ w.cell? ⟨(ad.add (j * 6)).block, (ad.add (j * 6)).off + 2, none⟩ = some (.bool x.has) ∧
      w.cell? ⟨(ad.add (j * 6)).block, (ad.add (j * 6)).off + 3, none⟩ = some (.int .u64 x.val) ∧ w.cell? ⟨(ad.add (j * 6)).block, (ad.add (j * 6)).off + 4, none⟩ = some (.slice d.Ab d.nb d.cb) ∧ w.cell? ⟨(ad.add (j * 6)).block, (ad.add (j * 6)).off + 5, none⟩ = some (.slice d.Ak d.nk d.ck) := by
  obtain ⟨ad, c, rfl, hlt, e1, _, g⟩ := h.at_ hj
  rw [he] at e1
  injection e1 with e1
  subst e1
  refine ⟨ad, rfl, hlt, ?_, ?_, ?_, ?_, ?_, ?_⟩
  · have := g 0 _ rfl; rwa [Nat.add_zero] at this
  · rw [show (⟨(ad.add (j * 6)).block, (ad.add (j * 6)).off + 1, none⟩ : Addr) = ad.add (j * 6 + 1) by rw [← add_of_add]; rfl]; exact g 1 _ rfl
  · rw [show (⟨(ad.add (j * 6)).block, (ad.add (j * 6)).off + 2, none⟩ : Addr) = ad.add (j * 6 + 2) by rw [← add_of_add]; rfl]; exact g 2 _ rfl
  · rw [show (⟨(ad.add (j * 6)).block, (ad.add (j * 6)).off + 3, none⟩ : Addr) = ad.add (j * 6 + 3) by rw [← add_of_add]; rfl]; exact g 3 _ rfl
  · rw [show (⟨(ad.add (j * 6)).block, (ad.add (j * 6)).off + 4, none⟩ : Addr) = ad.add (j * 6 + 4) by rw [← add_of_add]; rfl]; exact g 4 _ rfl
  · rw [show (⟨(ad.add (j * 6)).block, (ad.add (j * 6)).off + 5, none⟩ : Addr) = ad.add (j * 6 + 5) by rw [← add_of_add]; rfl]; exact g 5 _ rfl
end
def Fo.dep : Fo → Nat
  | .nil => 0
  | .cons _ _ k r => max (k.dep + 1) r.dep
abbrev dArr (kd : Int) (d : Dv) (has : Bool) (val : Int) : Array Value := #[.int .i64 kd, .slice d.A d.n d.c, .bool has, .int .u64 val, .slice d.Ab d.nb d.cb, .slice d.Ak d.nk d.ck]
end Go.Proofs.YtajpipaooaemdaaGreatDoor

namespace Go.Proofs.YtajpipaooaemdaaGreatDoor
open Go.RowKit

theorem dec_extract : ∀ h : Fin 10, (ByteArray.mk #[48, 49, 50, 51, 52, 53, 54, 55, 56, 57]).extract h.val (h.val + 1) = ByteArray.mk #[UInt8.ofNat (48 + h.val)] := by decide +kernel
set_option maxRecDepth 100000 in
theorem slice_dec (h : Nat) (hh : h < 10) (W : World) : (Instr.slice 9 (.string (ByteArray.mk #[48, 49, 50, 51, 52, 53, 54, 55, 56, 57])) (some (.int .i64 (h : Int))) (some (.int .i64 ((h : Int) + 1))) none).run Tryz.prog W = .ok (.string (bstr [UInt8.ofNat (48 + h)])) W := by
  have e := dec_extract ⟨h, hh⟩
  have := run_slice_string (P := Tryz.prog) (w := W) 9 (ByteArray.mk #[48, 49, 50, 51, 52, 53, 54, 55, 56, 57]) .i64 .i64 (h : Int) ((h : Int) + 1) Tryz.underlying9 (by omega) (by omega) (by show (h : Int) + 1 ≤ 10; omega)
  rw [this]
  congr 2
theorem dec_small {v : Nat} (h : v / 10 = 0) : Lib.decDigits v = [UInt8.ofNat (48 + v % 10)] := by
  have : v < 10 := by omega
  rw [Lib.decDigits, dif_pos this, Nat.mod_eq_of_lt this]
theorem dec_big {v : Nat} (h : ¬ v / 10 = 0) : Lib.decDigits v = Lib.decDigits (v / 10) ++ [UInt8.ofNat (48 + v % 10)] := by
  rw [Lib.decDigits, dif_neg (by omega)]

set_option maxRecDepth 100000 in
set_option maxHeartbeats 1000000 in
theorem rdigits_any (u : Nat) (hu : u ≤ 18446744073709551615) (w : World) : Calls Tryz.prog 57 #[.int .u64 (u : Int)] w fun e w' => e = .returned (.string (bstr (Lib.decDigits u))) ∧ Still w w' := by
  have hdl := dec_len u (by omega)
  have HDL := Lib.hid hdl
  clear hdl
  go_enter Tryz.func57, Tryz.ntmps57
  go_wp2
  go_loopw [0, 3] (fun nv sv wr => ∃ (v : Nat) (suf : List UInt8), nv = .int .u64 v ∧ sv = .string (bstr suf) ∧ v ≤ 18446744073709551615 ∧ Hid (Lib.decDigits u = Lib.decDigits v ++ suf) ∧ Still w wr) (fun nv _ _ => (intOf nv).toNat)
  case atStart => exact ⟨u, [], rfl, rfl, hu, Lib.hid (by rw [List.append_nil]), Still.refl _⟩
  case round =>
    obtain ⟨v, suf, rfl, rfl, hv, HD, q, rfl⟩ := hrel
    have hsl : suf.length ≤ 20 := by
      have := congrArg List.length HD.out
      rw [List.length_append] at this
      have := HDL.out
      omega
    obtain ⟨dg, hdg⟩ : ∃ d, v % 10 = d := ⟨_, rfl⟩
    obtain ⟨v2, hv2⟩ : ∃ d, v / 10 = d := ⟨_, rfl⟩
    have hd10 : dg < 10 := by omega
    have q1 : (v : Int).tmod 10 = dg := by rw [Int.tmod_eq_emod_of_nonneg (by omega)]; omega
    have q2 : (v : Int).tdiv 10 = v2 := by rw [Int.tdiv_eq_ediv_of_nonneg (by omega)]; omega
    have sl := slice_dec dg hd10
    have w1 : IntKind.i64.wrap ((dg : Int) + 1) = (dg : Int) + 1 := IntWalk.i64_in _ (by omega)
    obtain ⟨ch, hch⟩ : ∃ c, UInt8.ofNat (48 + dg) = c := ⟨_, rfl⟩
    rw [hch] at sl
    have HCH := Lib.hid hch
    have hsz : (bstr [ch]).size = 1 := bstr_size _
    have hsz2 : (bstr suf).size ≤ 20 := by rw [bstr_size]; exact hsl
    have HAP := Lib.hid (show bstr [ch] ++ bstr suf = bstr (ch :: suf) from bstr_append _ _)
    by_cases hz : v2 = 0
    · have HE := Lib.hid (show Lib.decDigits u = ch :: suf by rw [HD.out, dec_small (by omega), hdg, HCH.out]; rfl)
      have hz2 : ((v2 : Int) == 0) = true := by rw [beq_iff_eq]; omega
      clear hdg hv2 hch
      go_wp2
      go_ret
      exact ⟨by rw [HE.out, ← HAP.out]; rfl, (by repeat (first | exact Still.refl _ | apply Still.step))⟩
    · have HE := Lib.hid (show Lib.decDigits u = Lib.decDigits v2 ++ (ch :: suf) by rw [HD.out, dec_big (by omega), hdg, hv2, HCH.out, List.append_assoc]; rfl)
      have hz2 : ((v2 : Int) == 0) = false := by rw [beq_eq_false_iff_ne]; omega
      have hlt : v2 < v := by omega
      clear hdg hv2 hch
      go_wp2
      exact ⟨⟨v2, ch :: suf, by go_num, by rw [← HAP.out], by omega, HE, (by repeat (first | exact Still.refl _ | apply Still.step))⟩, by simp [intOf]; omega⟩
end Go.Proofs.YtajpipaooaemdaaGreatDoor

namespace Go.Proofs.YtajpipaooaemdaaGreatDoor
open Go.RowKit

def RShOk (x : Nn) (k : Fo) : Prop := ∀ (B : Nat) (w : World) (cs : List Value), Dno w B x k cs → B ≤ w.heap.size → lfN x k → k.lf → x.ok → k.ok → (shL x k).length ≤ 1000000000 →
  Calls Tryz.prog 32 #[.agg cs.toArray] w fun e w' => e = .returned (.string (bstr (shL x k))) ∧ Below w.heap.size w w'
theorem valL_yes {x : Nn} (h : x.has = true) : valL x = 61 :: Lib.decDigits x.val.toNat := by unfold valL; rw [if_pos h]
theorem valL_no {x : Nn} (h : x.has = false) : valL x = [] := by unfold valL; rw [h]; rfl
theorem bstr_lit1 (c : UInt8) : (ByteArray.mk #[c]) = bstr [c] := rfl
abbrev dCells (V : World) (ad : Addr) (kd : Int) (d : Dv) (has : Bool) (val : Int) : Prop := V.cell? ad = some (.int .i64 kd) ∧ V.cell? ⟨ad.block, ad.off + 1, none⟩ = some (.slice d.A d.n d.c) ∧ V.cell? ⟨ad.block, ad.off + 2, none⟩ = some (.bool has) ∧
  V.cell? ⟨ad.block, ad.off + 3, none⟩ = some (.int .u64 val) ∧ V.cell? ⟨ad.block, ad.off + 4, none⟩ = some (.slice d.Ab d.nb d.cb) ∧ V.cell? ⟨ad.block, ad.off + 5, none⟩ = some (.slice d.Ak d.nk d.ck)
set_option maxRecDepth 100000 in
set_option maxHeartbeats 4000000 in
theorem rshape_step (x : Nn) (k : Fo) (hK : k.All fun _ x k => RShOk x k) : RShOk x k := by
  intro B w cs hd hB hlf hkf hxo hko hln
  obtain ⟨d, ek, rfl, ha, hkid⟩ := hd
  have hl : ek.length = d.nk := ha.row.1
  have hkr := ha.kr
  have hnk : d.nk = k.len := by rw [← hl]; exact hkid.len
  have hn9 : d.nk ≤ 9223372036854775807 := by have := ha.row.2.1; unfold maxLen at this; omega
  show Calls Tryz.prog 32 #[.agg (dArr (kdV x k) d x.has x.val)] w _
  have hkl := fun h => kd_leaf (x := x) k h
  have hki := fun h => (kd_inner (x := x) k h)
  have HSH := Lib.hid (show shL x k = (begL x k.len ++ textL x.part) ++ valL x ++ k.sh ++ endL x from rfl)
  have hbl : k.bytes.length = d.nb := ha.byt.1
  have hbk : d.nb = k.len := by rw [← hbl]; exact Fo.bytes_len k
  obtain ⟨u, hu⟩ : ∃ u : Nat, x.val = (u : Int) := ⟨x.val.toNat, by have := hxo.2.1; omega⟩
  have hu2 : u ≤ 18446744073709551615 := by have := hxo.2.2; omega
  have hvy := fun h => valL_yes (x := x) h
  have hvn := fun h => valL_no (x := x) h
  have hpt : x.part.length ≤ 70000 := hxo.1
  have hlfx : x.leaf = true → k = .nil ∧ x.has = true := hlf
  have hbeg : begL x k.len = if x.leaf then [76] else Lib.decDigits (kindN d.nk) ++ [60] := by rw [hnk]; rfl
  have hend : endL x = if x.leaf then [] else [62] := rfl
  rw [hu] at hvy ⊢
  rw [Int.toNat_natCast] at hvy
  generalize kdV x k = kd at hkl hki ⊢
  generalize x.has = hs at hvy hvn hlfx ⊢
  generalize x.leaf = lf at hkl hki hlfx hbeg hend
  obtain ⟨vl, hvl⟩ : ∃ v : Int, (u : Int) = v := ⟨_, rfl⟩
  rw [hvl]
  obtain ⟨W, hW⟩ : ∃ V, w.alloc (.cells (dArr kd d hs vl) 69) = V := ⟨_, rfl⟩
  have bW : Below w.heap.size w W := by rw [← hW]; exact (Below.refl _ _).alloc (Nat.le_refl _) _
  have sW : W.heap.size = w.heap.size + 1 := by rw [← hW]; simp
  have lW : Blk W w.heap.size (dArr kd d hs vl) := by rw [← hW]; exact Blk.new w _ _
  have KC0 := Lib.hid (fun V (h : Below W.heap.size W V) => show V.cell? ⟨w.heap.size, 0, none⟩ = some (.int .i64 kd) from (h.cell (p := ⟨w.heap.size, 0, none⟩) (by show w.heap.size < _; omega)).trans (lW.cell 0))
  have KC1 := Lib.hid (fun V (h : Below W.heap.size W V) => show V.cell? ⟨w.heap.size, 1, none⟩ = some (.slice d.A d.n d.c) from (h.cell (p := ⟨w.heap.size, 1, none⟩) (by show w.heap.size < _; omega)).trans (lW.cell 1))
  have KC2 := Lib.hid (fun V (h : Below W.heap.size W V) => show V.cell? ⟨w.heap.size, 2, none⟩ = some (.bool hs) from (h.cell (p := ⟨w.heap.size, 2, none⟩) (by show w.heap.size < _; omega)).trans (lW.cell 2))
  have KC3 := Lib.hid (fun V (h : Below W.heap.size W V) => show V.cell? ⟨w.heap.size, 3, none⟩ = some (.int .u64 vl) from (h.cell (p := ⟨w.heap.size, 3, none⟩) (by show w.heap.size < _; omega)).trans (lW.cell 3))
  have KC4 := Lib.hid (fun V (h : Below W.heap.size W V) => show V.cell? ⟨w.heap.size, 4, none⟩ = some (.slice d.Ab d.nb d.cb) from (h.cell (p := ⟨w.heap.size, 4, none⟩) (by show w.heap.size < _; omega)).trans (lW.cell 4))
  have KC5 := Lib.hid (fun V (h : Below W.heap.size W V) => show V.cell? ⟨w.heap.size, 5, none⟩ = some (.slice d.Ak d.nk d.ck) from (h.cell (p := ⟨w.heap.size, 5, none⟩) (by show w.heap.size < _; omega)).trans (lW.cell 5))
  have BW := Lib.hid bW
  have HR := Lib.hid (fun V (h : Below W.heap.size W V) => (ha.row.below ((bW.trans (h.mono bW.size)).mono hB)))
  have HD := Lib.hid (fun V (h : Below W.heap.size W V) => ((bW.trans (h.mono bW.size)).mono hB : Below B w V))
  have HL := Lib.hid hl
  have HB := Lib.hid hB
  have HKA := Lib.hid hK
  have HKD := Lib.hid hkid
  have HPT := Lib.hid (fun V (h : Below W.heap.size W V) => (ha.part.below ((bW.trans (h.mono bW.size)).mono hB)))
  have HBY := Lib.hid (fun V (h : Below W.heap.size W V) => (ha.byt.below ((bW.trans (h.mono bW.size)).mono hB)))
  have hBW : B ≤ W.heap.size := by omega
  have HTX := Lib.hid (fun V (h : Below W.heap.size W V) => rtext_any d.A d.n d.c B x.part V (ha.part.below ((bW.trans (h.mono bW.size)).mono hB)) (by have := ha.part.1; omega))
  have HDG := Lib.hid (fun V => rdigits_any u hu2 V)
  rw [hvl] at HDG
  have HTL := Lib.hid (show (bstr (textL x.part)).size ≤ 140000 by rw [bstr_size, textL_length]; omega)
  have HDL := Lib.hid (show (bstr (Lib.decDigits u)).size ≤ 20 by rw [bstr_size]; exact dec_len u (by omega))
  obtain ⟨tx, htx⟩ : ∃ t, bstr (textL x.part) = t := ⟨_, rfl⟩
  obtain ⟨dg, hdg⟩ : ∃ t, bstr (Lib.decDigits u) = t := ⟨_, rfl⟩
  rw [htx] at HTX HTL
  rw [hdg] at HDG HDL
  have HTE := Lib.hid htx
  have HDE := Lib.hid hdg
  have hts := HTL.out
  have hds := HDL.out
  have c0 := KC0.out W (Below.refl _ _)
  have c1 := KC1.out W (Below.refl _ _)
  have c2 := KC2.out W (Below.refl _ _)
  have c3 := KC3.out W (Below.refl _ _)
  have HHF := Lib.hid (And.intro hkf hko)
  have HLN := Lib.hid hln
  have HV := Lib.hid (And.intro hvy hvn)
  have HBL := Lib.hid (show d.nb = d.nk by omega)
  have SW := Lib.hid bW.size
  clear ha hkid hl hB hK bW lW hnk htx hdg hxo hlf hkf hko hln hvy hvn hbl hbk
  cases lf with
  | true =>
    obtain rfl : kd = 1 := hkl rfl
    obtain ⟨rfl, rfl⟩ := hlfx rfl
    have HR2 := Lib.hid (show shL x .nil = 76 :: textL x.part ++ 61 :: Lib.decDigits u by rw [HSH.out, HV.out.1 rfl, hbeg, hend]; simp [Fo.sh])
    clear hkl hki hbeg hend hlfx
    go_enter Tryz.func32, Tryz.ntmps32
    go_wp2
    go_quiet (first | (go_at_call 56; exact quiet_st1 (HTX.out _ (Still.below (w := W) ⟨_, rfl⟩ _))) | (go_at_call 57; exact quiet_st1 (HDG.out _)))
    go_wp2
    go_ret
    refine ⟨ret_str ?_, ?_⟩
    · rw [HR2.out, ← HTE.out, ← HDE.out, bstr_lit1, bstr_lit1, bstr_append, bstr_append, bstr_append]
      simp
    · refine (?g : ∀ V, Still W V → Below w.heap.size w V) _ ?st
      case st => repeat (first | exact Still.refl _ | apply Still.step)
      exact fun V hV => BW.out.trans (hV.below _)
  | false =>
    obtain ⟨hkk, hk4⟩ := hki rfl
    have hk0 : (kd == 0) = false := by rw [beq_eq_false_iff_ne]; omega
    have hk1 : (kd == 1) = false := by rw [beq_eq_false_iff_ne]; omega
    have hkq : kd = ((kindN d.nk : Nat) : Int) := by rw [hkk]; have := HKD.out.len; have := HL.out; congr 2; omega
    have HR2 := Lib.hid (show shL x k = (Lib.decDigits (kindN d.nk) ++ [60]) ++ textL x.part ++ valL x ++ k.sh ++ [62] by rw [HSH.out, hbeg, hend]; rfl)
    obtain ⟨kn, hkn⟩ : ∃ q, kindN d.nk = q := ⟨_, rfl⟩
    have hkn2 : kn ≤ 256 := by rw [← hkn]; unfold kindN; split <;> (try split) <;> (try split) <;> omega
    rw [hkn] at hkq HR2
    have HDK := Lib.hid (fun V => rdigits_any kn (by omega) V)
    have hkdl : (bstr (Lib.decDigits kn)).size ≤ 20 := by rw [bstr_size]; exact dec_len kn (by omega)
    obtain ⟨ks, hks⟩ : ∃ t, bstr (Lib.decDigits kn) = t := ⟨_, rfl⟩
    rw [hks] at HDK hkdl
    have HKS := Lib.hid hks
    rw [← hkq] at HDK
    have hkr2 : 4 ≤ kd ∧ kd ≤ 256 := by omega
    obtain ⟨hkr3, hkr4⟩ := hkr2
    have HKQ := Lib.hid hkq
    clear hkl hki hbeg hend hlfx hkk hkn hks hkq
    have hwr : IntKind.u64.wrap kd = kd := IntWalk.u64_in _ (by omega)
    cases hs with
    | true =>
      have HPR := Lib.hid (show ks ++ ByteArray.mk #[60] ++ tx ++ (ByteArray.mk #[61] ++ dg) = bstr ((Lib.decDigits kn ++ [60]) ++ textL x.part ++ valL x) by rw [← HTE.out, ← HDE.out, ← HKS.out, HV.out.1 rfl, bstr_lit1, bstr_lit1, bstr_append, bstr_append, bstr_append, bstr_append]; simp)
      go_enter Tryz.func32, Tryz.ntmps32
      go_wp2
      go_quiet (first | (go_at_call 56; exact quiet_st1 (HTX.out _ (Still.below (w := W) ⟨_, rfl⟩ _))) | (go_at_call 57; exact quiet_st1 (HDK.out _)))
      refine (?bodyB : ∀ V, Still W V → Exit.then _ _ _ _ V) _ ?stB
      case stB => repeat (first | exact Still.refl _ | apply Still.step)
      intro V hV
      have c2 := KC2.out V (hV.below _)
      have c3 := KC3.out V (hV.below _)
      have HG := Lib.hid (HDG.out V)
      go_wp2_with fail
      (with_reducible refine HG.out.mono ?_)
      rintro e V2 ⟨rfl, hV2⟩
      have BV := Lib.hid ((hV.trans hV2).below W.heap.size)
      clear hV hV2 c2 c3 c0 c1 HG
      go_wp2_with fail
      go_loopw [3, 4] (fun sv i wr => ∃ (j : Nat) (s : ByteArray) (r : Fo) (done : List UInt8), j ≤ d.nk ∧ i = .int .i64 j ∧ sv = .string s ∧ s.size ≤ 1000000000 ∧ Hid (s = bstr (((Lib.decDigits kn ++ [60]) ++ textL x.part ++ valL x) ++ done) ∧ k.sh = done ++ r.sh) ∧ Hid ((r.All fun _ x k => RShOk x k) ∧ r.lf ∧ r.ok ∧ k.bytes.drop j = r.bytes ∧ r.Dis w B (ek.drop j)) ∧ Hid (Below W.heap.size W wr)) (fun _ i _ => d.nk - (intOf i).toNat)
      case atStart => exact ⟨0, _, k, [], Nat.zero_le _, rfl, rfl, by rw [HPR.out, bstr_size]; have := HLN.out; rw [HR2.out] at this; simp only [List.length_append] at this ⊢; omega, Lib.hid ⟨by rw [List.append_nil]; exact HPR.out, rfl⟩, Lib.hid ⟨HKA.out, HHF.out.1, HHF.out.2, rfl, HKD.out⟩, BV⟩
      case round =>
        obtain ⟨j, s, r, done, hj, rfl, rfl, hs, HS, HF, HBr⟩ := hrel
        have c5 := KC5.out wr HBr.out
        by_cases h1 : j < d.nk
        · obtain ⟨hall, hrf, hro, hrb, hdis⟩ := HF.out
          obtain ⟨b, x', k', r', d', e2, rfl, hej, hat, hk2, hr2⟩ := hdis.at_ (by have := HL.out; omega)
          obtain ⟨ad, hA, hlt, _⟩ := kid_cells (HR.out wr HBr.out) h1 hej
          obtain ⟨adb, b', hAb, _, hb1, _⟩ := (HBY.out wr HBr.out).at_ (show j < d.nb by rw [HBL.out]; exact h1)
          obtain ⟨q1, q2⟩ := drop_cons (show k.bytes.drop j = b :: r'.bytes from hrb)
          rw [q1] at hb1
          injection hb1 with hb1
          subst hb1
          have hsh : k.sh = done ++ ((58 :: textL [b]) ++ shL x' k' ++ r'.sh) := HS.out.2
          have hlen : s.size + (textL [b]).length + 1 + (shL x' k').length ≤ 1000000000 := by
            have h3 := HLN.out
            have h4 := congrArg List.length hsh
            rw [HS.out.1, bstr_size]
            rw [HR2.out] at h3
            simp only [List.length_append, List.length_cons, List.length_nil] at h3 h4 ⊢
            omega
          have HC := Lib.hid (fun V (hb : Below W.heap.size W V) => hall.1 B V (d'.cells x' k') ⟨d', e2, rfl, hat.below (HD.out V hb), hk2.below (HD.out V hb)⟩ (Nat.le_trans HB.out (Nat.le_trans SW.out hb.size)) hrf.1 hrf.2.1 hro.1 hro.2.1 (by omega))
          have hck : (d'.cells x' k').toArray = dArr (kdV x' k') d' x'.has x'.val := rfl
          rw [hck] at HC
          have SS := Lib.hid (fun V (hb : Below W.heap.size W V) => show V.cell? ⟨w.heap.size, 4, none⟩ = some (.slice (some adb) d.nk d.cb) ∧ V.cell? ⟨w.heap.size, 5, none⟩ = some (.slice (some ad) d.nk d.ck) ∧ V.cell? (adb.add j) = some (.int .u8 (b.toNat : Int)) ∧ dCells V (ad.add (j * 6)) (kdV x' k') d' x'.has x'.val from by
            obtain ⟨ad0, hA0, _, f0, f1, f2, f3, f4, f5⟩ := kid_cells (HR.out V hb) h1 hej
            rw [hA] at hA0
            injection hA0 with hA0
            subst hA0
            obtain ⟨adb0, b0, hAb0, _, hb0, hb2⟩ := (HBY.out V hb).at_ (show j < d.nb by rw [HBL.out]; exact h1)
            rw [hAb] at hAb0
            injection hAb0 with hAb0
            subst hAb0
            rw [q1] at hb0
            injection hb0 with hb0
            subst hb0
            have g4 := KC4.out V hb
            have g5 := KC5.out V hb
            rw [hAb, HBL.out] at g4
            rw [hA] at g5
            exact ⟨g4, g5, hb2, f0, f1, f2, f3, f4, f5⟩)
          obtain ⟨sk, hsk⟩ : ∃ t, bstr (shL x' k') = t := ⟨_, rfl⟩
          have hsks : sk.size = (shL x' k').length := by rw [← hsk, bstr_size]
          have htb : (textL [b]).length = 2 := by rw [textL_length]; rfl
          rw [hsk] at HC
          have HS2 := Lib.hid (fun bt (hbt : bstr (textL [b]) = bt) => show s ++ (ByteArray.mk #[58] ++ bt ++ sk) = bstr (((Lib.decDigits kn ++ [60]) ++ textL x.part ++ valL x) ++ (done ++ ((58 :: textL [b]) ++ shL x' k'))) ∧ k.sh = (done ++ ((58 :: textL [b]) ++ shL x' k')) ++ r'.sh from
            ⟨by rw [HS.out.1, ← hbt, ← hsk, bstr_lit1, bstr_append, bstr_append, bstr_append]; simp, by rw [hsh]; simp⟩)
          have HF2 := Lib.hid (show (r'.All fun _ x k => RShOk x k) ∧ r'.lf ∧ r'.ok ∧ k.bytes.drop (j + 1) = r'.bytes ∧ r'.Dis w B (ek.drop (j + 1)) from ⟨hall.2, hrf.2.2, hro.2.2, q2, hr2⟩)
          have hss : s.size + 3 + sk.size ≤ 1000000000 := by omega
          generalize kdV x' k' = kd' at SS HC
          have ij : (j : Int) < (d.nk : Int) := by omega
          rw [hA] at c5
          clear hA hAb hall hrf hro hrb hdis hej hat hk2 hr2 hsk hck HF q1 q2 hsh hlen hsks htb hlt
          go_wp2_with fail
          refine wp_region_held_drew (S := (fun V => V.cell? ⟨w.heap.size, 4, none⟩ = some (.slice (some adb) d.nk d.cb) ∧ V.cell? ⟨w.heap.size, 5, none⟩ = some (.slice (some ad) d.nk d.ck) ∧ V.cell? (adb.add j) = some (.int .u8 (b.toNat : Int)) ∧ dCells V (ad.add (j * 6)) kd' d' x'.has x'.val)) (by kernel_rfl) (SS.out _ HBr.out.drew) (fun hHeld => ?_)
          refine wpAnyH_take (i := 0) (oi := { dst := some 44, op := Op.move (Operand.tmp 3), type := 9, pos := "ref.go:139", after := #[], guard := none }) (v := ?v1) rfl (by kernel_rfl) (by kernel_rfl) (by kernel_rfl) (fun _ _ _ h => h) (Or.inl ⟨by rfl, ?hy1⟩) hHeld ?rest1
          case hy1 => (intro w' hSw; (try dsimp only at hSw); go_simp; (try with_reducible rfl))
          try simp only [Act.put, List.setIfInBounds_toArray, List.set_cons_zero, List.set_cons_succ]
          refine wpAnyH_take (i := 1) (oi := { dst := some 45, op := Op.fieldAddr 69 (Operand.tmp 1) 4, type := 0, pos := "ref.go:139", after := #[], guard := none }) (v := ?v2) rfl (by kernel_rfl) (by kernel_rfl) (by kernel_rfl) (fun _ _ _ h => h) (Or.inl ⟨by rfl, ?hy2⟩) hHeld ?rest2
          case hy2 => (intro w' hSw; (try dsimp only at hSw); go_simp; (try with_reducible rfl))
          try simp only [Act.put, List.setIfInBounds_toArray, List.set_cons_zero, List.set_cons_succ]
          refine wpAnyH_take (i := 2) (oi := { dst := some 46, op := Op.load 23 (Operand.tmp 45), type := 23, pos := "ref.go:139", after := #[{ on := 1, ground := Ground.data }], guard := none }) (v := ?v3) rfl (by kernel_rfl) (by kernel_rfl) (by kernel_rfl) (fun _ _ _ h => h) (Or.inl ⟨by rfl, ?hy3⟩) hHeld ?rest3
          case hy3 => (intro w' hSw; (try dsimp only at hSw); go_simp; (try with_reducible rfl))
          try simp only [Act.put, List.setIfInBounds_toArray, List.set_cons_zero, List.set_cons_succ]
          refine wpAnyH_take (i := 3) (oi := { dst := some 47, op := Op.move (Operand.tmp 4), type := 3, pos := "ref.go:139", after := #[], guard := none }) (v := ?v4) rfl (by kernel_rfl) (by kernel_rfl) (by kernel_rfl) (fun _ _ _ h => h) (Or.inl ⟨by rfl, ?hy4⟩) hHeld ?rest4
          case hy4 => (intro w' hSw; (try dsimp only at hSw); go_simp; (try with_reducible rfl))
          try simp only [Act.put, List.setIfInBounds_toArray, List.set_cons_zero, List.set_cons_succ]
          refine wpAnyH_take (i := 4) (oi := { dst := some 48, op := Op.indexAddr 23 (Operand.tmp 46) (Operand.tmp 47), type := 0, pos := "ref.go:139", after := #[{ on := 2, ground := Ground.data }, { on := 3, ground := Ground.data }], guard := none }) (v := ?v5) rfl (by kernel_rfl) (by kernel_rfl) (by kernel_rfl) (fun _ _ _ h => h) (Or.inl ⟨by rfl, ?hy5⟩) hHeld ?rest5
          case hy5 => (intro w' hSw; (try dsimp only at hSw); go_simp; (try with_reducible rfl))
          try simp only [Act.put, List.setIfInBounds_toArray, List.set_cons_zero, List.set_cons_succ]
          refine wpAnyH_take (i := 5) (oi := { dst := some 49, op := Op.load 5 (Operand.tmp 48), type := 5, pos := "ref.go:139", after := #[{ on := 4, ground := Ground.data }], guard := none }) (v := ?v6) rfl (by kernel_rfl) (by kernel_rfl) (by kernel_rfl) (fun _ _ _ h => h) (Or.inl ⟨by rfl, ?hy6⟩) hHeld ?rest6
          case hy6 => (intro w' hSw; (try dsimp only at hSw); go_simp; (try with_reducible rfl))
          try simp only [Act.put, List.setIfInBounds_toArray, List.set_cons_zero, List.set_cons_succ]
          refine wpAnyH_take (i := 9) (oi := { dst := some 53, op := Op.fieldAddr 69 (Operand.tmp 1) 5, type := 0, pos := "ref.go:139", after := #[], guard := none }) (v := ?v7) rfl (by kernel_rfl) (by kernel_rfl) (by kernel_rfl) (fun _ _ _ h => h) (Or.inl ⟨by rfl, ?hy7⟩) hHeld ?rest7
          case hy7 => (intro w' hSw; (try dsimp only at hSw); go_simp; (try with_reducible rfl))
          try simp only [Act.put, List.setIfInBounds_toArray, List.set_cons_zero, List.set_cons_succ]
          refine wpAnyH_take (i := 10) (oi := { dst := some 54, op := Op.load 67 (Operand.tmp 53), type := 67, pos := "ref.go:139", after := #[{ on := 9, ground := Ground.data }], guard := none }) (v := ?v8) rfl (by kernel_rfl) (by kernel_rfl) (by kernel_rfl) (fun _ _ _ h => h) (Or.inl ⟨by rfl, ?hy8⟩) hHeld ?rest8
          case hy8 => (intro w' hSw; (try dsimp only at hSw); go_simp; (try with_reducible rfl))
          try simp only [Act.put, List.setIfInBounds_toArray, List.set_cons_zero, List.set_cons_succ]
          refine wpAnyH_take (i := 11) (oi := { dst := some 55, op := Op.move (Operand.tmp 4), type := 3, pos := "ref.go:139", after := #[], guard := none }) (v := ?v9) rfl (by kernel_rfl) (by kernel_rfl) (by kernel_rfl) (fun _ _ _ h => h) (Or.inl ⟨by rfl, ?hy9⟩) hHeld ?rest9
          case hy9 => (intro w' hSw; (try dsimp only at hSw); go_simp; (try with_reducible rfl))
          try simp only [Act.put, List.setIfInBounds_toArray, List.set_cons_zero, List.set_cons_succ]
          refine wpAnyH_take (i := 12) (oi := { dst := some 56, op := Op.indexAddr 67 (Operand.tmp 54) (Operand.tmp 55), type := 0, pos := "ref.go:139", after := #[{ on := 10, ground := Ground.data }, { on := 11, ground := Ground.data }], guard := none }) (v := ?v10) rfl (by kernel_rfl) (by kernel_rfl) (by kernel_rfl) (fun _ _ _ h => h) (Or.inl ⟨by rfl, ?hy10⟩) hHeld ?rest10
          case hy10 => (intro w' hSw; (try dsimp only at hSw); go_simp; (try with_reducible rfl))
          try simp only [Act.put, List.setIfInBounds_toArray, List.set_cons_zero, List.set_cons_succ]
          refine wpAnyH_take (i := 13) (oi := { dst := some 57, op := Op.load 69 (Operand.tmp 56), type := 69, pos := "ref.go:139", after := #[{ on := 12, ground := Ground.data }], guard := none }) (v := ?v11) rfl (by kernel_rfl) (by kernel_rfl) (by kernel_rfl) (fun _ _ _ h => h) (Or.inl ⟨by rfl, ?hy11⟩) hHeld ?rest11
          case hy11 => (intro w' hSw; (try dsimp only at hSw); go_simp; (try with_reducible rfl))
          try simp only [Act.put, List.setIfInBounds_toArray, List.set_cons_zero, List.set_cons_succ]
          refine wpAnyH_ready (rs := [6]) (by kernel_rfl) (by simp) (AllReadyH.cons (o := { dst := some 50, op := Op.buildSlice 23 1 #[(0, Operand.tmp 49)], type := 23, pos := "ref.go:139", after := #[{ on := 5, ground := Ground.data }], guard := none }) rfl (fun K hK => ?_) AllReadyH.nil)
          go_simp
          obtain ⟨U3, hU3⟩ : ∃ W, (wr.alloc (.cells #[.int .u8 (b.toNat : Int)] 5)).drew = W := ⟨_, rfl⟩
          have B3 := Lib.hid (show Below W.heap.size W U3 by rw [← hU3]; exact (HBr.out.alloc HBr.out.size _).drew)
          have Y3 := Lib.hid (show Byt U3 U3.heap.size (some ⟨wr.heap.size, 0, none⟩) 1 [b] by rw [← hU3]; exact (byt_one wr 5 (u := b) rfl).more (by simp))
          rw [hU3]
          clear hU3
          refine hK.out _ _ (SS.out _ B3.out) (fun hHeld' => ?_)
          clear hK K hHeld
          have hHeld := hHeld'
          clear hHeld'
          try simp only [Act.put, List.setIfInBounds_toArray, List.set_cons_zero, List.set_cons_succ]
          refine wpAnyH_ready (rs := [7]) (by kernel_rfl) (by simp) (AllReadyH.cons (o := { dst := some 51, op := Op.call { callee := Callee.value (Operand.func 56), args := #[Operand.tmp 50], argTypes := #[23] }, type := 9, pos := "ref.go:139", after := #[{ on := 6, ground := Ground.data }], guard := none }) rfl (fun K hK => ?_) AllReadyH.nil)
          go_simp
          (with_reducible refine (rtext_any _ _ 1 U3.heap.size [b] U3 Y3.out (by omega)).mono ?_)
          rintro e U4 ⟨rfl, s4⟩
          have B4 := Lib.hid (B3.out.trans (s4.below _))
          clear s4
          obtain ⟨bt, hbt⟩ : ∃ t, bstr (textL [b]) = t := ⟨_, rfl⟩
          rw [hbt]
          have HBT := Lib.hid hbt
          have hbs : bt.size ≤ 10 := by rw [← hbt, bstr_size, textL_length]; simp
          clear hbt
          go_wp2_with fail
          refine hK.out _ _ (SS.out _ B4.out) (fun hHeld' => ?_)
          clear hK K hHeld
          have hHeld := hHeld'
          clear hHeld'
          try simp only [Act.put, List.setIfInBounds_toArray, List.set_cons_zero, List.set_cons_succ]
          refine wpAnyH_take (i := 8) (oi := { dst := some 52, op := Op.binOp BinOp.add 9 (Operand.const (Value.string { data := #[58] })) (Operand.tmp 51) 9, type := 9, pos := "ref.go:139", after := #[{ on := 7, ground := Ground.data }], guard := none }) (v := (.string (ByteArray.mk #[58] ++ bt))) rfl (by kernel_rfl) (by kernel_rfl) (by kernel_rfl) (fun _ _ _ h => h) (Or.inl ⟨by rfl, ?hyV⟩) hHeld ?_
          case hyV => (intro w' hSw; (try dsimp only at hSw); go_simp; omega)
          try simp only [Act.put, List.setIfInBounds_toArray, List.set_cons_zero, List.set_cons_succ]
          refine wpAnyH_ready (rs := [14]) (by kernel_rfl) (by simp) (AllReadyH.cons (o := { dst := some 58, op := Op.call { callee := Callee.value (Operand.func 32), args := #[Operand.tmp 57], argTypes := #[69] }, type := 9, pos := "ref.go:139", after := #[{ on := 13, ground := Ground.data }, { on := 7, ground := Ground.chain }], guard := none }) rfl (fun K hK => ?_) AllReadyH.nil)
          go_simp
          (with_reducible refine (HC.out _ B4.out).mono ?_)
          rintro e U5 ⟨rfl, q5⟩
          have B5 := Lib.hid (B4.out.trans (q5.mono B4.out.size))
          clear q5
          go_wp2_with fail
          refine hK.out _ _ (SS.out _ B5.out) (fun hHeld' => ?_)
          clear hK K hHeld
          have hHeld := hHeld'
          clear hHeld'
          try simp only [Act.put, List.setIfInBounds_toArray, List.set_cons_zero, List.set_cons_succ]
          refine wpAnyH_take (i := 15) (oi := { dst := some 59, op := Op.binOp BinOp.add 9 (Operand.tmp 52) (Operand.tmp 58) 9, type := 9, pos := "ref.go:139", after := #[{ on := 8, ground := Ground.data }, { on := 14, ground := Ground.data }], guard := none }) (v := (.string (ByteArray.mk #[58] ++ bt ++ sk))) rfl (by kernel_rfl) (by kernel_rfl) (by kernel_rfl) (fun _ _ _ h => h) (Or.inl ⟨by rfl, ?hyV⟩) hHeld ?_
          case hyV => (intro w' hSw; (try dsimp only at hSw); go_simp; omega)
          try simp only [Act.put, List.setIfInBounds_toArray, List.set_cons_zero, List.set_cons_succ]
          refine wpAnyH_take (i := 16) (oi := { dst := some 60, op := Op.binOp BinOp.add 9 (Operand.tmp 44) (Operand.tmp 59) 9, type := 9, pos := "ref.go:139", after := #[{ on := 0, ground := Ground.data }, { on := 15, ground := Ground.data }], guard := none }) (v := (.string (s ++ (ByteArray.mk #[58] ++ bt ++ sk)))) rfl (by kernel_rfl) (by kernel_rfl) (by kernel_rfl) (fun _ _ _ h => h) (Or.inl ⟨by rfl, ?hyV⟩) hHeld ?_
          case hyV => (intro w' hSw; (try dsimp only at hSw); go_simp; omega)
          try simp only [Act.put, List.setIfInBounds_toArray, List.set_cons_zero, List.set_cons_succ]
          refine wpAnyH_take (i := 17) (oi := { dst := some 3, op := Op.assign (Operand.tmp 60), type := 9, pos := "ref.go:139", after := #[{ on := 16, ground := Ground.data }, { on := 14, ground := Ground.chain }, { on := 0, ground := Ground.phase }, { on := 1, ground := Ground.phase }, { on := 2, ground := Ground.phase }, { on := 3, ground := Ground.phase }, { on := 4, ground := Ground.phase }, { on := 5, ground := Ground.phase }, { on := 6, ground := Ground.phase }, { on := 7, ground := Ground.phase }, { on := 8, ground := Ground.phase }, { on := 9, ground := Ground.phase }, { on := 10, ground := Ground.phase }, { on := 11, ground := Ground.phase }, { on := 12, ground := Ground.phase }, { on := 13, ground := Ground.phase }, { on := 14, ground := Ground.phase }, { on := 15, ground := Ground.phase }, { on := 16, ground := Ground.phase }], guard := none }) (v := ?v12) rfl (by kernel_rfl) (by kernel_rfl) (by kernel_rfl) (fun _ _ _ h => h) (Or.inl ⟨by rfl, ?hy12⟩) hHeld ?rest12
          case hy12 => (intro w' hSw; (try dsimp only at hSw); go_simp; (try with_reducible rfl))
          try simp only [Act.put, List.setIfInBounds_toArray, List.set_cons_zero, List.set_cons_succ]
          refine wpAnyH_done (by kernel_rfl) ?_ _
          go_wp2
          have HS3 := Lib.hid (HS2.out _ HBT.out)
          have h10 : bt.size = 2 := by rw [← HBT.out, bstr_size, textL_length]; rfl
          have h9 : (s ++ (ByteArray.mk #[58] ++ bt ++ sk)).size ≤ 1000000000 := by
            rw [ByteArray.size_append, ByteArray.size_append, ByteArray.size_append]
            show s.size + (1 + bt.size + sk.size) ≤ _
            omega
          exact ⟨⟨j + 1, _, r', _, by omega, by go_num, rfl, h9, HS3, HF2, B5⟩, by simp [intOf]; omega⟩
        · obtain rfl : j = d.nk := by omega
          obtain ⟨_, _, _, _, hdis⟩ := HF.out
          obtain rfl := hdis.done (by rw [HL.out]; exact Nat.le_refl _)
          have HE := Lib.hid (show s ++ ByteArray.mk #[62] = bstr (shL x k) by rw [bstr_lit1, HS.out.1, HR2.out, HS.out.2, bstr_append]; simp [Fo.sh])
          have BE := Lib.hid (BW.out.trans (HBr.out.mono BW.out.size))
          clear hdis HF
          go_wp2
          go_ret
          exact ⟨by rw [← HE.out]; rfl, BE.out⟩
    | false =>
      have HPR := Lib.hid (show ks ++ ByteArray.mk #[60] ++ tx = bstr ((Lib.decDigits kn ++ [60]) ++ textL x.part ++ valL x) by rw [← HTE.out, ← HKS.out, HV.out.2 rfl, bstr_lit1, bstr_append, bstr_append]; simp)
      go_enter Tryz.func32, Tryz.ntmps32
      go_wp2
      go_quiet (first | (go_at_call 56; exact quiet_st1 (HTX.out _ (Still.below (w := W) ⟨_, rfl⟩ _))) | (go_at_call 57; exact quiet_st1 (HDK.out _)))
      refine (?bodyC : ∀ V, Still W V → Exit.then _ _ _ _ V) _ ?stC
      case stC => repeat (first | exact Still.refl _ | apply Still.step)
      intro V2 hV
      have c2 := KC2.out V2 (hV.below _)
      have BV := Lib.hid (hV.below W.heap.size)
      clear hV c0 c1
      go_wp2_with fail
      go_loopw [3, 4] (fun sv i wr => ∃ (j : Nat) (s : ByteArray) (r : Fo) (done : List UInt8), j ≤ d.nk ∧ i = .int .i64 j ∧ sv = .string s ∧ s.size ≤ 1000000000 ∧ Hid (s = bstr (((Lib.decDigits kn ++ [60]) ++ textL x.part ++ valL x) ++ done) ∧ k.sh = done ++ r.sh) ∧ Hid ((r.All fun _ x k => RShOk x k) ∧ r.lf ∧ r.ok ∧ k.bytes.drop j = r.bytes ∧ r.Dis w B (ek.drop j)) ∧ Hid (Below W.heap.size W wr)) (fun _ i _ => d.nk - (intOf i).toNat)
      case atStart => exact ⟨0, _, k, [], Nat.zero_le _, rfl, rfl, by rw [HPR.out, bstr_size]; have := HLN.out; rw [HR2.out] at this; simp only [List.length_append] at this ⊢; omega, Lib.hid ⟨by rw [List.append_nil]; exact HPR.out, rfl⟩, Lib.hid ⟨HKA.out, HHF.out.1, HHF.out.2, rfl, HKD.out⟩, BV⟩
      case round =>
        obtain ⟨j, s, r, done, hj, rfl, rfl, hs, HS, HF, HBr⟩ := hrel
        have c5 := KC5.out wr HBr.out
        by_cases h1 : j < d.nk
        · obtain ⟨hall, hrf, hro, hrb, hdis⟩ := HF.out
          obtain ⟨b, x', k', r', d', e2, rfl, hej, hat, hk2, hr2⟩ := hdis.at_ (by have := HL.out; omega)
          obtain ⟨ad, hA, hlt, _⟩ := kid_cells (HR.out wr HBr.out) h1 hej
          obtain ⟨adb, b', hAb, _, hb1, _⟩ := (HBY.out wr HBr.out).at_ (show j < d.nb by rw [HBL.out]; exact h1)
          obtain ⟨q1, q2⟩ := drop_cons (show k.bytes.drop j = b :: r'.bytes from hrb)
          rw [q1] at hb1
          injection hb1 with hb1
          subst hb1
          have hsh : k.sh = done ++ ((58 :: textL [b]) ++ shL x' k' ++ r'.sh) := HS.out.2
          have hlen : s.size + (textL [b]).length + 1 + (shL x' k').length ≤ 1000000000 := by
            have h3 := HLN.out
            have h4 := congrArg List.length hsh
            rw [HS.out.1, bstr_size]
            rw [HR2.out] at h3
            simp only [List.length_append, List.length_cons, List.length_nil] at h3 h4 ⊢
            omega
          have HC := Lib.hid (fun V (hb : Below W.heap.size W V) => hall.1 B V (d'.cells x' k') ⟨d', e2, rfl, hat.below (HD.out V hb), hk2.below (HD.out V hb)⟩ (Nat.le_trans HB.out (Nat.le_trans SW.out hb.size)) hrf.1 hrf.2.1 hro.1 hro.2.1 (by omega))
          have hck : (d'.cells x' k').toArray = dArr (kdV x' k') d' x'.has x'.val := rfl
          rw [hck] at HC
          have SS := Lib.hid (fun V (hb : Below W.heap.size W V) => show V.cell? ⟨w.heap.size, 4, none⟩ = some (.slice (some adb) d.nk d.cb) ∧ V.cell? ⟨w.heap.size, 5, none⟩ = some (.slice (some ad) d.nk d.ck) ∧ V.cell? (adb.add j) = some (.int .u8 (b.toNat : Int)) ∧ dCells V (ad.add (j * 6)) (kdV x' k') d' x'.has x'.val from by
            obtain ⟨ad0, hA0, _, f0, f1, f2, f3, f4, f5⟩ := kid_cells (HR.out V hb) h1 hej
            rw [hA] at hA0
            injection hA0 with hA0
            subst hA0
            obtain ⟨adb0, b0, hAb0, _, hb0, hb2⟩ := (HBY.out V hb).at_ (show j < d.nb by rw [HBL.out]; exact h1)
            rw [hAb] at hAb0
            injection hAb0 with hAb0
            subst hAb0
            rw [q1] at hb0
            injection hb0 with hb0
            subst hb0
            have g4 := KC4.out V hb
            have g5 := KC5.out V hb
            rw [hAb, HBL.out] at g4
            rw [hA] at g5
            exact ⟨g4, g5, hb2, f0, f1, f2, f3, f4, f5⟩)
          obtain ⟨sk, hsk⟩ : ∃ t, bstr (shL x' k') = t := ⟨_, rfl⟩
          have hsks : sk.size = (shL x' k').length := by rw [← hsk, bstr_size]
          have htb : (textL [b]).length = 2 := by rw [textL_length]; rfl
          rw [hsk] at HC
          have HS2 := Lib.hid (fun bt (hbt : bstr (textL [b]) = bt) => show s ++ (ByteArray.mk #[58] ++ bt ++ sk) = bstr (((Lib.decDigits kn ++ [60]) ++ textL x.part ++ valL x) ++ (done ++ ((58 :: textL [b]) ++ shL x' k'))) ∧ k.sh = (done ++ ((58 :: textL [b]) ++ shL x' k')) ++ r'.sh from
            ⟨by rw [HS.out.1, ← hbt, ← hsk, bstr_lit1, bstr_append, bstr_append, bstr_append]; simp, by rw [hsh]; simp⟩)
          have HF2 := Lib.hid (show (r'.All fun _ x k => RShOk x k) ∧ r'.lf ∧ r'.ok ∧ k.bytes.drop (j + 1) = r'.bytes ∧ r'.Dis w B (ek.drop (j + 1)) from ⟨hall.2, hrf.2.2, hro.2.2, q2, hr2⟩)
          have hss : s.size + 3 + sk.size ≤ 1000000000 := by omega
          generalize kdV x' k' = kd' at SS HC
          have ij : (j : Int) < (d.nk : Int) := by omega
          rw [hA] at c5
          clear hA hAb hall hrf hro hrb hdis hej hat hk2 hr2 hsk hck HF q1 q2 hsh hlen hsks htb hlt
          go_wp2_with fail
          refine wp_region_held_drew (S := (fun V => V.cell? ⟨w.heap.size, 4, none⟩ = some (.slice (some adb) d.nk d.cb) ∧ V.cell? ⟨w.heap.size, 5, none⟩ = some (.slice (some ad) d.nk d.ck) ∧ V.cell? (adb.add j) = some (.int .u8 (b.toNat : Int)) ∧ dCells V (ad.add (j * 6)) kd' d' x'.has x'.val)) (by kernel_rfl) (SS.out _ HBr.out.drew) (fun hHeld => ?_)
          refine wpAnyH_take (i := 0) (oi := { dst := some 44, op := Op.move (Operand.tmp 3), type := 9, pos := "ref.go:139", after := #[], guard := none }) (v := ?v13) rfl (by kernel_rfl) (by kernel_rfl) (by kernel_rfl) (fun _ _ _ h => h) (Or.inl ⟨by rfl, ?hy13⟩) hHeld ?rest13
          case hy13 => (intro w' hSw; (try dsimp only at hSw); go_simp; (try with_reducible rfl))
          try simp only [Act.put, List.setIfInBounds_toArray, List.set_cons_zero, List.set_cons_succ]
          refine wpAnyH_take (i := 1) (oi := { dst := some 45, op := Op.fieldAddr 69 (Operand.tmp 1) 4, type := 0, pos := "ref.go:139", after := #[], guard := none }) (v := ?v14) rfl (by kernel_rfl) (by kernel_rfl) (by kernel_rfl) (fun _ _ _ h => h) (Or.inl ⟨by rfl, ?hy14⟩) hHeld ?rest14
          case hy14 => (intro w' hSw; (try dsimp only at hSw); go_simp; (try with_reducible rfl))
          try simp only [Act.put, List.setIfInBounds_toArray, List.set_cons_zero, List.set_cons_succ]
          refine wpAnyH_take (i := 2) (oi := { dst := some 46, op := Op.load 23 (Operand.tmp 45), type := 23, pos := "ref.go:139", after := #[{ on := 1, ground := Ground.data }], guard := none }) (v := ?v15) rfl (by kernel_rfl) (by kernel_rfl) (by kernel_rfl) (fun _ _ _ h => h) (Or.inl ⟨by rfl, ?hy15⟩) hHeld ?rest15
          case hy15 => (intro w' hSw; (try dsimp only at hSw); go_simp; (try with_reducible rfl))
          try simp only [Act.put, List.setIfInBounds_toArray, List.set_cons_zero, List.set_cons_succ]
          refine wpAnyH_take (i := 3) (oi := { dst := some 47, op := Op.move (Operand.tmp 4), type := 3, pos := "ref.go:139", after := #[], guard := none }) (v := ?v16) rfl (by kernel_rfl) (by kernel_rfl) (by kernel_rfl) (fun _ _ _ h => h) (Or.inl ⟨by rfl, ?hy16⟩) hHeld ?rest16
          case hy16 => (intro w' hSw; (try dsimp only at hSw); go_simp; (try with_reducible rfl))
          try simp only [Act.put, List.setIfInBounds_toArray, List.set_cons_zero, List.set_cons_succ]
          refine wpAnyH_take (i := 4) (oi := { dst := some 48, op := Op.indexAddr 23 (Operand.tmp 46) (Operand.tmp 47), type := 0, pos := "ref.go:139", after := #[{ on := 2, ground := Ground.data }, { on := 3, ground := Ground.data }], guard := none }) (v := ?v17) rfl (by kernel_rfl) (by kernel_rfl) (by kernel_rfl) (fun _ _ _ h => h) (Or.inl ⟨by rfl, ?hy17⟩) hHeld ?rest17
          case hy17 => (intro w' hSw; (try dsimp only at hSw); go_simp; (try with_reducible rfl))
          try simp only [Act.put, List.setIfInBounds_toArray, List.set_cons_zero, List.set_cons_succ]
          refine wpAnyH_take (i := 5) (oi := { dst := some 49, op := Op.load 5 (Operand.tmp 48), type := 5, pos := "ref.go:139", after := #[{ on := 4, ground := Ground.data }], guard := none }) (v := ?v18) rfl (by kernel_rfl) (by kernel_rfl) (by kernel_rfl) (fun _ _ _ h => h) (Or.inl ⟨by rfl, ?hy18⟩) hHeld ?rest18
          case hy18 => (intro w' hSw; (try dsimp only at hSw); go_simp; (try with_reducible rfl))
          try simp only [Act.put, List.setIfInBounds_toArray, List.set_cons_zero, List.set_cons_succ]
          refine wpAnyH_take (i := 9) (oi := { dst := some 53, op := Op.fieldAddr 69 (Operand.tmp 1) 5, type := 0, pos := "ref.go:139", after := #[], guard := none }) (v := ?v19) rfl (by kernel_rfl) (by kernel_rfl) (by kernel_rfl) (fun _ _ _ h => h) (Or.inl ⟨by rfl, ?hy19⟩) hHeld ?rest19
          case hy19 => (intro w' hSw; (try dsimp only at hSw); go_simp; (try with_reducible rfl))
          try simp only [Act.put, List.setIfInBounds_toArray, List.set_cons_zero, List.set_cons_succ]
          refine wpAnyH_take (i := 10) (oi := { dst := some 54, op := Op.load 67 (Operand.tmp 53), type := 67, pos := "ref.go:139", after := #[{ on := 9, ground := Ground.data }], guard := none }) (v := ?v20) rfl (by kernel_rfl) (by kernel_rfl) (by kernel_rfl) (fun _ _ _ h => h) (Or.inl ⟨by rfl, ?hy20⟩) hHeld ?rest20
          case hy20 => (intro w' hSw; (try dsimp only at hSw); go_simp; (try with_reducible rfl))
          try simp only [Act.put, List.setIfInBounds_toArray, List.set_cons_zero, List.set_cons_succ]
          refine wpAnyH_take (i := 11) (oi := { dst := some 55, op := Op.move (Operand.tmp 4), type := 3, pos := "ref.go:139", after := #[], guard := none }) (v := ?v21) rfl (by kernel_rfl) (by kernel_rfl) (by kernel_rfl) (fun _ _ _ h => h) (Or.inl ⟨by rfl, ?hy21⟩) hHeld ?rest21
          case hy21 => (intro w' hSw; (try dsimp only at hSw); go_simp; (try with_reducible rfl))
          try simp only [Act.put, List.setIfInBounds_toArray, List.set_cons_zero, List.set_cons_succ]
          refine wpAnyH_take (i := 12) (oi := { dst := some 56, op := Op.indexAddr 67 (Operand.tmp 54) (Operand.tmp 55), type := 0, pos := "ref.go:139", after := #[{ on := 10, ground := Ground.data }, { on := 11, ground := Ground.data }], guard := none }) (v := ?v22) rfl (by kernel_rfl) (by kernel_rfl) (by kernel_rfl) (fun _ _ _ h => h) (Or.inl ⟨by rfl, ?hy22⟩) hHeld ?rest22
          case hy22 => (intro w' hSw; (try dsimp only at hSw); go_simp; (try with_reducible rfl))
          try simp only [Act.put, List.setIfInBounds_toArray, List.set_cons_zero, List.set_cons_succ]
          refine wpAnyH_take (i := 13) (oi := { dst := some 57, op := Op.load 69 (Operand.tmp 56), type := 69, pos := "ref.go:139", after := #[{ on := 12, ground := Ground.data }], guard := none }) (v := ?v23) rfl (by kernel_rfl) (by kernel_rfl) (by kernel_rfl) (fun _ _ _ h => h) (Or.inl ⟨by rfl, ?hy23⟩) hHeld ?rest23
          case hy23 => (intro w' hSw; (try dsimp only at hSw); go_simp; (try with_reducible rfl))
          try simp only [Act.put, List.setIfInBounds_toArray, List.set_cons_zero, List.set_cons_succ]
          refine wpAnyH_ready (rs := [6]) (by kernel_rfl) (by simp) (AllReadyH.cons (o := { dst := some 50, op := Op.buildSlice 23 1 #[(0, Operand.tmp 49)], type := 23, pos := "ref.go:139", after := #[{ on := 5, ground := Ground.data }], guard := none }) rfl (fun K hK => ?_) AllReadyH.nil)
          go_simp
          obtain ⟨U3, hU3⟩ : ∃ W, (wr.alloc (.cells #[.int .u8 (b.toNat : Int)] 5)).drew = W := ⟨_, rfl⟩
          have B3 := Lib.hid (show Below W.heap.size W U3 by rw [← hU3]; exact (HBr.out.alloc HBr.out.size _).drew)
          have Y3 := Lib.hid (show Byt U3 U3.heap.size (some ⟨wr.heap.size, 0, none⟩) 1 [b] by rw [← hU3]; exact (byt_one wr 5 (u := b) rfl).more (by simp))
          rw [hU3]
          clear hU3
          refine hK.out _ _ (SS.out _ B3.out) (fun hHeld' => ?_)
          clear hK K hHeld
          have hHeld := hHeld'
          clear hHeld'
          try simp only [Act.put, List.setIfInBounds_toArray, List.set_cons_zero, List.set_cons_succ]
          refine wpAnyH_ready (rs := [7]) (by kernel_rfl) (by simp) (AllReadyH.cons (o := { dst := some 51, op := Op.call { callee := Callee.value (Operand.func 56), args := #[Operand.tmp 50], argTypes := #[23] }, type := 9, pos := "ref.go:139", after := #[{ on := 6, ground := Ground.data }], guard := none }) rfl (fun K hK => ?_) AllReadyH.nil)
          go_simp
          (with_reducible refine (rtext_any _ _ 1 U3.heap.size [b] U3 Y3.out (by omega)).mono ?_)
          rintro e U4 ⟨rfl, s4⟩
          have B4 := Lib.hid (B3.out.trans (s4.below _))
          clear s4
          obtain ⟨bt, hbt⟩ : ∃ t, bstr (textL [b]) = t := ⟨_, rfl⟩
          rw [hbt]
          have HBT := Lib.hid hbt
          have hbs : bt.size ≤ 10 := by rw [← hbt, bstr_size, textL_length]; simp
          clear hbt
          go_wp2_with fail
          refine hK.out _ _ (SS.out _ B4.out) (fun hHeld' => ?_)
          clear hK K hHeld
          have hHeld := hHeld'
          clear hHeld'
          try simp only [Act.put, List.setIfInBounds_toArray, List.set_cons_zero, List.set_cons_succ]
          refine wpAnyH_take (i := 8) (oi := { dst := some 52, op := Op.binOp BinOp.add 9 (Operand.const (Value.string { data := #[58] })) (Operand.tmp 51) 9, type := 9, pos := "ref.go:139", after := #[{ on := 7, ground := Ground.data }], guard := none }) (v := (.string (ByteArray.mk #[58] ++ bt))) rfl (by kernel_rfl) (by kernel_rfl) (by kernel_rfl) (fun _ _ _ h => h) (Or.inl ⟨by rfl, ?hyV⟩) hHeld ?_
          case hyV => (intro w' hSw; (try dsimp only at hSw); go_simp; omega)
          try simp only [Act.put, List.setIfInBounds_toArray, List.set_cons_zero, List.set_cons_succ]
          refine wpAnyH_ready (rs := [14]) (by kernel_rfl) (by simp) (AllReadyH.cons (o := { dst := some 58, op := Op.call { callee := Callee.value (Operand.func 32), args := #[Operand.tmp 57], argTypes := #[69] }, type := 9, pos := "ref.go:139", after := #[{ on := 13, ground := Ground.data }, { on := 7, ground := Ground.chain }], guard := none }) rfl (fun K hK => ?_) AllReadyH.nil)
          go_simp
          (with_reducible refine (HC.out _ B4.out).mono ?_)
          rintro e U5 ⟨rfl, q5⟩
          have B5 := Lib.hid (B4.out.trans (q5.mono B4.out.size))
          clear q5
          go_wp2_with fail
          refine hK.out _ _ (SS.out _ B5.out) (fun hHeld' => ?_)
          clear hK K hHeld
          have hHeld := hHeld'
          clear hHeld'
          try simp only [Act.put, List.setIfInBounds_toArray, List.set_cons_zero, List.set_cons_succ]
          refine wpAnyH_take (i := 15) (oi := { dst := some 59, op := Op.binOp BinOp.add 9 (Operand.tmp 52) (Operand.tmp 58) 9, type := 9, pos := "ref.go:139", after := #[{ on := 8, ground := Ground.data }, { on := 14, ground := Ground.data }], guard := none }) (v := (.string (ByteArray.mk #[58] ++ bt ++ sk))) rfl (by kernel_rfl) (by kernel_rfl) (by kernel_rfl) (fun _ _ _ h => h) (Or.inl ⟨by rfl, ?hyV⟩) hHeld ?_
          case hyV => (intro w' hSw; (try dsimp only at hSw); go_simp; omega)
          try simp only [Act.put, List.setIfInBounds_toArray, List.set_cons_zero, List.set_cons_succ]
          refine wpAnyH_take (i := 16) (oi := { dst := some 60, op := Op.binOp BinOp.add 9 (Operand.tmp 44) (Operand.tmp 59) 9, type := 9, pos := "ref.go:139", after := #[{ on := 0, ground := Ground.data }, { on := 15, ground := Ground.data }], guard := none }) (v := (.string (s ++ (ByteArray.mk #[58] ++ bt ++ sk)))) rfl (by kernel_rfl) (by kernel_rfl) (by kernel_rfl) (fun _ _ _ h => h) (Or.inl ⟨by rfl, ?hyV⟩) hHeld ?_
          case hyV => (intro w' hSw; (try dsimp only at hSw); go_simp; omega)
          try simp only [Act.put, List.setIfInBounds_toArray, List.set_cons_zero, List.set_cons_succ]
          refine wpAnyH_take (i := 17) (oi := { dst := some 3, op := Op.assign (Operand.tmp 60), type := 9, pos := "ref.go:139", after := #[{ on := 16, ground := Ground.data }, { on := 14, ground := Ground.chain }, { on := 0, ground := Ground.phase }, { on := 1, ground := Ground.phase }, { on := 2, ground := Ground.phase }, { on := 3, ground := Ground.phase }, { on := 4, ground := Ground.phase }, { on := 5, ground := Ground.phase }, { on := 6, ground := Ground.phase }, { on := 7, ground := Ground.phase }, { on := 8, ground := Ground.phase }, { on := 9, ground := Ground.phase }, { on := 10, ground := Ground.phase }, { on := 11, ground := Ground.phase }, { on := 12, ground := Ground.phase }, { on := 13, ground := Ground.phase }, { on := 14, ground := Ground.phase }, { on := 15, ground := Ground.phase }, { on := 16, ground := Ground.phase }], guard := none }) (v := ?v24) rfl (by kernel_rfl) (by kernel_rfl) (by kernel_rfl) (fun _ _ _ h => h) (Or.inl ⟨by rfl, ?hy24⟩) hHeld ?rest24
          case hy24 => (intro w' hSw; (try dsimp only at hSw); go_simp; (try with_reducible rfl))
          try simp only [Act.put, List.setIfInBounds_toArray, List.set_cons_zero, List.set_cons_succ]
          refine wpAnyH_done (by kernel_rfl) ?_ _
          go_wp2
          have HS3 := Lib.hid (HS2.out _ HBT.out)
          have h10 : bt.size = 2 := by rw [← HBT.out, bstr_size, textL_length]; rfl
          have h9 : (s ++ (ByteArray.mk #[58] ++ bt ++ sk)).size ≤ 1000000000 := by
            rw [ByteArray.size_append, ByteArray.size_append, ByteArray.size_append]
            show s.size + (1 + bt.size + sk.size) ≤ _
            omega
          exact ⟨⟨j + 1, _, r', _, by omega, by go_num, rfl, h9, HS3, HF2, B5⟩, by simp [intOf]; omega⟩
        · obtain rfl : j = d.nk := by omega
          obtain ⟨_, _, _, _, hdis⟩ := HF.out
          obtain rfl := hdis.done (by rw [HL.out]; exact Nat.le_refl _)
          have HE := Lib.hid (show s ++ ByteArray.mk #[62] = bstr (shL x k) by rw [bstr_lit1, HS.out.1, HR2.out, HS.out.2, bstr_append]; simp [Fo.sh])
          have BE := Lib.hid (BW.out.trans (HBr.out.mono BW.out.size))
          clear hdis HF
          go_wp2
          go_ret
          exact ⟨by rw [← HE.out]; rfl, BE.out⟩
theorem rshape_tree (x : Nn) (k : Fo) : RShOk x k := rshape_step x k (Fo.all_of (fun _ x k h => rshape_step x k h) k)
end Go.Proofs.YtajpipaooaemdaaGreatDoor
