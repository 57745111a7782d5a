/-
  What a node tells, and what a nil one tells.
-/
import Derived.Test.YtfmkhafpbfmadaaGreatNdMem
namespace Go.Proofs.YtfmkhafpbfmadaaGreat
open Go.RowKit

/-- The byte and the kid of one, as what Next and Prev hand back. -/
def kidV (o : Option Ent) : Value := .tuple #[.int .u8 (eb o), .pointer (ex o)]
def kindD (x : Nd) : Int := if x.leaf then 1 else kindN x.es.length
def occN (x : Nd) : Int := if x.has then x.es.length + 1 else x.es.length

section
variable {w : World} {g : Nat} {x : Nd} {b : Be} {A : Option Addr}
set_option maxRecDepth 100000 in
theorem what_nil (w : World) : Calls Tryz.prog 42 #[.pointer none] w fun e w' => e = .returned (.int .i64 0) ∧ w' = w := by
  go_enter Tryz.func42, Tryz.ntmps42
  go_wp2
  go_ret
  exact ⟨rfl, rfl⟩
set_option maxRecDepth 100000 in
theorem what_any (h : Nod w g x b A) : Calls Tryz.prog 42 #[.pointer (some ⟨g, 0, none⟩)] w fun e w' => e = .returned (.int .i64 (isN x.leaf)) ∧ w' = w := by
  have hc := h.is_
  generalize isN x.leaf = i at hc ⊢
  clear h
  go_enter Tryz.func42, Tryz.ntmps42
  go_wp2
  go_ret
  exact ⟨rfl, rfl⟩
set_option maxRecDepth 100000 in
theorem below_nil (w : World) : Calls Tryz.prog 72 #[.pointer none] w fun e w' => e = .returned (.pointer none) ∧ w' = w := by
  go_enter Tryz.func72, Tryz.ntmps72
  go_wp2
  go_ret
  exact ⟨rfl, rfl⟩
set_option maxRecDepth 100000 in
theorem below_any (h : Nod w g x b A) : Calls Tryz.prog 72 #[.pointer (some ⟨g, 0, none⟩)] w fun e w' => e = .returned b.ptr ∧ w' = w := by
  have hc := h.kid_
  generalize b.th = i at hc ⊢
  clear h
  go_enter Tryz.func72, Tryz.ntmps72
  go_wp2
  go_ret
  exact ⟨rfl, rfl⟩
set_option maxRecDepth 100000 in
theorem owner_nil (w : World) : Calls Tryz.prog 80 #[.pointer none] w fun e w' => e = .returned (.int .u64 0) ∧ w' = w := by
  go_enter Tryz.func80, Tryz.ntmps80
  go_wp2
  go_ret
  exact ⟨rfl, rfl⟩
set_option maxRecDepth 100000 in
theorem owner_any (h : Nod w g x b A) : Calls Tryz.prog 80 #[.pointer (some ⟨g, 0, none⟩)] w fun e w' => e = .returned (.int .u64 x.ow) ∧ w' = w := by
  have hc := h.own_
  generalize x.ow = i at hc ⊢
  clear h
  go_enter Tryz.func80, Tryz.ntmps80
  go_wp2
  go_ret
  exact ⟨rfl, rfl⟩
set_option maxRecDepth 100000 in
theorem val_nil (w : World) : Calls Tryz.prog 45 #[.pointer none] w fun e w' => e = .returned (.tuple #[.int .u64 0, .bool false]) ∧ w' = w := by
  go_enter Tryz.func45, Tryz.ntmps45
  go_wp2
  go_ret2
  exact ⟨rfl, rfl⟩
set_option maxRecDepth 100000 in
theorem val_any (h : Nod w g x b A) : Calls Tryz.prog 45 #[.pointer (some ⟨g, 0, none⟩)] w fun e w' => e = .returned (.tuple #[.int .u64 x.val, .bool x.has]) ∧ Still w w' := by
  have hc := h.val_
  have hd := h.has_
  generalize x.val = i at hc ⊢
  generalize x.has = j at hd ⊢
  clear h
  go_enter Tryz.func45, Tryz.ntmps45
  go_wp2_with fail
  go_quiet (fail)
  go_wp2
  go_ret2
  exact ⟨rfl, Still.drewN _ _⟩

set_option maxRecDepth 100000 in
/-- What kids tell, wherever they are. -/
theorem Be.Is.len_ {leaf : Bool} {es : List Ent} (h : b.Is w leaf es) : Calls Tryz.prog 65 #[b.ptr] w fun e w' => e = .returned (.int .i64 (es.length : Int)) ∧ Still w w' := by
  cases b with
  | non =>
    obtain ⟨_, rfl⟩ := h
    refine (klen_no (NoK.nil w)).mono ?_
    rintro e w' ⟨rfl, rfl⟩
    exact ⟨rfl, Still.refl _⟩
  | at_ k o => exact klen_any h.2
set_option maxRecDepth 100000 in
theorem Be.Is.get_ {leaf : Bool} {es : List Ent} (h : b.Is w leaf es) (c : UInt8) (z : Int) (hz : z = (c.toNat : Int)) : Calls Tryz.prog 73 #[b.ptr, .int .u8 z] w fun e w' => e = .returned (.tuple #[.pointer (getE es c.toNat), .bool (hasE es c.toNat)]) ∧ Still w w' := by
  subst hz
  cases b with
  | non =>
    obtain ⟨_, rfl⟩ := h
    refine (kget_no (NoK.nil w) _).mono ?_
    rintro e w' ⟨rfl, rfl⟩
    exact ⟨rfl, Still.refl _⟩
  | at_ k o => exact kget_any h.2 c
set_option maxRecDepth 100000 in
theorem Be.Is.next_ {leaf : Bool} {es : List Ent} (h : b.Is w leaf es) (a : Int) (ha : -9223372036854775808 ≤ a) : Calls Tryz.prog 74 #[b.ptr, .int .i64 a] w fun e w' => e = .returned (entV (nextE es a)) ∧ Still w w' := by
  cases b with
  | non =>
    obtain ⟨_, rfl⟩ := h
    refine (knext_no (NoK.nil w) _).mono ?_
    rintro e w' ⟨rfl, rfl⟩
    refine ⟨?_, Still.refl _⟩
    rw [show nextE [] a = none by unfold nextE; split <;> simp]
    rfl
  | at_ k o => exact knext_any h.2 a ha
set_option maxRecDepth 100000 in
theorem Be.Is.kind_ {es : List Ent} (h : b.Is w false es) : Calls Tryz.prog 71 #[b.ptr] w fun e w' => e = .returned (.int .i64 (kindN es.length : Int)) ∧ Still w w' := by
  cases b with
  | non => cases h.1
  | at_ k o => exact kkind_any h.2

set_option maxRecDepth 100000 in
/-- Whatever node it is, nil or not: what it tells is asked of its kids. -/
theorem nlen_of {R : World → Prop} {p q : Value} {n : Int} (h1 : Calls Tryz.prog 72 #[p] w fun e w' => e = .returned q ∧ w' = w)
    (h2 : Calls Tryz.prog 65 #[q] w fun e w' => e = .returned (.int .i64 n) ∧ R w') :
    Calls Tryz.prog 106 #[p] w fun e w' => e = .returned (.int .i64 n) ∧ R w' := by
  have H1 := Lib.hid h1
  have H2 := Lib.hid h2
  clear h1 h2
  go_enter Tryz.func106, Tryz.ntmps106
  go_wp2_with fail
  (with_reducible refine H1.out.mono ?_)
  rintro e w1 ⟨rfl, rfl⟩
  go_wp2_with fail
  (with_reducible refine H2.out.mono ?_)
  rintro e w2 ⟨rfl, hs⟩
  have HS := Lib.hid hs
  clear hs
  go_wp2
  go_ret
  exact ⟨rfl, HS.out⟩
set_option maxRecDepth 100000 in
theorem nkid_of {R : World → Prop} {p q : Value} {z : Int} {v : Value} {t : Bool} (h1 : Calls Tryz.prog 72 #[p] w fun e w' => e = .returned q ∧ w' = w)
    (h2 : Calls Tryz.prog 73 #[q, .int .u8 z] w fun e w' => e = .returned (.tuple #[v, .bool t]) ∧ R w') :
    Calls Tryz.prog 53 #[p, .int .u8 z] w fun e w' => e = .returned v ∧ R w' := by
  have H1 := Lib.hid h1
  have H2 := Lib.hid h2
  clear h1 h2
  go_enter Tryz.func53, Tryz.ntmps53
  go_wp2_with fail
  (with_reducible refine H1.out.mono ?_)
  rintro e w1 ⟨rfl, rfl⟩
  go_wp2_with fail
  (with_reducible refine H2.out.mono ?_)
  rintro e w2 ⟨rfl, hs⟩
  have HS := Lib.hid hs
  clear hs
  go_wp2
  go_ret
  exact ⟨rfl, HS.out⟩
set_option maxRecDepth 100000 in
theorem nnext_of {R : World → Prop} {p q : Value} {a z : Int} {v : Value} {t : Bool} (h1 : Calls Tryz.prog 72 #[p] w fun e w' => e = .returned q ∧ w' = w)
    (h2 : Calls Tryz.prog 74 #[q, .int .i64 a] w fun e w' => e = .returned (.tuple #[.int .u8 z, v, .bool t]) ∧ R w') :
    Calls Tryz.prog 58 #[p, .int .i64 a] w fun e w' => e = .returned (.tuple #[.int .u8 z, v]) ∧ R w' := by
  have H1 := Lib.hid h1
  have H2 := Lib.hid h2
  clear h1 h2
  go_enter Tryz.func58, Tryz.ntmps58
  go_wp2_with fail
  (with_reducible refine H1.out.mono ?_)
  rintro e w1 ⟨rfl, rfl⟩
  go_wp2_with fail
  (with_reducible refine H2.out.mono ?_)
  rintro e w2 ⟨rfl, hs⟩
  have HS := Lib.hid hs
  clear hs
  go_wp2
  go_ret2
  exact ⟨rfl, HS.out⟩
theorem entV_is (o : Option Ent) : ∃ t, entV o = .tuple #[.int .u8 (eb o), .pointer (ex o), .bool t] := by
  cases o with
  | none => exact ⟨_, rfl⟩
  | some e => exact ⟨_, rfl⟩
set_option maxRecDepth 100000 in
theorem nlen_any (h : Nod w g x b A) : Calls Tryz.prog 106 #[.pointer (some ⟨g, 0, none⟩)] w fun e w' => e = .returned (.int .i64 (x.es.length : Int)) ∧ Still w w' := nlen_of (below_any h) h.kids.len_
set_option maxRecDepth 100000 in
theorem nkid_any (h : Nod w g x b A) (c : UInt8) (z : Int) (hz : z = (c.toNat : Int)) : Calls Tryz.prog 53 #[.pointer (some ⟨g, 0, none⟩), .int .u8 z] w fun e w' => e = .returned (.pointer (getE x.es c.toNat)) ∧ Still w w' := nkid_of (below_any h) (h.kids.get_ c z hz)
set_option maxRecDepth 100000 in
theorem nnext_any (h : Nod w g x b A) (a : Int) (ha : -9223372036854775808 ≤ a) : Calls Tryz.prog 58 #[.pointer (some ⟨g, 0, none⟩), .int .i64 a] w fun e w' => e = .returned (kidV (nextE x.es a)) ∧ Still w w' := by
  have H := h.kids.next_ a ha
  obtain ⟨t, ht⟩ := entV_is (nextE x.es a)
  rw [ht] at H
  exact nnext_of (below_any h) H
set_option maxRecDepth 100000 in
theorem nlen_nil (w : World) : Calls Tryz.prog 106 #[.pointer none] w fun e w' => e = .returned (.int .i64 0) ∧ w' = w := nlen_of (below_nil w) (klen_no (NoK.nil w))
set_option maxRecDepth 100000 in
theorem nkid_nil (z : Int) (w : World) : Calls Tryz.prog 53 #[.pointer none, .int .u8 z] w fun e w' => e = .returned (.pointer none) ∧ w' = w := nkid_of (t := false) (below_nil w) (kget_no (NoK.nil w) z)
set_option maxRecDepth 100000 in
theorem nnext_nil (a : Int) (w : World) : Calls Tryz.prog 58 #[.pointer none, .int .i64 a] w fun e w' => e = .returned (.tuple #[.int .u8 0, .pointer none]) ∧ w' = w := nnext_of (t := false) (below_nil w) (knext_no (NoK.nil w) a)
set_option maxRecDepth 100000 in
theorem nkind_nil (w : World) : Calls Tryz.prog 50 #[.pointer none] w fun e w' => e = .returned (.int .i64 0) ∧ w' = w := by
  have H1 := Lib.hid (what_nil w)
  go_enter Tryz.func50, Tryz.ntmps50
  go_wp2_with fail
  (with_reducible refine H1.out.mono ?_)
  rintro e w1 ⟨rfl, rfl⟩
  go_wp2
  go_ret
  exact ⟨rfl, rfl⟩
set_option maxRecDepth 100000 in
theorem nkind_any (h : Nod w g x b A) : Calls Tryz.prog 50 #[.pointer (some ⟨g, 0, none⟩)] w fun e w' => e = .returned (.int .i64 (kindD x)) ∧ Still w w' := by
  have H1 := Lib.hid (what_any h)
  have hc := h.kid_
  have hk := h.kids
  obtain ⟨lf, ow, pt, vl, hs, es⟩ := x
  simp only at hk hc H1
  clear h
  cases lf with
  | true =>
    go_enter Tryz.func50, Tryz.ntmps50
    go_wp2_with fail
    (with_reducible refine H1.out.mono ?_)
    rintro e w1 ⟨rfl, rfl⟩
    rw [show isN true = 1 from rfl]
    go_wp2
    go_ret
    exact ⟨rfl, Still.refl _⟩
  | false =>
    have H2 := Lib.hid hk.kind_
    clear hk
    generalize b.th = q at hc H2
    go_enter Tryz.func50, Tryz.ntmps50
    go_wp2_with fail
    (with_reducible refine H1.out.mono ?_)
    rintro e w1 ⟨rfl, rfl⟩
    rw [show isN false = 2 from rfl]
    go_wp2_with fail
    (with_reducible refine H2.out.mono ?_)
    rintro e w2 ⟨rfl, hs⟩
    have HT := Lib.hid hs
    clear hs
    go_wp2
    go_ret
    exact ⟨rfl, HT.out⟩

set_option maxRecDepth 100000 in
theorem npart_nil (w : World) : Calls Tryz.prog 51 #[.pointer none] w fun e w' => e = .returned (.slice none 0 0) ∧ w' = w := by
  go_enter Tryz.func51, Tryz.ntmps51
  go_wp2
  go_ret
  exact ⟨rfl, rfl⟩
set_option maxRecDepth 100000 in
theorem npart_any (h : Nod w g x b A) : Calls Tryz.prog 51 #[.pointer (some ⟨g, 0, none⟩)] w (ClPost w x.part) := by
  obtain ⟨c, hb⟩ := h.blk
  have hc : w.cell? ⟨g, 2, none⟩ = some (.slice A x.part.length c) := hb.cell 2
  have H1 := Lib.hid (bclone_any A x.part.length c w.heap.size x.part w h.byt (Nat.le_refl _) h.short)
  clear hb h
  generalize x.part = l at hc H1 ⊢
  generalize hn : l.length = n at hc H1
  go_enter Tryz.func51, Tryz.ntmps51
  go_wp2_with fail
  (with_reducible refine H1.out.mono ?_)
  rintro e w1 ⟨A1, c1, rfl, h1, h2, h3⟩
  have HE := Lib.hid (show ClPost w l (.returned (.slice A1 l.length c1)) w1 from ⟨A1, c1, rfl, h1, h2, h3⟩)
  clear h1 h2 h3
  rw [hn] at HE ⊢
  go_wp2
  go_ret
  exact HE.out
end
end Go.Proofs.YtfmkhafpbfmadaaGreat
