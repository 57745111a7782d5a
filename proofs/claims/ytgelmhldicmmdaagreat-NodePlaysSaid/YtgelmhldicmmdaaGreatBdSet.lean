/-
  Package wide: Set and Drop of a board that New gave.
-/
import Derived.Test.YtgelmhldicmmdaaGreatBdWrite
import Derived.BigRegion
import Derived.Deep.CutBlock
import Derived.Deep.DeepCutAuto
namespace Go.Proofs.YtgelmhldicmmdaaGreat
open Go.RowKit

/-- What Set and Drop leave. -/
def BdPost (w w' : World) (g : Nat) (v : Value) (room : Nat) (es : List Ent) (u : Nat) : Prop :=
  ∃ (v' : Value) (u' : Nat), Bd w' g v' room es u' ∧ Kept (bdD g v) w w' ∧ (∀ i, v'.ownBlock = some i → v.ownBlock = some i ∨ w.heap.size ≤ i) ∧ u' ≤ max u es.length

section
variable {w : World} {g room u : Nat} {es : List Ent} {v : Value}
set_option maxRecDepth 100000 in
theorem wset_has (h : Bd w g v room es u) (hr : room ≠ 0) (b : UInt8) (x : Th) (hb : hasE es b.toNat = true) : Calls Tryz.prog 121 #[.pointer (some ⟨g, 0, none⟩), .int .u8 (b.toNat : Int), ev x] w fun e w' =>
    e = .returned (.int .i64 0) ∧ BdPost w w' g v room (setE es b x) u := by
  have C := Lib.hid (wnobodys_any h)
  rw [decide_eq_false hr] at C
  have D := Lib.hid (wholds_any h b)
  rw [hb] at D
  obtain ⟨k, tb, lf, vs, h⟩ := h
  have hlt := b.toNat_lt
  obtain ⟨t, c, q, hq, ha⟩ := h.at_ hlt hb
  have hv := ha.v_
  subst hv
  have h1 := ha.tb_
  have h2 := ha.sl_
  have h3 := ha.th_
  have h4 := ha.lt_
  have h5 := ha.few_
  have h6 := ha.fz_
  have HE := Lib.hid (fun n => show BdPost w ((w.drewN n).setCell ⟨t, q, none⟩ (ev x)) g (.slice (some ⟨t, 0, none⟩) u c) room (setE es b x) u by
    have hgt : g ≠ t := fun e => h.ne (by rw [e]; rfl)
    have hs := (World.ownsRow.stored (show (w.drewN n).ownsRow 0 46 1 (.slice (some ⟨t, 0, none⟩) u c) u (vs.map ev) from h.own_) q (ev x)).1
    have hK : Kept (· = t) w ((w.drewN n).setCell ⟨t, q, none⟩ (ev x)) := ((Kept.refl _ _).drewN n).trans (Kept.set_ _ _ _ rfl)
    refine ⟨_, u, ⟨k, tb, lf, vs.set q x, h.pl.set_has x hb hq, by rw [List.length_set]; exact h.len, hK.blk h.head hgt, ?_, h.ne⟩, hK.mono (fun i e => Or.inr (by rw [e]; rfl)), fun i hi => Or.inl hi, Nat.le_max_left _ _⟩
    rw [List.map_set]; exact hs)
  have ew : IntKind.u16.wrap ((q : Int) + 1 - 1) = (q : Int) := by rw [show ((q : Int) + 1 - 1) = (q : Int) by omega, IntKind.wrap_u16]; omega
  have e2 : (q : Int) + 1 - 1 = (q : Int) := by omega
  have ew2 : IntKind.u16.wrap (q : Int) = (q : Int) := by rw [IntKind.wrap_u16]; omega
  have hbi : (b.toNat : Int) < 256 := by omega
  have hqi : (q : Int) < (u : Int) := by omega
  generalize getE es b.toNat = y at h3
  clear h hb hr ha hq
  go_enter Tryz.func121, Tryz.ntmps121
  go_wp2_with fail
  (with_reducible refine C.out.mono ?_)
  rintro e w' ⟨rfl, rfl⟩
  go_wp2_with fail
  (with_reducible refine D.out.mono ?_)
  rintro e w' ⟨rfl, rfl⟩
  go_wp2_with fail
  go_region
  go_wp2
  go_ret
  exact ⟨rfl, HE.out _⟩

set_option maxRecDepth 100000 in
theorem wset_full (h : Bd w g v room es u) (hr : room ≠ 0) (b : UInt8) (x : Th) (hb : hasE es b.toNat = false) (hf : es.length = room) : Calls Tryz.prog 121 #[.pointer (some ⟨g, 0, none⟩), .int .u8 (b.toNat : Int), ev x] w fun e w' =>
    e = .returned (.int .i64 10) ∧ Still w w' := by
  have C := Lib.hid (wnobodys_any h)
  rw [decide_eq_false hr] at C
  have D := Lib.hid (wholds_any h b)
  rw [hb] at D
  have L := Lib.hid (fun n => wlen_any (h.drewN n))
  rw [hf] at L
  have h1 := h.room_
  clear h hb hr hf
  go_enter Tryz.func121, Tryz.ntmps121
  go_wp2_with fail
  (with_reducible refine C.out.mono ?_)
  rintro e w' ⟨rfl, rfl⟩
  go_wp2_with fail
  (with_reducible refine D.out.mono ?_)
  rintro e w' ⟨rfl, rfl⟩
  go_wp2_with fail
  go_quiet ((go_at_call 117; exact quiet_st1 (L.out _)))
  go_wp2
  go_ret
  exact ⟨rfl, ⟨_, rfl⟩⟩

set_option maxRecDepth 100000 in
theorem wset_more (h : Bd w g v room es u) (b : UInt8) (x : Th) (hb : hasE es b.toNat = false) (hf : es.length < room) : Calls Tryz.prog 121 #[.pointer (some ⟨g, 0, none⟩), .int .u8 (b.toNat : Int), ev x] w fun e w' =>
    e = .returned (.int .i64 0) ∧ BdPost w w' g v room (setE es b x) u := by
  have C := Lib.hid (wnobodys_any h)
  rw [decide_eq_false (show ¬ room = 0 by omega)] at C
  have D := Lib.hid (wholds_any h b)
  rw [hb] at D
  have L := Lib.hid (fun n => wlen_any (h.drewN n))
  have F := Lib.hid (fun n => wfree_any (h.drewN n) hf)
  have hcap := h.few.2.2
  have h1 := h.room_
  have hbi : (b.toNat : Int) < 256 := by have := b.toNat_lt; omega
  have hlt := b.toNat_lt
  have HL := Lib.hid (show (setE es b x).length = es.length + 1 by rw [set_length, if_neg (by rw [hb]; simp)])
  have HB := Lib.hid hb
  clear h hb
  generalize hn : es.length = n at L hf
  have HN := Lib.hid hn
  have hne : ((n : Int) = (room : Int)) = False := by rw [eq_iff_iff]; constructor <;> intro hq <;> first | omega | cases hq
  have hne2 : ((n : Int) == (room : Int)) = false := by simpa using hne
  clear hn
  go_enter Tryz.func121, Tryz.ntmps121
  go_wp2_with fail
  (with_reducible refine C.out.mono ?_)
  rintro e w' ⟨rfl, rfl⟩
  go_wp2_with fail
  (with_reducible refine D.out.mono ?_)
  rintro e w' ⟨rfl, rfl⟩
  go_wp2_with fail
  go_quiet ((go_at_call 117; exact quiet_st1 (L.out _)))
  go_wp2_with fail
  (with_reducible refine (F.out _).mono ?_)
  rintro e w1 ⟨p, k, tb, lf, vs, v', rfl, hF⟩
  have hp := hF.lt_
  have hvl := hF.most_
  obtain ⟨t, c, hv, _, _⟩ := hF.own_.form (by omega)
  subst hv
  have hne : g ≠ t := fun e => hF.ne (by rw [e]; rfl)
  have c1 : w1.cell? ⟨g, 257, none⟩ = some (.slice (some ⟨t, 0, none⟩) vs.length c) := by rw [Lst.at_ hF.head, bdL_things]
  obtain ⟨y, hy⟩ : ∃ y, w1.cell? ⟨t, p, none⟩ = some y := by
    rw [hF.own_.cellAt p (by omega), List.getElem?_map, List.getElem?_eq_getElem hp]; exact ⟨_, rfl⟩
  have z2 : w1.frozen? ⟨t, p, none⟩ = false := hF.own_.frozenAt p
  have hK2 : Kept (· = t) w1 (w1.setCell ⟨t, p, none⟩ (ev x)) := Kept.set_ _ _ _ rfl
  have hh2 := hK2.blk hF.head hne
  have c2 : (w1.setCell ⟨t, p, none⟩ (ev x)).cell? ⟨g, 1 + b.toNat, none⟩ = some (.int .u16 (tb b.toNat : Int)) := by rw [Lst.at_ hh2, bdL_table hlt]
  have z3 : (w1.setCell ⟨t, p, none⟩ (ev x)).frozen? ⟨g, 1 + b.toNat, none⟩ = false := Blk.fz hh2 _
  have HE := Lib.hid (show BdPost w' ((w1.setCell ⟨t, p, none⟩ (ev x)).setCell ⟨g, 1 + b.toNat, none⟩ (.int .u16 ((p : Int) + 1))) g v room (setE es b x) u by
    have hO2 := (World.ownsRow.stored hF.own_ p (ev x)).1
    have hK3 : Kept (· = g) (w1.setCell ⟨t, p, none⟩ (ev x)) ((w1.setCell ⟨t, p, none⟩ (ev x)).setCell ⟨g, 1 + b.toNat, none⟩ (.int .u16 ((p : Int) + 1))) := Kept.set_ _ _ _ rfl
    have hL := Lst.set1 hh2 (1 + b.toNat) (.int .u16 ((p + 1 : Nat) : Int))
    rw [bdL_setT hlt, show ((p + 1 : Nat) : Int) = (p : Int) + 1 by omega] at hL
    have hO3 := hK3.owns hO2 (fun i hi e => hF.ne (by rw [← e]; exact hi))
    have kA := (((Kept.refl (fun i => bdD g v i ∨ i = t) w').drewN _).trans (hF.kept.mono (D' := fun i => bdD g v i ∨ i = t) (fun i q => Or.inl q))).trans ((hK2.mono (D' := fun i => bdD g v i ∨ i = t) (fun i q => Or.inr q)).trans (hK3.mono (fun i q => Or.inl (Or.inl q))))
    refine ⟨_, vs.length, ⟨k, turnN tb b.toNat (p + 1), lf, vs.set p x, hF.pl b x HB.out, by rw [List.length_set], hL, by rw [List.map_set]; exact hO3, hF.ne⟩, kA.less (fun i hi q => ?_), fun i hi => hF.new i hi, ?_⟩
    · rcases q with q | q
      · exact q
      · rcases hF.new t rfl with e | e
        · rw [q]; exact Or.inr e
        · exact absurd hi (by have e' : w'.heap.size ≤ t := e; omega)
    · have := hF.used; have := HL.out; omega)
  have ew : IntKind.i64.wrap ((p : Int) + 1) = (p : Int) + 1 := by rw [IntKind.wrap_i64]; omega
  have ew2 : IntKind.u16.wrap ((p : Int) + 1) = (p : Int) + 1 := by rw [IntKind.wrap_u16]; omega
  have hpi : (p : Int) < (vs.length : Int) := by omega
  clear hF hh2 hK2
  go_wp2
  go_ret
  exact ⟨rfl, HE.out⟩

set_option maxRecDepth 100000 in
theorem wdrop_none (h : Bd w g v room es u) (hr : room ≠ 0) (b : UInt8) (hb : hasE es b.toNat = false) : Calls Tryz.prog 115 #[.pointer (some ⟨g, 0, none⟩), .int .u8 (b.toNat : Int)] w fun e w' =>
    e = .returned (.int .i64 6) ∧ Still w w' := by
  have C := Lib.hid (wnobodys_any h)
  rw [decide_eq_false hr] at C
  have D := Lib.hid (wholds_any h b)
  rw [hb] at D
  clear h hb hr
  go_enter Tryz.func115, Tryz.ntmps115
  go_wp2_with fail
  (with_reducible refine C.out.mono ?_)
  rintro e w' ⟨rfl, rfl⟩
  go_wp2_with fail
  (with_reducible refine D.out.mono ?_)
  rintro e w' ⟨rfl, rfl⟩
  go_wp2
  go_ret
  exact ⟨rfl, Still.refl _⟩

set_option maxHeartbeats 1000000 in
set_option maxRecDepth 100000 in
theorem wdrop_has (h : Bd w g v room es u) (hr : room ≠ 0) (b : UInt8) (hb : hasE es b.toNat = true) : Calls Tryz.prog 115 #[.pointer (some ⟨g, 0, none⟩), .int .u8 (b.toNat : Int)] w fun e w' =>
    e = .returned (.int .i64 0) ∧ BdPost w w' g v room (dropE es b) u := by
  have C := Lib.hid (wnobodys_any h)
  rw [decide_eq_false hr] at C
  have D := Lib.hid (wholds_any h b)
  rw [hb] at D
  obtain ⟨k, tb, lf, vs, h⟩ := h
  have hlt := b.toNat_lt
  obtain ⟨t, c, q, hq, ha⟩ := h.at_ hlt hb
  have hv := ha.v_
  subst hv
  have h1 := ha.tb_
  have h4 := ha.lt_
  have h5 := ha.few_
  have hsum := h.pl.sum
  have hdl := drop_length hb
  have hlen := h.len
  have hk : k < 256 := by omega
  have hgt : g ≠ t := fun e => h.ne (by rw [e]; rfl)
  -- the four worlds
  obtain ⟨W1, hW1⟩ : ∃ W1, w.setCell ⟨g, 1 + b.toNat, none⟩ (.int .u16 0) = W1 := ⟨_, rfl⟩
  have z0 : w.frozen? ⟨g, 1 + b.toNat, none⟩ = false := Blk.fz h.head _
  have L1 : Lst W1 g (bdL room (turnN tb b.toNat 0) (.slice (some ⟨t, 0, none⟩) u c) lf k) := by rw [← hW1, ← bdL_setT hlt]; exact Lst.set1 h.head _ _
  have k1 : Kept (· = g) w W1 := by rw [← hW1]; exact Kept.set_ _ _ _ rfl
  have a1 : W1.cell? ⟨g, 514, none⟩ = some (.int .i64 (k : Int)) := by rw [Lst.at_ L1, bdL_lefts]
  have a2 : W1.cell? ⟨g, 258 + k, none⟩ = some (.int .u8 (lf k : Int)) := by rw [Lst.at_ L1, bdL_left hk]
  have a3 : W1.frozen? ⟨g, 258 + k, none⟩ = false := Blk.fz L1 _
  have HW1 := Lib.hid hW1
  have HP := Lib.hid (show ∃ W2, (W1.setCell ⟨g, 258 + k, none⟩ (.int .u8 (q : Int))).drew = W2 ∧ W2.cell? ⟨g, 514, none⟩ = some (.int .i64 (k : Int)) ∧ W2.frozen? ⟨g, 514, none⟩ = false ∧
      ∃ W3, W2.setCell ⟨g, 514, none⟩ (.int .i64 ((k : Int) + 1)) = W3 ∧ W3.cell? ⟨g, 257, none⟩ = some (.slice (some ⟨t, 0, none⟩) u c) ∧ (∃ y, W3.cell? ⟨t, q, none⟩ = some y) ∧ W3.frozen? ⟨t, q, none⟩ = false ∧
      Hid (BdPost w (W3.setCell ⟨t, q, none⟩ (ev none)) g (.slice (some ⟨t, 0, none⟩) u c) room (dropE es b) u) by
    have L2 := Lst.set1 L1 (258 + k) (.int .u8 (q : Int))
    rw [bdL_setL hk] at L2
    have L2 : Lst (W1.setCell ⟨g, 258 + k, none⟩ (.int .u8 (q : Int))).drew g (bdL room (turnN tb b.toNat 0) (.slice (some ⟨t, 0, none⟩) u c) (turnN lf k q) k) := L2
    have L3 := Lst.set1 L2 514 (.int .i64 ((k + 1 : Nat) : Int))
    rw [bdL_setK, show ((k + 1 : Nat) : Int) = (k : Int) + 1 by omega] at L3
    have k2 : Kept (· = g) W1 (W1.setCell ⟨g, 258 + k, none⟩ (.int .u8 (q : Int))).drew := (Kept.set_ (D := (· = g)) W1 ⟨g, 258 + k, none⟩ (.int .u8 (q : Int)) rfl).drew
    have k3 := k1.trans (k2.trans (Kept.set_ (D := (· = g)) (W1.setCell ⟨g, 258 + k, none⟩ (.int .u8 (q : Int))).drew ⟨g, 514, none⟩ (.int .i64 ((k : Int) + 1)) rfl))
    have O3 := k3.owns h.own_ (fun i hi e => h.ne (by rw [hi, e]))
    refine ⟨_, rfl, by rw [Lst.at_ L2, bdL_lefts], Blk.fz L2 _, _, rfl, by rw [Lst.at_ L3, bdL_things], ?_, O3.frozenAt q, Lib.hid ?_⟩
    · rw [O3.cellAt q (by omega), List.getElem?_map, List.getElem?_eq_getElem (show q < vs.length by omega)]; exact ⟨_, rfl⟩
    · have O4 := (World.ownsRow.stored O3 q (ev none)).1
      have k4 := Kept.set_ (D := (· = t)) ((W1.setCell ⟨g, 258 + k, none⟩ (.int .u8 (q : Int))).drew.setCell ⟨g, 514, none⟩ (.int .i64 ((k : Int) + 1))) ⟨t, q, none⟩ (ev none) rfl
      refine ⟨_, u, ⟨k + 1, turnN tb b.toNat 0, turnN lf k q, vs.set q none, h.pl.drop_has hb hq, by rw [List.length_set]; exact hlen, k4.blk L3 hgt, by rw [List.map_set]; exact O4, h.ne⟩, (k3.mono (fun i e => Or.inl e)).trans (k4.mono (fun i e => Or.inr (by rw [e]; rfl))), fun i hi => Or.inl hi, Nat.le_max_left _ _⟩)
  have ew : IntKind.u16.wrap ((q : Int) + 1 - 1) = (q : Int) := by rw [show ((q : Int) + 1 - 1) = (q : Int) by omega, IntKind.wrap_u16]; omega
  have e2 : (q : Int) + 1 - 1 = (q : Int) := by omega
  have ew2 : IntKind.u16.wrap (q : Int) = (q : Int) := by rw [IntKind.wrap_u16]; omega
  have ew3 : IntKind.u8.wrap (q : Int) = (q : Int) := by rw [IntKind.wrap_u8]; omega
  have ew4 : IntKind.i64.wrap ((k : Int) + 1) = (k : Int) + 1 := by rw [IntKind.wrap_i64]; omega
  have hbi : (b.toNat : Int) < 256 := by omega
  have hqi : (q : Int) < (u : Int) := by omega
  have hki : (k : Int) < 256 := by omega
  clear h hb hr ha hq L1 k1 hW1 hgt
  go_enter Tryz.func115, Tryz.ntmps115
  go_wp2_with fail
  (with_reducible refine C.out.mono ?_)
  rintro e w' ⟨rfl, rfl⟩
  go_wp2_with fail
  (with_reducible refine D.out.mono ?_)
  rintro e w' ⟨rfl, rfl⟩
  go_upto_region 7 with fail
  rw [HW1.out]
  clear HW1
  go_region
  go_upto_region 8 with fail
  obtain ⟨W2, hW2, b1, b2, W3, hW3, b3, ⟨y, b4⟩, b5, HE⟩ := HP.out
  rw [hW2]
  clear hW2 HP a1 a2 a3
  go_upto_region 9 with fail
  try rw [hW3]
  clear hW3 b1 b2
  go_wp2
  go_ret
  exact ⟨rfl, HE.out⟩

set_option maxRecDepth 100000 in
theorem wset_any (h : Bd w g v room es u) (hr : room ≠ 0) (b : UInt8) (x : Th) (z : Int) (hz : z = (b.toNat : Int)) : Calls Tryz.prog 121 #[.pointer (some ⟨g, 0, none⟩), .int .u8 z, ev x] w fun e w' =>
    e = .returned (.int .i64 (setN room es b)) ∧ BdPost w w' g v room (setR room es b x) u := by
  subst hz
  cases hb : hasE es b.toNat with
  | true =>
    refine (wset_has h hr b x hb).mono ?_
    rintro e w' ⟨rfl, h1⟩
    exact ⟨by simp [setN, hb], by simpa [setR, hb] using h1⟩
  | false =>
    by_cases hf : es.length = room
    · refine (wset_full h hr b x hb hf).mono ?_
      rintro e w' ⟨rfl, hs⟩
      refine ⟨by simp [setN, hb, hf], ?_⟩
      rw [setR, if_pos ⟨hb, hf⟩]
      exact ⟨v, u, h.still hs, Kept.still hs, fun i hi => Or.inl hi, Nat.le_max_left _ _⟩
    · refine (wset_more h b x hb (by have := h.few; omega)).mono ?_
      rintro e w' ⟨rfl, h1⟩
      exact ⟨by simp [setN, hf], by simpa [setR, hf] using h1⟩
set_option maxRecDepth 100000 in
theorem wdrop_any (h : Bd w g v room es u) (hr : room ≠ 0) (b : UInt8) (z : Int) (hz : z = (b.toNat : Int)) : Calls Tryz.prog 115 #[.pointer (some ⟨g, 0, none⟩), .int .u8 z] w fun e w' =>
    e = .returned (.int .i64 (dropN es b)) ∧ BdPost w w' g v room (dropE es b) u := by
  subst hz
  cases hb : hasE es b.toNat with
  | true =>
    refine (wdrop_has h hr b hb).mono ?_
    rintro e w' ⟨rfl, h1⟩
    exact ⟨by simp [dropN, hb], h1⟩
  | false =>
    refine (wdrop_none h hr b hb).mono ?_
    rintro e w' ⟨rfl, hs⟩
    refine ⟨by simp [dropN, hb], ?_⟩
    unfold dropE
    rw [hb]
    exact ⟨v, u, h.still hs, Kept.still hs, fun i hi => Or.inl hi, Nat.le_max_left _ _⟩
set_option maxRecDepth 100000 in
theorem wget_z (h : Bd w g v room es u) (b : UInt8) (z : Int) (hz : z = (b.toNat : Int)) : Calls Tryz.prog 116 #[.pointer (some ⟨g, 0, none⟩), .int .u8 z] w fun e w' => e = .returned (.tuple #[ev (getE es b.toNat), .bool (hasE es b.toNat)]) ∧ Still w w' := by
  subst hz
  exact wget_any h b
end
end Go.Proofs.YtgelmhldicmmdaaGreat
